package ferry

import (
	"slices"

	"ferryman/api"
	"ferryman/rules"
)

// debt: what is still to be met by those who have not picked their plan.
type debt struct {
	from   int                  // who picks next
	orders int                  // that are left
	gold   [api.Players]int     // that is to be dug up
	hp     [api.MaxEnts]int     // that each is to lose
	claims [2 * api.MaxEnts]int // by place: how many lay claim to it so far; one alone would get it; two are as good as more
}

// owed, as nobody has picked yet.
func (t *task) owed() debt {
	d := debt{orders: t.most - len(t.party)}
	for p := range api.Players {
		d.gold[p] = t.due(t.party, p)
	}
	for i, e := range t.all {
		end := find(t.end.Ents, e.ID)
		d.hp[i] = e.HP - end.HP
		if i >= len(t.was.Ents) && end.Does != api.Idle {
			d.orders--
		}
	}
	return d
}

// measure the most that those can do who pick last.
func (t *task) measure() {
	t.rest = make([]debt, len(t.plans)+1)
	for i, l := range slices.Backward(t.plans) {
		d := t.rest[i+1]
		digs := 0
		for _, p := range l {
			if p.hit >= 0 {
				d.hp[p.hit] += blow(p.does)
			}
			digs = max(digs, load(p))
			if c := slices.Index(t.claims, p.claim); c >= 0 {
				d.claims[c]++
			}
		}
		if digs > 0 {
			d.gold[l[0].does.Owner] += digs
		}
		t.rest[i] = d
	}
}

// blow: how much HP one takes from who is hit.
func blow(e api.Ent) int {
	r, _ := rules.Newer(e.Kind)
	if e.Does == api.Mines {
		return r.Load
	}
	return r.Harm
}

// load: how much gold is dug up.
func load(p plan) int {
	if p.hit < 0 || p.does.Does != api.Mines {
		return 0
	}
	return blow(p.does)
}

// meet what is owed: each one that is left picks a plan; false: they can't. What was tried in vain is not tried again.
func (t *task) meet(d debt) bool {
	if d.from == len(t.plans) {
		return true
	}
	if t.failed[d] > 0 {
		return false
	}
	for _, p := range t.plans[d.from] {
		if next := t.pay(d, p); t.canMeet(next) && t.meet(next) {
			t.picked[d.from] = p
			return true
		}
	}
	t.failed[d] = 1
	return false
}

// pay what a plan does. Who is to be gone may lose more than it has.
func (t *task) pay(d debt, p plan) debt {
	d.from++
	d.orders -= p.order
	if p.hit >= 0 {
		d.hp[p.hit] -= blow(p.does)
		if index(t.end.Ents, t.all[p.hit].ID) < 0 {
			d.hp[p.hit] = max(d.hp[p.hit], 0)
		}
	}
	if n := load(p); n > 0 {
		d.gold[p.does.Owner] -= n
	}
	if c := slices.Index(t.claims, p.claim); c >= 0 {
		d.claims[c] = min(d.claims[c]+1, 2)
	}
	return d
}

// canMeet: is nothing overpaid, and no more left than those can do who have not picked yet? (When all have: is all met?)
func (t *task) canMeet(d debt) bool {
	most := t.rest[d.from]
	for i, n := range d.hp {
		if n < 0 || n > most.hp[i] {
			return false
		}
	}
	for p, n := range d.gold {
		if n < 0 || n > most.gold[p] {
			return false
		}
	}
	for i, n := range d.claims {
		if n == 1 && most.claims[i] == 0 {
			return false
		}
	}
	return d.orders >= 0
}
