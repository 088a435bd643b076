package ferry

import (
	"slices"

	"ferryman/api"
	"ferryman/elder"
)

// task: a scene, with those who come in it: what is each one to do?
type task struct {
	scene
	party  []api.Ent // who comes, in order
	by     []int     // the IDs of those who raise them
	all    []api.Ent // as the orders are done: who was there, and behind them who comes
	at     []api.Ent // the same, where they stand at the blows
	plans  [][]plan  // of each who was there
	claims []place   // to which plans lay claim in vain
	rest   []debt    // by how many have picked their plan: the most that the others can do
	failed map[debt]int
	picked []plan
}

// plan: what one does at the blows, so that it ends as it should.
type plan struct {
	does  api.Ent
	hit   int   // index of who is hit; below 0: nobody
	claim place // the place that it does not get, as another one wishes it, too; its own one: there is none
	order int   // 1: it must be told; 0: it does so already
}

// solve: a task of the scene that can be done, with the plans that are picked; false: none is found.
func (s scene) solve() (*task, bool) {
	for party := range s.parties {
		t, ok := s.task(party)
		if !ok {
			continue
		}
		if d := t.owed(); t.canMeet(d) && t.meet(d) {
			return t, true
		}
	}
	return nil, false
}

// task of the scene, with those who come; false: they can't, or somebody has no plan.
func (s scene) task(party []api.Ent) (*task, bool) {
	line, by, ok := s.lineUp(party)
	if !ok {
		return nil, false
	}
	t := &task{scene: s, party: line, by: by, all: append(slices.Clone(s.was.Ents), line...), failed: map[debt]int{}}
	for _, e := range t.all {
		if m := find(s.mid.Ents, e.ID); m.ID > 0 {
			e.X, e.Y = m.X, m.Y
		}
		t.at = append(t.at, e)
	}
	for i := range s.was.Ents {
		t.plans = append(t.plans, t.plansOf(i))
	}
	t.contest()
	// Who has no choice comes first, so that what can't be is soon known.
	slices.SortStableFunc(t.plans, func(a, b []plan) int { return len(a) - len(b) })
	t.measure()
	t.picked = make([]plan, len(t.plans))
	return t, len(t.plans) == 0 || len(t.plans[0]) > 0
}

// plansOf one: of those that do the same the first one, as what takes no order stands ahead.
func (t *task) plansOf(i int) []plan {
	var l []plan
	for _, e := range t.doings(i) {
		claim, ok := t.moves(i, e)
		if !ok || !t.endsWell(i, e) {
			continue
		}
		p := plan{does: e, hit: t.hit(i, e), claim: claim}
		if e != t.all[i] {
			p.order = 1
		}
		if !slices.ContainsFunc(l, func(o plan) bool { return o.hit == p.hit && o.claim == p.claim }) {
			l = append(l, p)
		}
	}
	return l
}

// doings: what one might do: what it does already, what it did in the elder game, what it does in the end, nothing but to be there, and whatever it may aim at.
func (t *task) doings(i int) []api.Ent {
	e, at := t.all[i], t.at[i]
	l := []api.Ent{e}
	for _, o := range []api.Ent{find(t.mid.Ents, e.ID), find(t.end.Ents, e.ID)} {
		if j := index(t.all, o.Target); o.Target == 0 || j >= 0 && elder.May(e, o.Does, t.all[j]) {
			l = append(l, turned(e, o.Does, o.GX, o.GY, o.Target))
		}
	}
	l = append(l, turned(e, api.Idle, 0, 0, 0), turned(e, api.Going, at.X, at.Y, 0))
	for _, o := range t.all {
		for _, does := range []int{api.Fights, api.Mines} {
			if elder.May(e, does, o) {
				l = append(l, turned(e, does, 0, 0, o.ID))
			}
		}
	}
	return l
}

// turned to something else.
func turned(e api.Ent, does, gx, gy, target int) api.Ent {
	e.Does, e.GX, e.GY, e.Target = does, gx, gy, target
	return e
}

// endsWell: if it does so, does it behind the tick what it should? Who is gone may have done anything.
// Who is where it goes to is Idle then, as is who lost its target: so nobody who was there can take the part of one who came, and was told to go to where it is.
func (t *task) endsWell(i int, e api.Ent) bool {
	there := e.Does == api.Going && place{e.GX, e.GY} == spot(t.at[i])
	lost := e.Target > 0 && index(t.end.Ents, e.Target) < 0
	if there || lost {
		e = turned(e, api.Idle, 0, 0, 0)
	}
	end := find(t.end.Ents, e.ID)
	return end.ID == 0 || e == turned(e, end.Does, end.GX, end.GY, end.Target)
}

// moves: if it does so, does it stand at the blows where it should? If only as it lays claim to a place in vain: to which one.
// That others will do so, too, is likely only of what it does already, or did in the elder game.
func (t *task) moves(i int, e api.Ent) (place, bool) {
	x, y := elder.Wish(t.all, e)
	to, here, at := place{x, y}, spot(e), spot(t.at[i])
	if at != here {
		return here, to == at
	}
	if to == here || standing(t.all, to) >= 0 {
		return here, true
	}
	mid := find(t.mid.Ents, e.ID)
	known := e == t.all[i] || e == turned(e, mid.Does, mid.GX, mid.GY, mid.Target)
	return to, known && standing(t.at, to) < 0
}

// hit: index of who is hit; below 0: nobody.
func (t *task) hit(i int, e api.Ent) int {
	e.X, e.Y = t.at[i].X, t.at[i].Y
	if j := index(t.all, e.Target); j >= 0 && elder.Near(e, t.at[j]) {
		return j
	}
	return -1
}

// contest: list the places to which plans lay claim in vain.
func (t *task) contest() {
	for _, p := range slices.Concat(t.plans...) {
		if p.claim != spot(p.does) && !slices.Contains(t.claims, p.claim) {
			t.claims = append(t.claims, p.claim)
		}
	}
}
