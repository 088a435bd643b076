package ferry

import (
	"slices"

	"ferryman/api"
	"ferryman/elder"
	"ferryman/rules"
)

// scene: a tick of the elder game for which orders are looked for.
type scene struct {
	was, mid, end api.Elder // ahead of it, at its blows, behind it
	most          int       // as many orders as there are commands
}

type place struct{ x, y int }

func spot(e api.Ent) place {
	return place{e.X, e.Y}
}

// index of who has the ID; below 0: nobody.
func index(l []api.Ent, id int) int {
	return slices.IndexFunc(l, func(e api.Ent) bool { return e.ID == id })
}

// find who has the ID; nobody is all zero.
func find(l []api.Ent, id int) api.Ent {
	if i := index(l, id); i >= 0 {
		return l[i]
	}
	return api.Ent{}
}

// standing: index of who stands there; below 0: nobody.
func standing(l []api.Ent, p place) int {
	return slices.IndexFunc(l, func(e api.Ent) bool { return spot(e) == p })
}

// newcomers: who came in the tick, just as they did: those who are there behind it, and those who are gone.
func (s scene) newcomers() (stay, gone []api.Ent) {
	for _, e := range s.mid.Ents {
		if index(s.was.Ents, e.ID) >= 0 {
			continue
		}
		e = raised(e.ID, e.Owner, e.Kind, spot(e))
		if index(s.end.Ents, e.ID) >= 0 {
			stay = append(stay, e)
		} else {
			gone = append(gone, e)
		}
	}
	return stay, gone
}

func raised(id, owner, kind int, p place) api.Ent {
	r, _ := rules.Newer(kind)
	return api.Ent{ID: id, Owner: owner, Kind: kind, X: p.x, Y: p.y, HP: r.HP}
}

// guests: who might be raised, and be gone within the tick. (A Tower is never struck down so soon: it would take ten soldiers.)
func (s scene) guests(stay, gone []api.Ent) []api.Ent {
	old := slices.DeleteFunc(slices.Clone(s.mid.Ents), func(e api.Ent) bool { return index(s.was.Ents, e.ID) < 0 })
	var l []api.Ent
	for owner := range api.Players {
		for _, kind := range []int{api.Worker, api.Soldier} {
			if !s.mayHost(stay, raised(0, owner, kind, place{})) {
				continue
			}
			for _, e := range s.free(gone) {
				if e = raised(e.ID, owner, kind, spot(e)); mayFall(old, e) {
					l = append(l, e)
				}
			}
		}
	}
	return l
}

// mayHost: are there orders enough for a guest, and who digs up what is due? (With another guest it would be even more.)
func (s scene) mayHost(stay []api.Ent, guest api.Ent) bool {
	party := append(slices.Clone(stay), guest)
	return len(stay)+toll(guest) <= s.most && s.due(party, guest.Owner) <= s.diggers(guest.Owner)
}

// free places, on which nobody stands at the blows but who is gone: with its ID, else with one that nobody has.
func (s scene) free(gone []api.Ent) []api.Ent {
	var l []api.Ent
	for n := range api.Side * api.Side {
		p := place{n % api.Side, n / api.Side}
		if i := standing(gone, p); i >= 0 {
			l = append(l, gone[i])
		} else if standing(s.mid.Ents, p) < 0 {
			l = append(l, raised(stranger(p), 0, 0, p))
		}
	}
	return l
}

// mayFall: are there strikers enough among those who were there, as they stand at the blows, near enough to strike one down?
func mayFall(l []api.Ent, e api.Ent) bool {
	hp := e.HP
	for _, o := range l {
		for _, does := range []int{api.Fights, api.Mines} {
			o.Does = does
			if elder.May(o, does, e) && elder.Near(o, e) {
				hp -= blow(o)
			}
		}
	}
	return hp <= 0
}

// parties: who might come in the tick: those who stay, and with them no guest, one, or two: for three there are not orders enough.
func (s scene) parties(yield func([]api.Ent) bool) {
	stay, gone := s.newcomers()
	guests := s.guests(stay, gone)
	if s.affords(stay) && !yield(stay) {
		return
	}
	for i, a := range guests {
		one := append(slices.Clone(stay), a)
		if s.affords(one) && !yield(one) {
			return
		}
		for _, b := range guests[:i] {
			two := append(slices.Clone(one), b)
			if len(stay)+toll(a)+toll(b) <= s.most && s.affords(two) && !yield(two) {
				return
			}
		}
	}
}

// toll: how many orders it takes to raise one, and to have it struck down: no blow takes more than 2.
func toll(e api.Ent) int {
	return 1 + (e.HP+1)/2
}

// affords: is there gold, and room, for those who come, and can what is due then be dug up?
func (s scene) affords(party []api.Ent) bool {
	for p := range api.Players {
		if due := s.due(party, p); due < 0 || due > s.diggers(p) || bill(party, p) > s.was.Gold[p] {
			return false
		}
	}
	return len(s.was.Ents)+len(party) <= api.MaxEnts
}

// due: how much gold a player must dig up, if those come.
func (s scene) due(party []api.Ent, player int) int {
	return s.end.Gold[player] - s.was.Gold[player] + bill(party, player)
}

// diggers: how many of a player's workers are near a mine at the blows.
func (s scene) diggers(player int) int {
	sum := 0
	for _, e := range s.mid.Ents {
		e.Does = api.Mines
		near := func(o api.Ent) bool { return elder.May(e, api.Mines, o) && elder.Near(e, o) }
		if e.Owner == player && slices.ContainsFunc(s.mid.Ents, near) {
			sum++
		}
	}
	return sum
}

// bill: what a player pays for those who come.
func bill(party []api.Ent, player int) int {
	sum := 0
	for _, e := range party {
		if r, _ := rules.Newer(e.Kind); e.Owner == player {
			sum += r.Cost
		}
	}
	return sum
}

// lineUp those who come, each behind one who can raise it, whose ID stands beside; false: there is none.
func (s scene) lineUp(party []api.Ent) (line []api.Ent, by []int, ok bool) {
	there, left := slices.Clone(s.was.Ents), slices.Clone(party)
	for len(left) > 0 {
		id := 0
		i := slices.IndexFunc(left, func(e api.Ent) bool {
			id = builder(there, e)
			return id > 0
		})
		if i < 0 {
			return nil, nil, false
		}
		line, by, there = append(line, left[i]), append(by, id), append(there, left[i])
		left = slices.Delete(left, i, i+1)
	}
	return line, by, true
}

// builder: the ID of one who can raise that one where it is to stand; 0: nobody can.
func builder(l []api.Ent, e api.Ent) int {
	if standing(l, spot(e)) >= 0 {
		return 0
	}
	for _, o := range l {
		if o.Kind == api.Worker && o.Owner == e.Owner && rules.Far(o.X, o.Y, e.X, e.Y) <= 1 {
			return o.ID
		}
	}
	return 0
}
