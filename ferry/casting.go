package ferry

import (
	"slices"

	"ferryman/api"
	"ferryman/elder"
	"ferryman/rules"
)

// part that one who was there may have in a tick.
type part struct {
	at   place // where it stands at the blows
	slot int   // which of those it is who are there behind the tick; below 0: it is gone
}

// strays: how many may have another part than they had in the elder game.
const strays = 3

// castings: the tick as it was, and then with others in one or more of its parts: a view does not tell who is who.
func (s scene) castings(yield func(scene) bool) {
	var parts [][]part
	for i := range s.was.Ents {
		parts = append(parts, s.partsOf(i))
	}
	for n := range strays + 1 {
		if !s.cast(parts, nil, n, yield) {
			return
		}
	}
}

// cast those who have no part yet, so many of them otherwise than they were; false: enough.
func (s scene) cast(parts [][]part, given []part, others int, yield func(scene) bool) bool {
	i := len(given)
	if i == len(parts) {
		return others > 0 || !s.mayEnd(given) || yield(s.staged(given))
	}
	for k, p := range parts[i] {
		taken := func(o part) bool { return o.at == p.at }
		if min(k, 1) > others || slices.ContainsFunc(given, taken) {
			continue
		}
		if !s.cast(parts, append(given, p), others-min(k, 1), yield) {
			return false
		}
	}
	return true
}

// partsOf one, its own first. Who stays where it is has no other one: nobody else gets there.
// Who is gone may have stayed, or done what it does already; where others stand, now or behind the tick, it can't have been.
func (s scene) partsOf(i int) []part {
	e := s.was.Ents[i]
	own := part{spot(find(s.mid.Ents, e.ID)), index(s.end.Ents, e.ID)}
	if own.slot >= 0 && own.at == spot(e) {
		return []part{own}
	}
	l := []part{{spot(e), -1}}
	x, y := elder.Wish(s.was.Ents, e)
	if to := (place{x, y}); standing(s.was.Ents, to) < 0 && standing(s.end.Ents, to) < 0 {
		l = append(l, part{to, -1})
	}
	for j, o := range s.end.Ents {
		if o.Kind == e.Kind && o.Owner == e.Owner && rules.Far(e.X, e.Y, o.X, o.Y) <= 1 {
			l = append(l, part{spot(o), j})
		}
	}
	return append([]part{own}, slices.DeleteFunc(l, func(p part) bool { return p == own })...)
}

// mayEnd: are there strikers enough near all who are to be gone?
func (s scene) mayEnd(given []part) bool {
	at := s.placed(given)
	for i, p := range given {
		if p.slot < 0 && !mayFall(at, at[i]) {
			return false
		}
	}
	return true
}

// placed: who was there, where they stand at the blows.
func (s scene) placed(given []part) []api.Ent {
	l := slices.Clone(s.was.Ents)
	for i, p := range given {
		l[i].X, l[i].Y = p.at.x, p.at.y
	}
	return l
}

// staged: the tick with these parts. In what has no part one comes who stays.
func (s scene) staged(given []part) scene {
	end := slices.Clone(s.end.Ents)
	for i, e := range end {
		if k := slices.IndexFunc(given, func(p part) bool { return p.slot == i }); k >= 0 {
			end[i].ID = s.was.Ents[k].ID
		} else if index(s.was.Ents, e.ID) >= 0 {
			end[i].ID = stranger(spot(e))
		}
	}
	for i, e := range s.end.Ents {
		if e.Target > 0 {
			end[i].Target = end[index(s.end.Ents, e.Target)].ID
		}
	}
	mid := s.placed(given)
	for i, e := range mid {
		if did := find(s.mid.Ents, e.ID); given[i] == (part{spot(did), index(s.end.Ents, e.ID)}) {
			mid[i] = did
		}
	}
	for _, e := range slices.Concat(end, s.mid.Ents) {
		if index(s.was.Ents, e.ID) < 0 && standing(mid, spot(e)) < 0 {
			mid = append(mid, e)
		}
	}
	s.mid.Ents, s.end.Ents = mid, end
	return s
}

// stranger: an ID that nobody has, by the place.
func stranger(p place) int {
	return api.MaxID + 1 + p.y*api.Side + p.x
}
