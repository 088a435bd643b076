package ferry

import (
	"slices"

	"ferryman/api"
	"ferryman/elder"
	"ferryman/rules"
)

// part that one who was there may have in a tick.
type part struct {
	at   place // where it stands at the blows
	slot int   // which of those it is who are there behind the tick; below 0: it is gone
	odd  int   // how unlikely it is that this helps; 0: its own part, as in the elder game
}

// oddest: how odd all parts may be together. There are too many castings to try them all.
const oddest = 4

// castings: the tick as it was, and then with others in one or more of its parts: a view does not tell who is who.
func (s scene) castings(yield func(scene) bool) {
	var parts [][]part
	for i := range s.was.Ents {
		parts = append(parts, s.partsOf(i))
	}
	for odd := range oddest + 1 {
		if !s.cast(parts, nil, odd, yield) {
			return
		}
	}
}

// cast those who have no part yet, just as odd as that; false: enough.
func (s scene) cast(parts [][]part, given []part, odd int, yield func(scene) bool) bool {
	i := len(given)
	if i == len(parts) {
		return odd > 0 || !s.mayEnd(given) || yield(s.staged(given))
	}
	for _, p := range parts[i] {
		taken := func(o part) bool { return o.at == p.at }
		if p.odd > odd || slices.ContainsFunc(given, taken) {
			continue
		}
		if !s.cast(parts, append(given, p), odd-p.odd, yield) {
			return false
		}
	}
	return true
}

// partsOf one. Who stays where it is has its own alone: nobody else gets there.
// Who is gone may have stayed, or done what it does already, or have been anywhere else where nobody stands, now or behind the tick.
func (s scene) partsOf(i int) []part {
	e := s.was.Ents[i]
	own := part{spot(find(s.mid.Ents, e.ID)), index(s.end.Ents, e.ID), 0}
	l := []part{own}
	if own.slot >= 0 && own.at == spot(e) {
		return l
	}
	wx, wy := elder.Wish(s.was.Ents, e)
	for n := range 9 {
		at := place{e.X - 1 + n%3, e.Y - 1 + n/3}
		p := part{at, standing(s.end.Ents, at), 1}
		switch {
		case !rules.On(at.x, at.y) || at != spot(e) && standing(s.was.Ents, at) >= 0:
			continue
		case p.slot >= 0 && (s.end.Ents[p.slot].Kind != e.Kind || s.end.Ents[p.slot].Owner != e.Owner):
			continue
		case p.slot < 0 && at != spot(e) && at != place{wx, wy}:
			p.odd = 2
		}
		if p.at != own.at || p.slot != own.slot {
			l = append(l, p)
		}
	}
	return l
}

// mayEnd: are there strikers enough near all who are to be gone?
func (s scene) mayEnd(given []part) bool {
	at := s.placed(given)
	for i, p := range given {
		if p.slot < 0 && !mayFall(at, at[i]) {
			return false
		}
	}
	return true
}

// placed: who was there, where they stand at the blows.
func (s scene) placed(given []part) []api.Ent {
	l := slices.Clone(s.was.Ents)
	for i, p := range given {
		l[i].X, l[i].Y = p.at.x, p.at.y
	}
	return l
}

// staged: the tick with these parts. In what has no part one comes who stays.
func (s scene) staged(given []part) scene {
	end := slices.Clone(s.end.Ents)
	for i, e := range end {
		if k := slices.IndexFunc(given, func(p part) bool { return p.slot == i }); k >= 0 {
			end[i].ID = s.was.Ents[k].ID
		} else if index(s.was.Ents, e.ID) >= 0 {
			end[i].ID = stranger(spot(e))
		}
	}
	for i, e := range s.end.Ents {
		if e.Target > 0 {
			end[i].Target = end[index(s.end.Ents, e.Target)].ID
		}
	}
	mid := s.placed(given)
	for i, e := range mid {
		if did := find(s.mid.Ents, e.ID); given[i].odd == 0 {
			mid[i] = did
		}
	}
	for _, e := range slices.Concat(end, s.mid.Ents) {
		if index(s.was.Ents, e.ID) < 0 && standing(mid, spot(e)) < 0 {
			mid = append(mid, e)
		}
	}
	s.mid.Ents, s.end.Ents = mid, end
	return s
}

// stranger: an ID that nobody has, by the place.
func stranger(p place) int {
	return api.MaxID + 1 + p.y*api.Side + p.x
}
