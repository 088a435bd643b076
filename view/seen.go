package view

import (
	"cmp"
	"slices"

	"ferryman/api"
)

type place struct{ x, y int }

// all of a state that is right: so each target is there, and no two stand at one place.
func all(l []api.Ent) []api.Seen {
	at := places(l)
	var out []api.Seen
	for _, e := range l {
		out = append(out, seen(e, at[e.Target]))
	}
	slices.SortFunc(out, byRows)
	return out
}

// places by ID. 0 is nobody's ID, but the Target of who has none: so it stands nowhere.
func places(l []api.Ent) map[int]place {
	at := map[int]place{0: {-1, -1}}
	for _, e := range l {
		at[e.ID] = place{e.X, e.Y}
	}
	return at
}

func seen(e api.Ent, target place) api.Seen {
	return api.Seen{
		X: e.X, Y: e.Y, Owner: e.Owner, Kind: e.Kind, HP: e.HP,
		Does: e.Does, GX: e.GX, GY: e.GY, TX: target.x, TY: target.y,
	}
}

func byRows(a, b api.Seen) int {
	return cmp.Or(cmp.Compare(a.Y, b.Y), cmp.Compare(a.X, b.X))
}

// ents: what both games tell of one; the tick in which it came is not to be seen.
func ents(l []api.Unit) []api.Ent {
	var out []api.Ent
	for _, u := range l {
		out = append(out, api.Ent{
			ID: u.ID, Owner: u.Owner, Kind: u.Kind, X: u.X, Y: u.Y, HP: u.HP,
			Does: u.Does, GX: u.GX, GY: u.GY, Target: u.Target,
		})
	}
	return out
}
