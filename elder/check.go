package elder

import (
	"slices"

	"ferryman/api"
	"ferryman/rules"
)

func checkState(s api.Elder) error {
	if !within(s.Tick, 0, api.MaxTicks) || !within(s.Next, 1, api.MaxID+1) {
		return api.ErrBound
	}
	for _, gold := range s.Gold {
		if !within(gold, 0, api.MaxGold) {
			return api.ErrBound
		}
	}
	if len(s.Ents) > api.MaxEnts || len(s.Free) > api.MaxID {
		return api.ErrMany
	}
	return nil
}

// checkEnt: the one at that index, by itself and then beside those ahead of it.
func checkEnt(s api.Elder, i int) error {
	e := s.Ents[i]
	if !inBounds(e) {
		return api.ErrBound
	}
	if !rightOwner(e) || !rightPlace(e) || !rightTarget(e) {
		return api.ErrShape
	}
	if i > 0 && e.ID <= s.Ents[i-1].ID || e.ID >= s.Next {
		return api.ErrShape
	}
	if standing(s.Ents[:i], e.X, e.Y) >= 0 {
		return api.ErrShape
	}
	return nil
}

func inBounds(e api.Ent) bool {
	r, ok := rules.Elder(e.Kind)
	most := r.HP
	if e.Kind == api.Mine {
		most = api.MaxOre
	}
	return ok && within(e.ID, 1, api.MaxID) && rules.On(e.X, e.Y) && within(e.HP, 1, most) &&
		within(e.Does, api.Idle, api.Mines) && within(e.Target, 0, api.MaxID)
}

func rightOwner(e api.Ent) bool {
	if e.Kind == api.Mine {
		return e.Owner == api.Nobody
	}
	return within(e.Owner, 0, api.Players-1)
}

func rightPlace(e api.Ent) bool {
	if e.Does == api.Going {
		return rules.On(e.GX, e.GY) && rule(e).Speed > 0
	}
	return e.GX == 0 && e.GY == 0
}

func rightTarget(e api.Ent) bool {
	aims := e.Does == api.Fights || e.Does == api.Mines
	return aims == (e.Target > 0)
}

// checkFree: as many as there are IDs below Next, and each of them there: so none is twice.
func checkFree(s api.Elder) error {
	if len(s.Ents)+len(s.Free) != s.Next-1 {
		return api.ErrShape
	}
	times := map[int]int{}
	for _, e := range s.Ents {
		times[e.ID]++
	}
	for _, id := range s.Free {
		times[id]++
	}
	for id := 1; id < s.Next; id++ {
		if times[id] != 1 {
			return api.ErrShape
		}
	}
	return nil
}

// mayAim: is the target there, and may it be fought, or mined, by that one?
func mayAim(l []api.Ent, e api.Ent, does, target int) bool {
	i := index(l, target)
	return i >= 0 && May(e, does, l[i])
}

// May it fight, or mine, that one?
func May(e api.Ent, does int, target api.Ent) bool {
	if does == api.Mines {
		return target.Kind == api.Mine && rule(e).Load > 0
	}
	return target.Kind != api.Mine && target.Owner != e.Owner && rule(e).Harm > 0
}

// index of who has the ID; -1: nobody.
func index(l []api.Ent, id int) int {
	return slices.IndexFunc(l, func(e api.Ent) bool { return e.ID == id })
}

// standing: index of who stands there; -1: nobody.
func standing(l []api.Ent, x, y int) int {
	return slices.IndexFunc(l, func(e api.Ent) bool { return e.X == x && e.Y == y })
}

func rule(e api.Ent) rules.Rule {
	r, _ := rules.Elder(e.Kind)
	return r
}

func within(n, least, most int) bool {
	return least <= n && n <= most
}
