package newer

import (
	"slices"

	"ferryman/api"
	"ferryman/rules"
)

func checkState(s api.Newer) error {
	if !within(s.Tick, 0, api.MaxTicks) || !within(s.Next, 1, api.MaxNum+1) {
		return api.ErrBound
	}
	for _, gold := range s.Gold {
		if !within(gold, 0, api.MuchGold) {
			return api.ErrBound
		}
	}
	if len(s.Units) > api.MaxEnts {
		return api.ErrMany
	}
	return nil
}

// checkUnit: the one at that index, by itself and then by its ID.
func checkUnit(s api.Newer, i int) error {
	u := s.Units[i]
	if !inBounds(u) || !within(u.Since, 0, s.Tick) {
		return api.ErrBound
	}
	if !rightOwner(u) || !rightPlace(u) || !rightTarget(u) {
		return api.ErrShape
	}
	if i > 0 && u.ID <= s.Units[i-1].ID || u.ID >= s.Next {
		return api.ErrShape
	}
	return nil
}

func inBounds(u api.Unit) bool {
	r, ok := rules.Newer(u.Kind)
	most := r.HP
	if u.Kind == api.Mine {
		most = api.MaxOre
	}
	return ok && within(u.ID, 1, api.MaxNum) && rules.On(u.X, u.Y) && within(u.HP, 1, most) &&
		within(u.Does, api.Idle, api.Mines) && within(u.Target, 0, api.MaxNum)
}

func rightOwner(u api.Unit) bool {
	if u.Kind == api.Mine {
		return u.Owner == api.Nobody
	}
	return within(u.Owner, 0, api.Players-1)
}

func rightPlace(u api.Unit) bool {
	if u.Does == api.Going {
		return rules.On(u.GX, u.GY) && rule(u).Speed > 0
	}
	return u.GX == 0 && u.GY == 0
}

func rightTarget(u api.Unit) bool {
	aims := u.Does == api.Fights || u.Does == api.Mines
	return aims == (u.Target > 0)
}

func checkTargets(l []api.Unit) error {
	for _, u := range l {
		if u.Target == 0 {
			continue
		}
		i := slices.IndexFunc(l, func(o api.Unit) bool { return o.ID == u.Target })
		if i < 0 || !may(u, u.Does, l[i]) {
			return api.ErrShape
		}
	}
	return nil
}

// may it fight, or mine, that one?
func may(u api.Unit, does int, target api.Unit) bool {
	if does == api.Mines {
		return target.Kind == api.Mine && rule(u).Load > 0
	}
	return target.Kind != api.Mine && target.Owner != u.Owner && rule(u).Harm > 0
}

func rule(u api.Unit) rules.Rule {
	r, _ := rules.Newer(u.Kind)
	return r
}

func within(n, least, most int) bool {
	return least <= n && n <= most
}
