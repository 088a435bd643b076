package newer

import (
	"slices"

	"ferryman/api"
	"ferryman/rules"
)

// game: a tick under way.
type game struct {
	s   api.Newer
	who map[int]int // by ID: its index in the state's list
	old int         // how many were there at the beginning: as IDs only rise, who came stands behind them
}

// board: by row and column, how many lay claim to a place.
type board [api.Side][api.Side]int

type place struct{ x, y int }

func begin(s api.Newer) *game {
	g := &game{s: fresh(s), who: map[int]int{}, old: len(s.Units)}
	g.tell()
	return g
}

// tell anew who is who: taking one out shifts all behind it.
func (g *game) tell() {
	clear(g.who)
	for i, u := range g.s.Units {
		g.who[u.ID] = i
	}
}

// order: done, or passed over.
func (g *game) order(o api.Order) {
	i, ok := g.who[o.ID]
	if !ok || g.s.Units[i].Owner != o.Player {
		return
	}
	u := &g.s.Units[i]
	switch o.Verb {
	case api.Go:
		if rules.On(o.X, o.Y) && rule(*u).Speed > 0 {
			turn(u, api.Going)
			u.GX, u.GY = o.X, o.Y
		}
	case api.Aim:
		g.aim(u, o.Arg)
	case api.Raise:
		g.raise(*u, o)
	case api.Halt:
		turn(u, api.Idle)
	}
}

// turn to something else: what it did is over, with all that belonged to it.
func turn(u *api.Unit, does int) {
	u.Does, u.GX, u.GY, u.Target = does, 0, 0, 0
}

func (g *game) aim(u *api.Unit, id int) {
	i, ok := g.who[id]
	if !ok {
		return
	}
	does := api.Fights
	if g.s.Units[i].Kind == api.Mine {
		does = api.Mines
	}
	if may(*u, does, g.s.Units[i]) {
		turn(u, does)
		u.Target = id
	}
}

func (g *game) raise(by api.Unit, o api.Order) {
	r, ok := rules.Newer(o.Arg)
	if !ok || o.Arg == api.Mine || by.Kind != api.Worker || !g.hasRoom(by, o.X, o.Y) {
		return
	}
	if g.s.Gold[by.Owner] < r.Cost || len(g.s.Units) >= api.MaxEnts || g.s.Next > api.MaxNum {
		return
	}
	g.s.Gold[by.Owner] -= r.Cost
	u := api.Unit{ID: g.s.Next, Owner: by.Owner, Kind: o.Arg, X: o.X, Y: o.Y, HP: r.HP, Since: g.s.Tick}
	g.s.Next++
	g.who[u.ID] = len(g.s.Units)
	g.s.Units = append(g.s.Units, u)
}

func (g *game) hasRoom(by api.Unit, x, y int) bool {
	there := func(u api.Unit) bool { return u.X == x && u.Y == y }
	return rules.On(x, y) && rules.Far(by.X, by.Y, x, y) <= 1 && !slices.ContainsFunc(g.s.Units, there)
}

// move all at once: a place is had by who alone lays claim to it, and who stands there does so, too.
func (g *game) move() {
	var claims board
	for _, u := range g.s.Units {
		claims[u.Y][u.X]++
	}
	wishes := map[int]place{}
	for _, u := range g.s.Units[:g.old] {
		if w, ok := g.wish(u); ok {
			wishes[u.ID] = w
			claims[w.y][w.x]++
		}
	}
	for i := range g.s.Units {
		u := &g.s.Units[i]
		if w, ok := wishes[u.ID]; ok && claims[w.y][w.x] == 1 {
			u.X, u.Y = w.x, w.y
		}
	}
}

// wish: the place that it wishes to go to; false: none.
func (g *game) wish(u api.Unit) (place, bool) {
	to, ok := g.heading(u)
	if !ok || rule(u).Speed == 0 {
		return place{}, false
	}
	x, y := rules.Toward(u.X, u.Y, to.x, to.y)
	return place{x, y}, x != u.X || y != u.Y
}

// heading: where it would be in the end; false: nowhere else than here.
func (g *game) heading(u api.Unit) (place, bool) {
	switch u.Does {
	case api.Going:
		return place{u.GX, u.GY}, true
	case api.Fights, api.Mines:
		o := g.s.Units[g.who[u.Target]]
		return place{o.X, o.Y}, !near(u, o)
	}
	return place{}, false
}

// near enough to be fought, or mined?
func near(u, target api.Unit) bool {
	reach := 1
	if u.Does == api.Fights {
		reach = rule(u).Range
	}
	return rules.Far(u.X, u.Y, target.X, target.Y) <= reach
}

// arrive: who was there, and is where it was going to, is idle.
func (g *game) arrive() {
	for i := range g.s.Units[:g.old] {
		u := &g.s.Units[i]
		if u.Does == api.Going && u.X == u.GX && u.Y == u.GY {
			turn(u, api.Idle)
		}
	}
}

// strike all at once: nobody is gone ahead of bury, whatever is left of its HP.
func (g *game) strike() {
	for _, u := range g.s.Units[:g.old] {
		if u.Target == 0 {
			continue
		}
		target := &g.s.Units[g.who[u.Target]]
		if !near(u, *target) {
			continue
		}
		if u.Does == api.Fights {
			target.HP -= rule(u).Harm
			continue
		}
		target.HP -= rule(u).Load
		g.s.Gold[u.Owner] = min(g.s.Gold[u.Owner]+rule(u).Load, api.MuchGold)
	}
}

// bury who has no HP left; who had one of them as its target is idle.
func (g *game) bury() {
	g.s.Units = slices.DeleteFunc(g.s.Units, func(u api.Unit) bool { return u.HP <= 0 })
	g.tell()
	for i := range g.s.Units {
		u := &g.s.Units[i]
		if _, ok := g.who[u.Target]; u.Target > 0 && !ok {
			turn(u, api.Idle)
		}
	}
}
