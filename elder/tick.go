package elder

import (
	"slices"

	"ferryman/api"
	"ferryman/rules"
)

// game: a tick under way.
type game struct {
	s    api.Elder
	was  map[int]int // by ID: who was there at the beginning
	born []int       // who came, in order
}

type place struct{ x, y int }

func begin(s api.Elder) *game {
	g := &game{s: fresh(s), was: map[int]int{}}
	for _, e := range s.Ents {
		g.was[e.ID] = 1
	}
	return g
}

// moved: a tick with these commands, as far as its blows.
func moved(s api.Elder, l []api.Cmd) (*game, error) {
	if err := Check(s); err != nil {
		return nil, err
	}
	if len(l) > api.MaxCmds || s.Tick == api.MaxTicks {
		return nil, api.ErrMany
	}
	g := begin(s)
	for _, c := range l {
		g.command(c)
	}
	g.move()
	g.arrive()
	return g, nil
}

// command: done, or passed over.
func (g *game) command(c api.Cmd) {
	i := index(g.s.Ents, c.ID)
	if i < 0 || g.s.Ents[i].Owner != c.Player {
		return
	}
	e := &g.s.Ents[i]
	switch c.Op {
	case api.CmdMove:
		if rules.On(c.X, c.Y) && rule(*e).Speed > 0 {
			turn(e, api.Going)
			e.GX, e.GY = c.X, c.Y
		}
	case api.CmdAttack:
		g.aim(e, api.Fights, c.Target)
	case api.CmdMine:
		g.aim(e, api.Mines, c.Target)
	case api.CmdBuild:
		g.build(*e, c)
	case api.CmdStop:
		turn(e, api.Idle)
	}
}

// turn to something else: what it did is over, with all that belonged to it.
func turn(e *api.Ent, does int) {
	e.Does, e.GX, e.GY, e.Target = does, 0, 0, 0
}

func (g *game) aim(e *api.Ent, does, target int) {
	if mayAim(g.s.Ents, *e, does, target) {
		turn(e, does)
		e.Target = target
	}
}

func (g *game) build(by api.Ent, c api.Cmd) {
	r, ok := rules.Elder(c.Kind)
	if !ok || c.Kind == api.Mine || by.Kind != api.Worker || !g.hasRoom(by, c.X, c.Y) {
		return
	}
	if g.s.Gold[by.Owner] < r.Cost || len(g.s.Ents) >= api.MaxEnts {
		return
	}
	id, ok := g.takeID()
	if !ok {
		return
	}
	g.s.Gold[by.Owner] -= r.Cost
	g.add(api.Ent{ID: id, Owner: by.Owner, Kind: c.Kind, X: c.X, Y: c.Y, HP: r.HP})
	g.born = append(g.born, id)
}

func (g *game) hasRoom(by api.Ent, x, y int) bool {
	return rules.On(x, y) && rules.Far(by.X, by.Y, x, y) <= 1 && standing(g.s.Ents, x, y) < 0
}

// takeID: the last one that is free, else the next one; false: none is left.
func (g *game) takeID() (int, bool) {
	if last := len(g.s.Free) - 1; last >= 0 {
		id := g.s.Free[last]
		g.s.Free = g.s.Free[:last]
		return id, true
	}
	if g.s.Next > api.MaxID {
		return 0, false
	}
	id := g.s.Next
	g.s.Next++
	return id, true
}

// add one where its ID belongs.
func (g *game) add(e api.Ent) {
	i := slices.IndexFunc(g.s.Ents, func(o api.Ent) bool { return o.ID > e.ID })
	g.s.Ents = append(g.s.Ents, e)
	if i >= 0 {
		copy(g.s.Ents[i+1:], g.s.Ents[i:])
		g.s.Ents[i] = e
	}
}

// drop the one at that index.
func (g *game) drop(i int) {
	copy(g.s.Ents[i:], g.s.Ents[i+1:])
	g.s.Ents = g.s.Ents[:len(g.s.Ents)-1]
}

// move all at once: a place is had by who alone lays claim to it, and who stands there does so, too.
func (g *game) move() {
	wishes := map[int]place{}
	claims := map[place]int{}
	for _, e := range g.s.Ents {
		claims[place{e.X, e.Y}]++
		if w, ok := g.wish(e); ok {
			wishes[e.ID] = w
			claims[w]++
		}
	}
	for i := range g.s.Ents {
		e := &g.s.Ents[i]
		if w, ok := wishes[e.ID]; ok && claims[w] == 1 {
			e.X, e.Y = w.x, w.y
		}
	}
}

// wish: the place that it wishes to go to; false: none, as of all who came in this tick.
func (g *game) wish(e api.Ent) (place, bool) {
	x, y := Wish(g.s.Ents, e)
	return place{x, y}, g.was[e.ID] > 0 && (x != e.X || y != e.Y)
}

// Wish: the place that one wishes to go to, by where all of these are; its own one: none.
func Wish(l []api.Ent, e api.Ent) (int, int) {
	if rule(e).Speed == 0 {
		return e.X, e.Y
	}
	if e.Does == api.Going {
		return rules.Toward(e.X, e.Y, e.GX, e.GY)
	}
	if i := index(l, e.Target); i >= 0 && !Near(e, l[i]) {
		return rules.Toward(e.X, e.Y, l[i].X, l[i].Y)
	}
	return e.X, e.Y
}

// Near enough to be fought, or mined?
func Near(e, target api.Ent) bool {
	reach := 1
	if e.Does == api.Fights {
		reach = rule(e).Range
	}
	return rules.Far(e.X, e.Y, target.X, target.Y) <= reach
}

// arrive: who was there, and is where it was going to, is idle.
func (g *game) arrive() {
	for i := range g.s.Ents {
		e := &g.s.Ents[i]
		if g.was[e.ID] > 0 && e.Does == api.Going && e.X == e.GX && e.Y == e.GY {
			turn(e, api.Idle)
		}
	}
}

// strike all at once: nobody is gone ahead of bury, whatever is left of its HP.
func (g *game) strike() {
	for _, e := range g.s.Ents {
		if g.was[e.ID] == 0 || e.Target == 0 {
			continue
		}
		target := &g.s.Ents[index(g.s.Ents, e.Target)]
		if !Near(e, *target) {
			continue
		}
		if e.Does == api.Fights {
			target.HP -= rule(e).Harm
			continue
		}
		target.HP -= rule(e).Load
		g.s.Gold[e.Owner] = min(g.s.Gold[e.Owner]+rule(e).Load, api.MaxGold)
	}
}

// bury who has no HP left; who had one of them as its target is idle.
func (g *game) bury() {
	dead := func(e api.Ent) bool { return e.HP <= 0 }
	for i := slices.IndexFunc(g.s.Ents, dead); i >= 0; i = slices.IndexFunc(g.s.Ents, dead) {
		g.s.Free = append(g.s.Free, g.s.Ents[i].ID)
		g.drop(i)
	}
	for i := range g.s.Ents {
		e := &g.s.Ents[i]
		if e.Target > 0 && index(g.s.Ents, e.Target) < 0 {
			turn(e, api.Idle)
		}
	}
}
