package ferry

import (
	"slices"

	"ferryman/api"
	"ferryman/elder"
)

// crossing: a play that is carried over, tick by tick.
type crossing struct {
	ids  map[int]int // by the elder game's ID: the newer one's, of all who are there
	next int         // the newer game's next ID
}

// numbers: the newer IDs of those that a play begins with.
func numbers(l []api.Ent) map[int]int {
	ids := map[int]int{}
	for i, e := range l {
		ids[e.ID] = i + 1
	}
	return ids
}

// unit of the newer game. Who has no target has 0 there: that is nobody's ID, so it becomes 0 again.
func unit(e api.Ent, ids map[int]int, since int) api.Unit {
	return api.Unit{
		ID: ids[e.ID], Owner: e.Owner, Kind: e.Kind, X: e.X, Y: e.Y, HP: e.HP,
		Does: e.Does, GX: e.GX, GY: e.GY, Target: ids[e.Target], Since: since,
	}
}

// tick: orders for its commands, as many; false: there are none that end as it did.
func (c *crossing) tick(was api.Elder, l []api.Cmd, end api.Elder) ([]api.Order, bool) {
	mid, err := elder.Moved(was, l)
	if err != nil {
		return nil, false
	}
	if slices.ContainsFunc(mid.Ents, func(e api.Ent) bool { return e.Kind == api.Mule }) {
		return c.amend(scene{was, mid, end, len(l)})
	}
	return c.orders(was, l), true
}

// orders for a tick's commands, one each.
func (c *crossing) orders(s api.Elder, l []api.Cmd) []api.Order {
	var out []api.Order
	known := 0
	for i, cmd := range l {
		out = append(out, c.order(s, cmd))
		if born := came(s, l[:i+1]); len(born) > known {
			c.ids[born[known]] = c.next
			c.next++
			known++
		}
	}
	return out
}

// came: who comes by these commands, in order. By how many more they are with a command it is known what came by it.
func came(s api.Elder, l []api.Cmd) []int {
	_, born, _ := elder.Step(s, l)
	return born
}

// order for a command. What the elder game passes over the newer one must, too: the empty order is nobody's.
func (c *crossing) order(s api.Elder, cmd api.Cmd) api.Order {
	id, ok := c.ids[cmd.ID]
	if !ok {
		return api.Order{}
	}
	switch cmd.Op {
	case api.CmdMove:
		return api.Order{Player: cmd.Player, Verb: api.Go, ID: id, X: cmd.X, Y: cmd.Y}
	case api.CmdAttack, api.CmdMine:
		target, ok := c.ids[cmd.Target]
		if ok && isMine(s, cmd.Target) == (cmd.Op == api.CmdMine) {
			return api.Order{Player: cmd.Player, Verb: api.Aim, ID: id, Arg: target}
		}
	case api.CmdBuild:
		return api.Order{Player: cmd.Player, Verb: api.Raise, ID: id, Arg: cmd.Kind, X: cmd.X, Y: cmd.Y}
	case api.CmdStop:
		return api.Order{Player: cmd.Player, Verb: api.Halt, ID: id}
	}
	return api.Order{}
}

// isMine: has a mine the ID? Mines are not built, so the state at the tick's beginning has them all.
func isMine(s api.Elder, id int) bool {
	return find(s.Ents, id).Kind == api.Mine
}

// forget who is gone: the elder game gives these IDs to others.
func (c *crossing) forget(free []int) {
	for _, id := range free {
		delete(c.ids, id)
	}
}
