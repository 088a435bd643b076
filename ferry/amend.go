package ferry

import "ferryman/api"

// amend: orders for a tick in which one came, and was gone, whom the newer game can't have; false: none are found.
// What was paid for that one must be made up for, so orders are looked for that end in the same way, whoever they are given to.
func (c *crossing) amend(s scene) ([]api.Order, bool) {
	for other := range s.castings {
		if t, ok := other.solve(); ok {
			l := c.write(t)
			c.settle(s.end.Ents, other.end.Ents)
			return l, true
		}
	}
	return nil, false
}

// settle: who is there behind the tick has the newer ID of who has its part.
func (c *crossing) settle(end, cast []api.Ent) {
	ids := map[int]int{}
	for i, e := range end {
		ids[e.ID] = c.ids[cast[i].ID]
	}
	c.ids = ids
}

// write the orders: first those that raise, so that who comes can be aimed at; empty ones, which are nobody's, fill them up.
func (c *crossing) write(t *task) []api.Order {
	var l []api.Order
	for i, e := range t.party {
		l = append(l, api.Order{Player: e.Owner, Verb: api.Raise, ID: c.ids[t.by[i]], Arg: e.Kind, X: e.X, Y: e.Y})
		c.ids[e.ID] = c.next
		c.next++
	}
	for _, e := range t.party {
		if end := find(t.end.Ents, e.ID); end.Does != api.Idle {
			l = append(l, c.tell(end))
		}
	}
	for _, p := range t.picked {
		if p.order > 0 {
			l = append(l, c.tell(p.does))
		}
	}
	return append(l, make([]api.Order, t.most-len(l))...)
}

// tell one to do what it does.
func (c *crossing) tell(e api.Ent) api.Order {
	o := api.Order{Player: e.Owner, Verb: api.Halt, ID: c.ids[e.ID]}
	switch e.Does {
	case api.Going:
		o.Verb, o.X, o.Y = api.Go, e.GX, e.GY
	case api.Fights, api.Mines:
		o.Verb, o.Arg = api.Aim, c.ids[e.Target]
	}
	return o
}
