package newer

import (
	"math"
	"slices"
	"testing"

	"ferryman/api"
)

// right: a state of these, with some gold.
func right(l ...api.Unit) api.Newer {
	s := api.Newer{Tick: 4, Gold: [2]int{20, 20}, Next: 1, Units: l}
	for _, u := range l {
		s.Next = u.ID + 1
	}
	return s
}

// one of that kind, idle, with all its HP (a mine: 9).
func one(id, owner, kind, x, y int) api.Unit {
	hp := hps[kind]
	if kind == api.Mine {
		hp = 9
	}
	return api.Unit{ID: id, Owner: owner, Kind: kind, X: x, Y: y, HP: hp}
}

// raised: one that came in the tick of such a state.
func raised(id, owner, kind, x, y int) api.Unit {
	u := one(id, owner, kind, x, y)
	u.Since = 4
	return u
}

func going(u api.Unit, x, y int) api.Unit {
	u.Does, u.GX, u.GY = api.Going, x, y
	return u
}

func fights(u api.Unit, target int) api.Unit {
	u.Does, u.Target = api.Fights, target
	return u
}

func mines(u api.Unit, target int) api.Unit {
	u.Does, u.Target = api.Mines, target
	return u
}

func moved(u api.Unit, x, y int) api.Unit {
	u.X, u.Y = x, y
	return u
}

func hurt(u api.Unit, hp int) api.Unit {
	u.HP = hp
	return u
}

func walk(player, id, x, y int) api.Order {
	return api.Order{Player: player, Verb: api.Go, ID: id, X: x, Y: y}
}

func aim(player, id, target int) api.Order {
	return api.Order{Player: player, Verb: api.Aim, ID: id, Arg: target}
}

func raise(player, id, kind, x, y int) api.Order {
	return api.Order{Player: player, Verb: api.Raise, ID: id, Arg: kind, X: x, Y: y}
}

func halt(player, id int) api.Order {
	return api.Order{Player: player, Verb: api.Halt, ID: id}
}

func orders(l ...api.Order) []api.Order { return l }

func copied(s api.Newer) api.Newer {
	s.Units = slices.Clone(s.Units)
	return s
}

func same(a, b api.Newer) bool {
	return a.Tick == b.Tick && a.Gold == b.Gold && a.Next == b.Next && slices.Equal(a.Units, b.Units)
}

// tick: from a state, by orders; behind it is what it was, one tick later, but for the edit.
type tick struct {
	name   string
	from   api.Newer
	orders []api.Order
	edit   func(s *api.Newer)
}

func testTicks(t *testing.T, l []tick) {
	t.Helper()
	for _, c := range l {
		want := copied(c.from)
		want.Tick++
		if c.edit != nil {
			c.edit(&want)
		}
		got, err := Step(c.from, c.orders)
		if err != nil || !same(got, want) {
			t.Errorf("%s:\n got %v, %v\nwant %v", c.name, got, err, want)
		}
	}
}

// at: the edit that lays one there where it was.
func at(i int, u api.Unit) func(s *api.Newer) {
	return func(s *api.Newer) { s.Units[i] = u }
}

// came: the edit that puts these behind the others, and leaves the owner of the first one so much gold.
func came(gold int, l ...api.Unit) func(s *api.Newer) {
	return func(s *api.Newer) {
		s.Gold[l[0].Owner], s.Next, s.Units = gold, s.Next+len(l), append(s.Units, l...)
	}
}

// D2: what is done, and what it did then is over.
func TestStepOrders(t *testing.T) {
	w, s := one(1, 0, api.Worker, 3, 3), one(7, 1, api.Soldier, 9, 9)
	m, k := one(300, api.Nobody, api.Mine, 0, 9), one(2000, 0, api.Tower, 0, 11)
	all := right(w, s, m, k)
	doing := right(going(w, 3, 9), fights(s, 1), m, k)
	testTicks(t, []tick{
		{"no order", all, nil, nil},
		{"go", all, orders(walk(0, 1, 5, 0)), at(0, going(moved(w, 4, 2), 5, 0))},
		{"go by one column", all, orders(walk(0, 1, 0, 3)), at(0, going(moved(w, 2, 3), 0, 3))},
		{"aim at a soldier", all, orders(aim(0, 1, 7)), at(0, fights(moved(w, 4, 4), 7))},
		{"aim at a worker", all, orders(aim(1, 7, 1)), at(1, fights(moved(s, 8, 8), 1))},
		{"aim at a tower, the last ID", all, orders(aim(1, 7, 2000)), at(1, fights(moved(s, 8, 10), 2000))},
		{"aim at a mine", all, orders(aim(0, 1, 300)), at(0, mines(moved(w, 2, 4), 300))},
		{"a tower aims from afar", all, orders(aim(0, 2000, 7)), at(3, fights(k, 7))},
		{"halt one that goes", doing, orders(halt(0, 1)), func(x *api.Newer) {
			x.Units[0], x.Units[1] = w, fights(moved(s, 8, 8), 1)
		}},
		{"halt one that fights", doing, orders(halt(1, 7)), func(x *api.Newer) {
			x.Units[0], x.Units[1] = going(moved(w, 3, 4), 3, 9), s
		}},
		{"going, then mining; fighting, then going", doing, orders(aim(0, 1, 300), walk(1, 7, 9, 0)), func(x *api.Newer) {
			x.Units[0], x.Units[1] = mines(moved(w, 2, 4), 300), going(moved(s, 9, 8), 9, 0)
		}},
		{"the later order holds", all, orders(walk(0, 1, 11, 3), aim(0, 1, 7), walk(0, 1, 0, 3)),
			at(0, going(moved(w, 2, 3), 0, 3))},
		{"the later order is passed over", all, orders(walk(0, 1, 11, 3), walk(0, 1, 12, 3), aim(0, 1, 2)),
			at(0, going(moved(w, 4, 3), 11, 3))},
		{"to where it is", all, orders(walk(0, 1, 3, 3)), nil},
		{"other fields say nothing", all, orders(api.Order{Player: 1, Verb: api.Aim, ID: 7, Arg: 1, X: -5, Y: 12},
			api.Order{Player: 0, Verb: api.Go, ID: 1, Arg: 2001, X: 4, Y: 3}), func(x *api.Newer) {
			x.Units[0], x.Units[1] = moved(w, 4, 3), fights(moved(s, 8, 8), 1)
		}},
		{"nor do they with halt", doing, orders(api.Order{Player: 1, Verb: api.Halt, ID: 7, Arg: -1, X: 12, Y: -1}), func(x *api.Newer) {
			x.Units[0], x.Units[1] = going(moved(w, 3, 4), 3, 9), s
		}},
	})
}

// D2: what is passed over; what it did goes on.
func TestStepPassedOver(t *testing.T) {
	w, s := one(1, 0, api.Worker, 3, 3), one(2, 1, api.Soldier, 9, 9)
	m, k, a := one(3, api.Nobody, api.Mine, 0, 9), one(4, 0, api.Tower, 0, 11), one(6, 0, api.Soldier, 6, 0)
	from := right(w, going(s, 9, 0), m, k, going(a, 0, 0))
	edit := func(x *api.Newer) { x.Units[1].Y, x.Units[4].X = 8, 5 }
	var l []tick
	for _, o := range []api.Order{
		walk(0, 5, 1, 1), walk(0, 0, 1, 1), walk(0, 7, 1, 1), walk(0, -1, 1, 1), walk(0, math.MaxInt, 1, 1),
		walk(1, 1, 4, 4), walk(0, 2, 4, 4), walk(2, 1, 4, 4), walk(-1, 1, 4, 4),
		walk(0, 1, -1, 3), walk(0, 1, 12, 3), walk(0, 1, 3, -1), walk(0, 1, 3, 12), walk(0, 1, math.MinInt, math.MaxInt),
		walk(0, 4, 1, 11), walk(2, 3, 0, 8),
		aim(0, 1, 5), aim(0, 1, 0), aim(0, 1, -3), aim(0, 1, math.MaxInt), aim(0, 1, 1), aim(0, 1, 4), aim(0, 1, 6), aim(1, 1, 2),
		aim(0, 4, 3), aim(0, 4, 1), aim(2, 3, 1), aim(2, 3, 3), aim(1, 2, 3), aim(1, 2, 2), aim(1, 2, 7), aim(0, 6, 3),
		halt(1, 1), halt(0, 5), halt(0, 2), halt(2, 3), halt(1, 6),
		{Player: 0, Verb: 0, ID: 6, X: 1, Y: 1, Arg: 2}, {Player: 0, Verb: 5, ID: 6, X: 1, Y: 1, Arg: 2},
		{Player: 0, Verb: -1, ID: 6}, {Player: 0, Verb: math.MaxInt, ID: 6}, {Player: 0, Verb: math.MinInt, ID: 6}, {},
	} {
		l = append(l, tick{"passed over", from, orders(o), edit})
	}
	testTicks(t, l)
}

// D2: who raises, what, and where; its Since is the tick.
func TestStepRaise(t *testing.T) {
	w := one(1, 0, api.Worker, 3, 3)
	from := right(w)
	from.Gold = [2]int{15, 30}
	testTicks(t, []tick{
		{"worker", from, orders(raise(0, 1, api.Worker, 3, 4)), came(10, raised(2, 0, api.Worker, 3, 4))},
		{"soldier", from, orders(raise(0, 1, api.Soldier, 2, 2)), came(7, raised(2, 0, api.Soldier, 2, 2))},
		{"tower, for all that there is", from, orders(raise(0, 1, api.Tower, 4, 2)), came(0, raised(2, 0, api.Tower, 4, 2))},
		{"mule", from, orders(raise(0, 1, api.Mule, 4, 4)), nil},
		{"mine", from, orders(raise(0, 1, api.Mine, 4, 4)), nil},
		{"no kind", from, orders(raise(0, 1, 0, 4, 4), raise(0, 1, 6, 4, 4), raise(0, 1, -1, 4, 4)), nil},
		{"two columns away", from, orders(raise(0, 1, api.Worker, 5, 3), raise(0, 1, api.Worker, 1, 3)), nil},
		{"two rows away", from, orders(raise(0, 1, api.Worker, 3, 5), raise(0, 1, api.Worker, 4, 1)), nil},
		{"where it stands", from, orders(raise(0, 1, api.Worker, 3, 3)), nil},
		{"not its own", from, orders(raise(1, 1, api.Worker, 3, 4), raise(0, 2, api.Worker, 3, 4)), nil},
	})
	corner := right(one(1, 0, api.Worker, 0, 0), one(2, 1, api.Worker, 11, 11), one(3, api.Nobody, api.Mine, 1, 0))
	testTicks(t, []tick{
		{"off the board", corner, orders(raise(0, 1, api.Worker, -1, 0), raise(0, 1, api.Worker, 0, -1),
			raise(1, 2, api.Worker, 12, 11), raise(1, 2, api.Worker, 11, 12), raise(0, 1, api.Worker, math.MinInt, math.MaxInt)), nil},
		{"somebody stands there", corner, orders(raise(0, 1, api.Worker, 1, 0)), nil},
		{"the other player's", corner, orders(raise(1, 2, api.Worker, 10, 10)), came(15, raised(4, 1, api.Worker, 10, 10))},
	})
	for _, u := range []api.Unit{one(1, 0, api.Soldier, 3, 3), one(1, 0, api.Tower, 3, 3), one(1, 2, api.Mine, 3, 3)} {
		testTicks(t, []tick{{"by no worker", right(u), orders(raise(u.Owner, 1, api.Worker, 3, 4)), nil}})
	}
	for kind, cost := range map[int]int{api.Worker: 5, api.Soldier: 8, api.Tower: 15} {
		poor := right(w)
		poor.Gold = [2]int{cost - 1, 1000}
		testTicks(t, []tick{{"one gold too little", poor, orders(raise(0, 1, kind, 3, 4)), nil}})
	}
}

// D2: what it did goes on while it raises.
func TestStepRaiseGoesOn(t *testing.T) {
	w, m := one(1, 0, api.Worker, 3, 3), one(2, 2, api.Mine, 4, 3)
	n := raised(3, 0, api.Worker, 3, 4)
	testTicks(t, []tick{
		{"mining", right(mines(w, 2), m), orders(raise(0, 1, api.Worker, 3, 4)), func(s *api.Newer) {
			came(20-5+1, n)(s)
			s.Units[1].HP = 8
		}},
		{"going", right(going(w, 3, 0), m), orders(raise(0, 1, api.Worker, 3, 4)), func(s *api.Newer) {
			came(15, n)(s)
			s.Units[0].Y = 2
		}},
		{"by where it is ahead of its move", right(going(w, 3, 0), m), orders(raise(0, 1, api.Worker, 3, 1)), func(s *api.Newer) {
			s.Units[0].Y = 2
		}},
	})
}

// D2: the new one's ID is Next, gaps or not, up to its bound.
func TestStepRaiseIDs(t *testing.T) {
	w := func(id, x, y int) api.Unit { return raised(id, 0, api.Worker, x, y) }
	two := orders(raise(0, 4, api.Worker, 2, 2), raise(0, 4, api.Worker, 3, 2), raise(0, 4, api.Mule, 4, 2))
	from := func(next int) api.Newer {
		s := right(one(4, 0, api.Worker, 3, 3), one(6, 1, api.Soldier, 9, 9))
		s.Next = next
		return s
	}
	testTicks(t, []tick{
		{"behind all", from(7), two, came(10, w(7, 2, 2), w(8, 3, 2))},
		{"far behind all", from(500), two, came(10, w(500, 2, 2), w(501, 3, 2))},
		{"behind those of the elder game", from(201), two, came(10, w(201, 2, 2), w(202, 3, 2))},
		{"the last two", from(1999), two, came(10, w(1999, 2, 2), w(2000, 3, 2))},
		{"the last one", from(2000), two, came(15, w(2000, 2, 2))},
		{"none is left", from(2001), two, nil},
	})
}

// D2: as many as may be there, and not one more; gold and room are as the orders ahead left them.
func TestStepRaiseBounds(t *testing.T) {
	s := full(1)
	s.Gold[0] = 40
	testTicks(t, []tick{{"no room for one more", s, orders(raise(0, 20, 1, 10, 2)), nil}})
	last := s.Units[19]
	s.Units, s.Next = s.Units[:19], 20
	again := orders(raise(0, 19, 1, 9, 1), raise(0, 19, 1, 9, 2))
	testTicks(t, []tick{{"the last one", s, again, came(35, last)}})
	w := one(1, 0, api.Worker, 3, 3)
	poor := right(w)
	poor.Gold = [2]int{12, 0}
	testTicks(t, []tick{
		{"what one costs another one lacks", poor, orders(raise(0, 1, 2, 3, 4), raise(0, 1, 1, 4, 4)), came(4, raised(2, 0, api.Soldier, 3, 4))},
		{"where one is raised another one isn't", poor, orders(raise(0, 1, 1, 3, 4), raise(0, 1, 1, 3, 4)), came(7, raised(2, 0, api.Worker, 3, 4))},
		{"what is mined comes too late", right(mines(w, 2), one(2, 2, api.Mine, 4, 3)), orders(raise(0, 1, 3, 3, 4), raise(0, 1, 1, 2, 2), raise(0, 1, 1, 2, 4)), func(s *api.Newer) {
			came(1, raised(3, 0, api.Tower, 3, 4), raised(4, 0, api.Worker, 2, 2))(s)
			s.Units[1].HP = 8
		}},
	})
	rich := right(w)
	rich.Gold[0] = 1000
	testTicks(t, []tick{{"from the most gold", rich, orders(raise(0, 1, 3, 3, 4), raise(0, 1, 3, 2, 4)),
		came(970, raised(2, 0, api.Tower, 3, 4), raised(3, 0, api.Tower, 2, 4))}})
}

// D2: Since is the tick, and stays, as that of all others does.
func TestStepSince(t *testing.T) {
	for now := range api.MaxTicks {
		old := one(1, 0, api.Worker, 3, 3)
		old.Since = now / 2
		s := api.Newer{Tick: now, Gold: [2]int{5, 0}, Next: 2, Units: []api.Unit{old}}
		got, err := Step(s, orders(raise(0, 1, api.Worker, 4, 4), walk(0, 1, 0, 3), walk(0, 2, 9, 9)))
		if now < api.MaxTicks-1 && err == nil {
			got, err = Step(got, nil)
		}
		if err != nil || len(got.Units) != 2 || got.Units[0].Since != now/2 || got.Units[1].Since != now {
			t.Errorf("in tick %d: %v, %v", now, got, err)
		}
	}
}

// D2: who came in this tick can be told, fought and stood in the way by, but neither goes nor strikes.
func TestStepNewborn(t *testing.T) {
	w, s := one(1, 0, api.Worker, 3, 3), one(2, 1, api.Soldier, 4, 4)
	n := raised(3, 0, api.Soldier, 3, 4)
	from := right(w, s)
	bear := raise(0, 1, api.Soldier, 3, 4)
	testTicks(t, []tick{
		{"told to go", from, orders(bear, walk(0, 3, 0, 0)), came(12, going(n, 0, 0))},
		{"told to go to where it is", from, orders(bear, walk(0, 3, 3, 4)), came(12, going(n, 3, 4))},
		{"told to fight", from, orders(bear, aim(0, 3, 2)), came(12, fights(n, 2))},
		{"told too early", from, orders(walk(0, 3, 0, 0), bear), came(12, n)},
		{"told to go, then to halt", from, orders(bear, walk(0, 3, 0, 0), halt(0, 3)), came(12, n)},
		{"fought at once", from, orders(bear, aim(1, 2, 3)), func(x *api.Newer) {
			came(12, hurt(n, 6))(x)
			x.Units[1] = fights(s, 3)
		}},
		{"in the way", right(w, going(s, 2, 4)), orders(bear), came(12, n)},
		{"as a worker it raises", from, orders(raise(0, 1, 1, 3, 4), raise(0, 3, 1, 3, 5)),
			came(10, raised(3, 0, api.Worker, 3, 4), raised(4, 0, api.Worker, 3, 5))},
		{"as a worker it doesn't mine yet", right(w, one(2, 2, api.Mine, 4, 4)), orders(raise(0, 1, 1, 3, 4), aim(0, 3, 2)),
			came(15, mines(raised(3, 0, api.Worker, 3, 4), 2))},
		{"there at the next tick", right(w, s, going(n, 3, 4)), nil, at(2, n)},
	})
	tired := right(mines(w, 2), one(2, 2, api.Mine, 4, 3), one(3, 1, api.Tower, 6, 3), one(4, 1, api.Tower, 6, 4))
	testTicks(t, []tick{
		{"gone at once: its ID is not taken again", tired, orders(raise(0, 1, 1, 4, 4), aim(1, 3, 5), aim(1, 4, 5)), func(x *api.Newer) {
			x.Gold[0], x.Next, x.Units[1].HP = 16, 6, 8
		}},
		{"its target is gone", right(w, hurt(s, 6), one(5, 0, api.Tower, 5, 5), one(6, 0, api.Tower, 6, 6)),
			orders(raise(0, 1, 2, 3, 4), aim(0, 7, 2), aim(0, 5, 2), aim(0, 6, 2)), func(x *api.Newer) {
				came(12, raised(7, 0, api.Soldier, 3, 4))(x)
				x.Units = slices.Delete(x.Units, 1, 2)
			}},
	})
}

// D2: moves, all at once, by where all are then.
func TestStepMoves(t *testing.T) {
	w := func(id, x, y int) api.Unit { return one(id, id%2, api.Worker, x, y) }
	s := func(id, x, y int) api.Unit { return one(id, id%2, api.Soldier, x, y) }
	testTicks(t, []tick{
		{"a slant, then straight", right(going(w(1, 3, 3), 9, 4)), nil, at(0, going(w(1, 4, 4), 9, 4))},
		{"two wish one place", right(going(w(1, 3, 3), 4, 9), going(w(2, 5, 3), 4, 9)), nil, nil},
		{"three wish one place", right(going(w(1, 3, 3), 4, 4), going(w(2, 5, 3), 4, 4), going(w(3, 4, 5), 4, 4)), nil, nil},
		{"two that would change places", right(going(w(1, 3, 3), 4, 3), going(w(2, 4, 3), 3, 3)), nil, nil},
		{"one behind the other", right(going(w(1, 3, 3), 9, 3), going(w(2, 4, 3), 9, 3)), nil, at(1, going(w(2, 5, 3), 9, 3))},
		{"one behind the other, the other way", right(going(w(1, 4, 3), 9, 3), going(w(2, 3, 3), 9, 3)), nil, at(0, going(w(1, 5, 3), 9, 3))},
		{"a mine in the way", right(going(w(1, 3, 3), 9, 3), one(2, 2, api.Mine, 4, 3)), nil, nil},
		{"a place that is taken", right(going(w(1, 3, 3), 4, 3), w(2, 4, 3)), nil, nil},
		{"straight to the left, straight up", right(going(w(1, 5, 4), 2, 4), going(w(2, 7, 8), 7, 2)), nil, func(x *api.Newer) {
			x.Units[0], x.Units[1] = going(w(1, 4, 4), 2, 4), going(w(2, 7, 7), 7, 2)
		}},
		{"column and row are not mixed up", right(going(w(1, 2, 8), 3, 9), w(2, 9, 3)), nil, at(0, w(1, 3, 9))},
		{"arrived", right(going(w(1, 3, 3), 4, 2)), nil, at(0, w(1, 4, 2))},
		{"there from the beginning", right(going(w(1, 3, 3), 3, 3)), nil, at(0, w(1, 3, 3))},
		{"two pass by each other", right(going(w(1, 3, 3), 4, 4), going(w(2, 4, 3), 3, 4)), nil, func(x *api.Newer) {
			x.Units[0], x.Units[1] = w(1, 4, 4), w(2, 3, 4)
		}},
		{"a wish that isn't granted stands against another one", right(going(w(1, 3, 3), 4, 3), w(2, 4, 3), going(w(3, 5, 3), 4, 3)), nil, nil},
		{"one that fights and one that goes wish one place", right(fights(s(1, 0, 0), 2), w(2, 9, 0), going(w(3, 2, 0), 1, 0)), nil, nil},
		{"to a target that goes away", right(fights(s(1, 0, 0), 2), going(w(2, 3, 0), 9, 0)), nil, func(x *api.Newer) {
			x.Units[0], x.Units[1] = fights(s(1, 1, 0), 2), going(w(2, 4, 0), 9, 0)
		}},
		{"to where the target is, not where it will be", right(fights(s(1, 0, 5), 2), going(w(2, 4, 5), 4, 0)), nil, func(x *api.Newer) {
			x.Units[0], x.Units[1] = fights(s(1, 1, 5), 2), going(w(2, 4, 4), 4, 0)
		}},
		{"near, and the target goes away", right(fights(s(1, 0, 0), 2), going(w(2, 2, 0), 9, 0)), nil, at(1, going(w(2, 3, 0), 9, 0))},
	})
}

// D2: how near is near, of each kind (a tower reaches four steps), and what it takes then.
func TestStepNear(t *testing.T) {
	reach := map[int]int{api.Worker: 1, api.Soldier: 2, api.Tower: 4}
	harm := map[int]int{api.Worker: 1, api.Soldier: 2, api.Tower: 3}
	for kind, far := range reach {
		for d := 1; d < 8; d++ {
			for _, slant := range []int{0, 1} {
				from := right(fights(one(1, 0, kind, 0, 0), 2), one(2, 1, api.Tower, d, d*slant))
				moves := d > far && kind != api.Tower
				testTicks(t, []tick{{"fights", from, nil, func(s *api.Newer) {
					if moves {
						s.Units[0].X, s.Units[0].Y = 1, slant
					}
					if d <= far || moves && d-1 <= far {
						s.Units[1].HP -= harm[kind]
					}
				}}})
			}
		}
	}
	for d := 1; d < 5; d++ {
		from := right(mines(one(1, 1, api.Worker, 5, 0), 2), one(2, 2, api.Mine, 5-d, d))
		testTicks(t, []tick{{"mines", from, nil, func(s *api.Newer) {
			if d > 1 {
				s.Units[0].X, s.Units[0].Y = 4, 1
			}
			if d <= 2 {
				s.Units[1].HP, s.Gold[1] = 8, 21
			}
		}}})
	}
}

// D2: blows, all at once.
func TestStepBlows(t *testing.T) {
	s := func(id, x int) api.Unit { return one(id, id%2, api.Soldier, x, 0) }
	left := func(l ...api.Unit) func(x *api.Newer) {
		return func(x *api.Newer) { x.Units = l }
	}
	testTicks(t, []tick{
		{"both strike", right(fights(s(1, 0), 2), fights(s(2, 1), 1)), nil, func(x *api.Newer) { x.Units[0].HP, x.Units[1].HP = 6, 6 }},
		{"both are gone", right(fights(hurt(s(1, 0), 2), 2), fights(hurt(s(2, 1), 1), 1)), nil, left()},
		{"three, round about", right(fights(hurt(s(2, 0), 1), 3), fights(hurt(s(3, 1), 1), 4), fights(hurt(s(4, 2), 1), 3)), nil, left(hurt(s(2, 0), 1))},
		{"who is gone strikes, whatever its ID", right(fights(s(1, 0), 2), fights(hurt(s(2, 1), 2), 3), s(3, 2)), nil, left(s(1, 0), hurt(s(3, 2), 6))},
		{"harm adds up", right(fights(s(1, 0), 4), fights(s(3, 1), 4), s(4, 2), fights(one(5, 1, api.Tower, 6, 0), 4)), nil, func(x *api.Newer) {
			x.Units[2].HP = 1
		}},
		{"by where they are behind the moves", right(fights(s(1, 0), 2), going(s(2, 3), 0, 0)), nil, func(x *api.Newer) {
			x.Units[0].X, x.Units[1].X, x.Units[1].HP = 1, 2, 6
		}},
	})
}

// D2: a Load to its owner, up to MuchGold, however much of the mine is left.
func TestStepGold(t *testing.T) {
	ore := func(hp int) api.Unit { return hurt(one(3, 2, api.Mine, 1, 1), hp) }
	a, b, c := one(1, 0, api.Worker, 0, 0), one(2, 1, api.Worker, 2, 2), one(4, 0, api.Worker, 0, 1)
	from := func(hp, first, second int) api.Newer {
		s := right(mines(a, 3), mines(b, 3), ore(hp), mines(c, 3))
		s.Gold = [2]int{first, second}
		return s
	}
	gold := func(first, second int) func(x *api.Newer) {
		return func(x *api.Newer) { x.Gold, x.Units[2].HP = [2]int{first, second}, x.Units[2].HP-3 }
	}
	spent := func(x *api.Newer) { x.Gold, x.Units = [2]int{22, 21}, []api.Unit{a, b, c} }
	testTicks(t, []tick{
		{"each to its own", from(100, 20, 20), nil, gold(22, 21)},
		{"the last of it", from(3, 20, 20), nil, spent},
		{"more than is left", from(1, 20, 20), nil, spent},
		{"beyond the elder game's bound", from(9, 39, 40), nil, gold(41, 41)},
		{"up to the bound", from(9, 999, 999), nil, gold(1000, 1000)},
		{"just the bound", from(9, 998, 1000), nil, gold(1000, 1000)},
		{"below the bound", from(9, 997, 998), nil, gold(999, 999)},
		{"at the bound", from(9, 1000, 0), nil, gold(1000, 1)},
	})
}

// D2: who is gone leaves no free ID; who had it as a target is idle, whoever else is left.
func TestStepGone(t *testing.T) {
	k := one(6, 0, api.Tower, 5, 5)
	from := right(one(2, 0, api.Worker, 0, 0), fights(hurt(one(4, 1, api.Worker, 6, 5), 3), 6), fights(k, 4),
		fights(one(7, 0, api.Tower, 7, 7), 4), fights(one(8, 0, api.Soldier, 11, 0), 4), hurt(one(9, 1, api.Worker, 6, 6), 1),
		fights(one(10, 0, api.Tower, 4, 4), 9), fights(one(11, 1, api.Tower, 0, 11), 2), hurt(one(12, 1, api.Worker, 7, 6), 2))
	testTicks(t, []tick{{"two are gone", from, nil, func(s *api.Newer) {
		s.Units = []api.Unit{s.Units[0], hurt(k, 19), one(7, 0, api.Tower, 7, 7), one(8, 0, api.Soldier, 10, 1), one(10, 0, api.Tower, 4, 4), s.Units[7], s.Units[8]}
	}}, {"the one with the last ID is gone", from, orders(aim(0, 7, 12)), func(s *api.Newer) {
		s.Units = []api.Unit{s.Units[0], hurt(k, 19), one(7, 0, api.Tower, 7, 7), one(8, 0, api.Soldier, 10, 1), one(10, 0, api.Tower, 4, 4), s.Units[7]}
	}}})
	behind, err := Step(from, orders(aim(0, 7, 12)))
	if err != nil {
		t.Fatal(err)
	}
	got, err := Step(behind, orders(raise(0, 2, 1, 0, 1), raise(0, 2, 1, 1, 0)))
	if err != nil || len(got.Units) != 8 || got.Units[6].ID != 13 || got.Units[7].ID != 14 || got.Next != 15 {
		t.Errorf("IDs behind those that are gone: %v, %v; want 13, 14", got, err)
	}
}

// D2: errors, and which one is told; Z1: with nothing beside them.
func TestStepErrors(t *testing.T) {
	last := camp()
	last.Tick = 60
	wrong := camp()
	wrong.Units[5].HP = 6
	late := last
	late.Next = 5
	for _, c := range []struct {
		name string
		s    api.Newer
		n    int
		want error
	}{
		{"as many orders as may be", camp(), 8, nil},
		{"too many orders", camp(), 9, api.ErrMany},
		{"the last tick", last, 0, api.ErrMany},
		{"a state that isn't right", wrong, 0, api.ErrBound},
		{"that ahead of too many orders", wrong, 9, api.ErrBound},
		{"that ahead of the last tick", late, 0, api.ErrShape},
		{"no state at all", api.Newer{}, 0, api.ErrBound},
	} {
		got, err := Step(c.s, make([]api.Order, c.n))
		if err != c.want {
			t.Errorf("%s: %v; want %v", c.name, err, c.want)
		}
		if err != nil && !same(got, api.Newer{}) {
			t.Errorf("%s: %v beside an error", c.name, got)
		}
	}
	eve := camp()
	eve.Tick = 59
	if got, err := Step(eve, nil); err != nil || got.Tick != 60 {
		t.Errorf("to the last tick: %d, %v", got.Tick, err)
	}
}
