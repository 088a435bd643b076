package elder

import (
	"math"
	"slices"
	"testing"

	"ferryman/api"
)

// right: a state of these, with some gold; the IDs that none of them has are free, the lowest one is taken first.
func right(l ...api.Ent) api.Elder {
	s := api.Elder{Tick: 4, Gold: [2]int{20, 20}, Next: 1, Ents: l}
	for _, e := range l {
		for ; s.Next < e.ID; s.Next++ {
			s.Free = append(s.Free, s.Next)
		}
		s.Next = e.ID + 1
	}
	slices.Reverse(s.Free)
	return s
}

// one of that kind, idle, with all its HP (a mine: 9).
func one(id, owner, kind, x, y int) api.Ent {
	hp := hps[kind]
	if kind == api.Mine {
		hp = 9
	}
	return api.Ent{ID: id, Owner: owner, Kind: kind, X: x, Y: y, HP: hp}
}

func going(e api.Ent, x, y int) api.Ent {
	e.Does, e.GX, e.GY = api.Going, x, y
	return e
}

func fights(e api.Ent, target int) api.Ent {
	e.Does, e.Target = api.Fights, target
	return e
}

func mines(e api.Ent, target int) api.Ent {
	e.Does, e.Target = api.Mines, target
	return e
}

func move(player, id, x, y int) api.Cmd {
	return api.Cmd{Player: player, Op: api.CmdMove, ID: id, X: x, Y: y}
}

func attack(player, id, target int) api.Cmd {
	return api.Cmd{Player: player, Op: api.CmdAttack, ID: id, Target: target}
}

func mine(player, id, target int) api.Cmd {
	return api.Cmd{Player: player, Op: api.CmdMine, ID: id, Target: target}
}

func build(player, id, kind, x, y int) api.Cmd {
	return api.Cmd{Player: player, Op: api.CmdBuild, ID: id, Kind: kind, X: x, Y: y}
}

func stop(player, id int) api.Cmd {
	return api.Cmd{Player: player, Op: api.CmdStop, ID: id}
}

func cmds(l ...api.Cmd) []api.Cmd { return l }

func copied(s api.Elder) api.Elder {
	s.Free, s.Ents = slices.Clone(s.Free), slices.Clone(s.Ents)
	return s
}

func same(a, b api.Elder) bool {
	return a.Tick == b.Tick && a.Gold == b.Gold && a.Next == b.Next &&
		slices.Equal(a.Free, b.Free) && slices.Equal(a.Ents, b.Ents)
}

// tick: from a state, by commands; behind it is what it was, one tick later, but for the edit.
type tick struct {
	name string
	from api.Elder
	cmds []api.Cmd
	edit func(s *api.Elder)
	born []int
}

func testTicks(t *testing.T, l []tick) {
	t.Helper()
	for _, c := range l {
		want := copied(c.from)
		want.Tick++
		if c.edit != nil {
			c.edit(&want)
		}
		got, born, err := Step(c.from, c.cmds)
		if err != nil || !same(got, want) || !slices.Equal(born, c.born) {
			t.Errorf("%s:\n got %v, %v, %v\nwant %v, %v", c.name, got, born, err, want, c.born)
		}
	}
}

// at: the edit that lays one there where it was.
func at(i int, e api.Ent) func(s *api.Elder) {
	return func(s *api.Elder) { s.Ents[i] = e }
}

// C3, 1: what is done, and what it did then is over.
func TestStepCommands(t *testing.T) {
	w, s := one(1, 0, api.Worker, 3, 3), one(2, 1, api.Soldier, 9, 9)
	m, k := one(3, api.Nobody, api.Mine, 0, 9), one(4, 0, api.Tower, 0, 11)
	all := right(w, s, m, k)
	moved := func(e api.Ent, x, y int) api.Ent { e.X, e.Y = x, y; return e }
	doing := right(going(w, 3, 9), fights(s, 1), m, k)
	testTicks(t, []tick{
		{"no command", all, nil, nil, nil},
		{"move", all, cmds(move(0, 1, 5, 0)), at(0, going(moved(w, 4, 2), 5, 0)), nil},
		{"move by one column", all, cmds(move(0, 1, 0, 3)), at(0, going(moved(w, 2, 3), 0, 3)), nil},
		{"attack", all, cmds(attack(1, 2, 1)), at(1, fights(moved(s, 8, 8), 1)), nil},
		{"mine", all, cmds(mine(0, 1, 3)), at(0, mines(moved(w, 2, 4), 3)), nil},
		{"a tower attacks from afar", all, cmds(attack(0, 4, 2)), at(3, fights(k, 2)), nil},
		{"stop one that goes", doing, cmds(stop(0, 1)), func(x *api.Elder) {
			x.Ents[0], x.Ents[1] = w, fights(moved(s, 8, 8), 1)
		}, nil},
		{"stop one that fights", doing, cmds(stop(1, 2)), func(x *api.Elder) {
			x.Ents[0], x.Ents[1] = going(moved(w, 3, 4), 3, 9), s
		}, nil},
		{"going, then mining; fighting, then going", doing, cmds(mine(0, 1, 3), move(1, 2, 9, 0)), func(x *api.Elder) {
			x.Ents[0], x.Ents[1] = mines(moved(w, 2, 4), 3), going(moved(s, 9, 8), 9, 0)
		}, nil},
		{"the later command holds", all, cmds(move(0, 1, 11, 3), attack(0, 1, 2), move(0, 1, 0, 3)),
			at(0, going(moved(w, 2, 3), 0, 3)), nil},
		{"the later command is passed over", all, cmds(move(0, 1, 11, 3), move(0, 1, 12, 3)),
			at(0, going(moved(w, 4, 3), 11, 3)), nil},
		{"to where it is", all, cmds(move(0, 1, 3, 3)), nil, nil},
		{"other fields say nothing", all, cmds(api.Cmd{Player: 1, Op: api.CmdAttack, ID: 2, Kind: 99, X: -5, Y: 12, Target: 1},
			api.Cmd{Player: 0, Op: api.CmdMove, ID: 1, Kind: -1, X: 4, Y: 3, Target: 200}), func(x *api.Elder) {
			x.Ents[0], x.Ents[1] = moved(w, 4, 3), fights(moved(s, 8, 8), 1)
		}, nil},
	})
}

// C3, 1: what is passed over; what it did goes on.
func TestStepPassedOver(t *testing.T) {
	w, s := one(1, 0, api.Worker, 3, 3), one(2, 1, api.Soldier, 9, 9)
	m, k, a := one(3, api.Nobody, api.Mine, 0, 9), one(4, 0, api.Tower, 0, 11), one(6, 0, api.Mule, 6, 0)
	from := right(w, going(s, 9, 0), m, k, going(a, 0, 0))
	edit := func(x *api.Elder) { x.Ents[1].Y, x.Ents[4].X = 8, 5 }
	var l []tick
	for _, c := range []api.Cmd{
		move(0, 5, 1, 1), move(0, 0, 1, 1), move(0, 7, 1, 1), move(0, -1, 1, 1), move(0, math.MaxInt, 1, 1),
		move(1, 1, 4, 4), move(0, 2, 4, 4), move(2, 1, 4, 4), move(-1, 1, 4, 4),
		move(0, 1, -1, 3), move(0, 1, 12, 3), move(0, 1, 3, -1), move(0, 1, 3, 12), move(0, 1, math.MinInt, math.MaxInt),
		move(0, 4, 1, 11), move(2, 3, 0, 8),
		attack(0, 1, 5), attack(0, 1, 0), attack(0, 1, -3), attack(0, 1, 1), attack(0, 1, 4), attack(0, 1, 3), attack(1, 1, 2),
		attack(0, 6, 2), attack(2, 3, 1), attack(1, 2, 3), attack(1, 2, 7),
		mine(0, 1, 2), mine(0, 1, 4), mine(0, 1, 5), mine(0, 1, 0), mine(1, 1, 3), mine(1, 2, 3), mine(0, 4, 3), mine(0, 6, 2), mine(2, 3, 3),
		stop(1, 1), stop(0, 5), stop(0, 2), stop(2, 3),
		{Player: 0, Op: 0, ID: 6, X: 1, Y: 1, Target: 3}, {Player: 0, Op: 6, ID: 6, X: 1, Y: 1, Target: 3},
		{Player: 0, Op: -1, ID: 6}, {Player: 0, Op: math.MaxInt, ID: 6}, {},
	} {
		l = append(l, tick{"passed over", from, cmds(c), edit, nil})
	}
	testTicks(t, l)
}

// C3, 1: who builds, what, and where.
func TestStepBuild(t *testing.T) {
	w := one(1, 0, api.Worker, 3, 3)
	from := right(w)
	from.Gold = [2]int{15, 30}
	built := func(e api.Ent, gold int) func(s *api.Elder) {
		return func(s *api.Elder) { s.Ents, s.Gold[e.Owner], s.Next = append(s.Ents, e), gold, s.Next+1 }
	}
	testTicks(t, []tick{
		{"worker", from, cmds(build(0, 1, api.Worker, 3, 4)), built(one(2, 0, api.Worker, 3, 4), 10), []int{2}},
		{"soldier", from, cmds(build(0, 1, api.Soldier, 2, 2)), built(one(2, 0, api.Soldier, 2, 2), 7), []int{2}},
		{"tower, for all that there is", from, cmds(build(0, 1, api.Tower, 4, 2)), built(one(2, 0, api.Tower, 4, 2), 0), []int{2}},
		{"mule", from, cmds(build(0, 1, api.Mule, 4, 4)), built(one(2, 0, api.Mule, 4, 4), 8), []int{2}},
		{"mine", from, cmds(build(0, 1, api.Mine, 4, 4)), nil, nil},
		{"no kind", from, cmds(build(0, 1, 0, 4, 4), build(0, 1, 6, 4, 4), build(0, 1, -1, 4, 4)), nil, nil},
		{"two columns away", from, cmds(build(0, 1, api.Worker, 5, 3), build(0, 1, api.Worker, 1, 3)), nil, nil},
		{"two rows away", from, cmds(build(0, 1, api.Worker, 3, 5), build(0, 1, api.Worker, 4, 1)), nil, nil},
		{"where it stands", from, cmds(build(0, 1, api.Worker, 3, 3)), nil, nil},
		{"not its own", from, cmds(build(1, 1, api.Worker, 3, 4), build(0, 2, api.Worker, 3, 4)), nil, nil},
	})
	corner := right(one(1, 0, api.Worker, 0, 0), one(2, 1, api.Worker, 11, 11), one(3, api.Nobody, api.Mine, 1, 0))
	testTicks(t, []tick{
		{"off the board", corner, cmds(build(0, 1, api.Worker, -1, 0), build(0, 1, api.Worker, 0, -1),
			build(1, 2, api.Worker, 12, 11), build(1, 2, api.Worker, 11, 12)), nil, nil},
		{"somebody stands there", corner, cmds(build(0, 1, api.Worker, 1, 0)), nil, nil},
		{"the other player's", corner, cmds(build(1, 2, api.Worker, 10, 10)), built(one(4, 1, api.Worker, 10, 10), 15), []int{4}},
	})
	for _, e := range []api.Ent{one(1, 0, api.Soldier, 3, 3), one(1, 0, api.Tower, 3, 3), one(1, 0, api.Mule, 3, 3), one(1, 2, api.Mine, 3, 3)} {
		testTicks(t, []tick{{"by no worker", right(e), cmds(build(e.Owner, 1, api.Worker, 3, 4)), nil, nil}})
	}
	for kind, cost := range map[int]int{api.Worker: 5, api.Soldier: 8, api.Tower: 15, api.Mule: 7} {
		poor := right(w)
		poor.Gold = [2]int{cost - 1, 40}
		testTicks(t, []tick{{"one gold too little", poor, cmds(build(0, 1, kind, 3, 4)), nil, nil}})
	}
}

// C3, 1: what it did goes on while it builds.
func TestStepBuildGoesOn(t *testing.T) {
	w, m := one(1, 0, api.Worker, 3, 3), one(2, 2, api.Mine, 4, 3)
	testTicks(t, []tick{
		{"mining", right(mines(w, 2), m), cmds(build(0, 1, api.Worker, 3, 4)), func(s *api.Elder) {
			s.Gold[0], s.Ents[1].HP, s.Next = 20-5+1, 8, 4
			s.Ents = append(s.Ents, one(3, 0, api.Worker, 3, 4))
		}, []int{3}},
		{"going", right(going(w, 3, 0), m), cmds(build(0, 1, api.Worker, 3, 4)), func(s *api.Elder) {
			s.Gold[0], s.Ents[0].Y, s.Next = 15, 2, 4
			s.Ents = append(s.Ents, one(3, 0, api.Worker, 3, 4))
		}, []int{3}},
		{"by where it is ahead of its move", right(going(w, 3, 0), m), cmds(build(0, 1, api.Worker, 3, 1)), func(s *api.Elder) {
			s.Ents[0].Y = 2
		}, nil},
	})
}

// C3, 1: the last of Free first, then Next; listed by rising ID.
func TestStepBuildIDs(t *testing.T) {
	from := right(one(4, 0, api.Worker, 3, 3), one(6, 1, api.Soldier, 9, 9))
	from.Free = []int{3, 1, 5, 2}
	from.Gold[0] = 35
	w := func(id, x, y int) api.Ent { return one(id, 0, api.Worker, x, y) }
	six := cmds(build(0, 4, 1, 2, 2), build(0, 4, 1, 3, 2), build(0, 4, 1, 4, 2), build(0, 4, 1, 2, 3), build(0, 4, 1, 4, 3), build(0, 4, 1, 2, 4))
	testTicks(t, []tick{
		{"one", from, six[:1], func(s *api.Elder) {
			s.Gold[0], s.Free = 30, []int{3, 1, 5}
			s.Ents = []api.Ent{w(2, 2, 2), s.Ents[0], s.Ents[1]}
		}, []int{2}},
		{"two", from, six[:2], func(s *api.Elder) {
			s.Gold[0], s.Free = 25, []int{3, 1}
			s.Ents = []api.Ent{w(2, 2, 2), s.Ents[0], w(5, 3, 2), s.Ents[1]}
		}, []int{2, 5}},
		{"six", from, six, func(s *api.Elder) {
			s.Gold[0], s.Free, s.Next = 5, nil, 9
			s.Ents = []api.Ent{w(1, 4, 2), w(2, 2, 2), w(3, 2, 3), s.Ents[0], w(5, 3, 2), s.Ents[1], w(7, 4, 3), w(8, 2, 4)}
		}, []int{2, 5, 1, 3, 7, 8}},
	})
	last := right(one(200, 0, api.Worker, 3, 3))
	testTicks(t, []tick{{"none but free ones is left", last, six[:0:0], nil, nil},
		{"a free one behind the last ID", last, cmds(build(0, 200, 1, 2, 2)), func(s *api.Elder) {
			s.Gold[0], s.Free = 15, s.Free[:198]
			s.Ents = []api.Ent{w(1, 2, 2), s.Ents[0]}
		}, []int{1}}})
}

// C3, 1: as many as may be there, and not one more; gold and room are as the commands ahead left them.
func TestStepBuildBounds(t *testing.T) {
	s := full(1)
	s.Gold[0] = 40
	testTicks(t, []tick{{"no room for one more", s, cmds(build(0, 20, 1, 10, 2)), nil, nil}})
	last := s.Ents[19]
	s.Ents, s.Next = s.Ents[:19], 20
	again := cmds(build(0, 19, 1, 9, 1), build(0, 19, 1, 9, 2))
	testTicks(t, []tick{{"the last one", s, again, func(s *api.Elder) {
		s.Gold[0], s.Next, s.Ents = 35, 21, append(s.Ents, last)
	}, []int{20}}})
	w := one(1, 0, api.Worker, 3, 3)
	poor := right(w)
	poor.Gold = [2]int{12, 0}
	testTicks(t, []tick{
		{"what one costs another one lacks", poor, cmds(build(0, 1, 2, 3, 4), build(0, 1, 1, 4, 4)), func(s *api.Elder) {
			s.Gold[0], s.Next, s.Ents = 4, 3, append(s.Ents, one(2, 0, api.Soldier, 3, 4))
		}, []int{2}},
		{"where one is built another one isn't", poor, cmds(build(0, 1, 1, 3, 4), build(0, 1, 1, 3, 4)), func(s *api.Elder) {
			s.Gold[0], s.Next, s.Ents = 7, 3, append(s.Ents, one(2, 0, api.Worker, 3, 4))
		}, []int{2}},
		{"what is mined comes too late", right(mines(w, 2), one(2, 2, api.Mine, 4, 3)), cmds(build(0, 1, 3, 3, 4), build(0, 1, 1, 2, 2), build(0, 1, 1, 2, 4)), func(s *api.Elder) {
			s.Gold[0], s.Next, s.Ents[1].HP = 1, 5, 8
			s.Ents = append(s.Ents, one(3, 0, api.Tower, 3, 4), one(4, 0, api.Worker, 2, 2))
		}, []int{3, 4}},
	})
}

// C3: who came in this tick can be told, fought and stood in the way by, but neither goes nor strikes.
func TestStepNewborn(t *testing.T) {
	w, s := one(1, 0, api.Worker, 3, 3), one(2, 1, api.Soldier, 4, 4)
	n := one(3, 0, api.Soldier, 3, 4)
	from := right(w, s)
	bear := build(0, 1, api.Soldier, 3, 4)
	with := func(e api.Ent) func(s *api.Elder) {
		return func(s *api.Elder) { s.Gold[0], s.Next, s.Ents = 12, 4, append(s.Ents, e) }
	}
	testTicks(t, []tick{
		{"told to go", from, cmds(bear, move(0, 3, 0, 0)), with(going(n, 0, 0)), []int{3}},
		{"told to go to where it is", from, cmds(bear, move(0, 3, 3, 4)), with(going(n, 3, 4)), []int{3}},
		{"told to fight", from, cmds(bear, attack(0, 3, 2)), with(fights(n, 2)), []int{3}},
		{"told too early", from, cmds(move(0, 3, 0, 0), bear), with(n), []int{3}},
		{"told to go, then to stop", from, cmds(bear, move(0, 3, 0, 0), stop(0, 3)), with(n), []int{3}},
		{"fought at once", from, cmds(bear, attack(1, 2, 3)), func(x *api.Elder) {
			hurt := n
			hurt.HP = 6
			with(hurt)(x)
			x.Ents[1] = fights(s, 3)
		}, []int{3}},
		{"in the way", right(w, going(s, 2, 4)), cmds(bear), with(n), []int{3}},
		{"as a worker it builds", from, cmds(build(0, 1, 1, 3, 4), build(0, 3, 1, 3, 5)), func(x *api.Elder) {
			x.Gold[0], x.Next = 10, 5
			x.Ents = append(x.Ents, one(3, 0, api.Worker, 3, 4), one(4, 0, api.Worker, 3, 5))
		}, []int{3, 4}},
	})
	tired := right(mines(w, 2), one(2, 2, api.Mine, 4, 3), one(3, 1, api.Tower, 6, 3), one(4, 1, api.Tower, 6, 4))
	testTicks(t, []tick{
		{"gone at once, and told all the same", tired, cmds(build(0, 1, 1, 4, 4), attack(1, 3, 5), attack(1, 4, 5)), func(x *api.Elder) {
			x.Gold[0], x.Next, x.Free, x.Ents[1].HP = 16, 6, []int{5}, 8
		}, []int{5}},
		{"its target is gone", right(w, s, one(5, 0, api.Tower, 5, 5), one(6, 0, api.Tower, 6, 6), one(7, 0, api.Tower, 2, 5)),
			cmds(build(0, 1, 2, 3, 4), attack(0, 3, 2), attack(0, 5, 2), attack(0, 6, 2), attack(0, 7, 2)), func(x *api.Elder) {
				x.Gold[0], x.Free = 12, []int{4, 2}
				x.Ents = []api.Ent{w, n, x.Ents[2], x.Ents[3], x.Ents[4]}
			}, []int{3}},
	})
}

// C3, 2: all at once, by where all are then.
func TestStepMoves(t *testing.T) {
	w := func(id, x, y int) api.Ent { return one(id, id%2, api.Worker, x, y) }
	s := func(id, x, y int) api.Ent { return one(id, id%2, api.Soldier, x, y) }
	testTicks(t, []tick{
		{"a slant, then straight", right(going(w(1, 3, 3), 9, 4)), nil, at(0, going(w(1, 4, 4), 9, 4)), nil},
		{"two wish one place", right(going(w(1, 3, 3), 4, 9), going(w(2, 5, 3), 4, 9)), nil, nil, nil},
		{"three wish one place", right(going(w(1, 3, 3), 4, 4), going(w(2, 5, 3), 4, 4), going(w(3, 4, 5), 4, 4)), nil, nil, nil},
		{"two that would change places", right(going(w(1, 3, 3), 4, 3), going(w(2, 4, 3), 3, 3)), nil, nil, nil},
		{"one behind the other", right(going(w(1, 3, 3), 9, 3), going(w(2, 4, 3), 9, 3)), nil, at(1, going(w(2, 5, 3), 9, 3)), nil},
		{"one behind the other, the other way", right(going(w(1, 4, 3), 9, 3), going(w(2, 3, 3), 9, 3)), nil, at(0, going(w(1, 5, 3), 9, 3)), nil},
		{"a mine in the way", right(going(w(1, 3, 3), 9, 3), one(2, 2, api.Mine, 4, 3)), nil, nil, nil},
		{"a place that is taken", right(going(w(1, 3, 3), 4, 3), w(2, 4, 3)), nil, nil, nil},
		{"straight to the left, straight up", right(going(w(1, 5, 4), 2, 4), going(w(2, 7, 8), 7, 2)), nil, func(x *api.Elder) {
			x.Ents[0], x.Ents[1] = going(w(1, 4, 4), 2, 4), going(w(2, 7, 7), 7, 2)
		}, nil},
		{"arrived", right(going(w(1, 3, 3), 4, 2)), nil, at(0, w(1, 4, 2)), nil},
		{"there from the beginning", right(going(w(1, 3, 3), 3, 3)), nil, at(0, w(1, 3, 3)), nil},
		{"two pass by each other", right(going(w(1, 3, 3), 4, 4), going(w(2, 4, 3), 3, 4)), nil, func(x *api.Elder) {
			x.Ents[0], x.Ents[1] = w(1, 4, 4), w(2, 3, 4)
		}, nil},
		{"a wish that isn't granted stands against another one", right(going(w(1, 3, 3), 4, 3), w(2, 4, 3), going(w(3, 5, 3), 4, 3)), nil, nil, nil},
		{"one that fights and one that goes wish one place", right(fights(s(1, 0, 0), 2), w(2, 9, 0), going(w(3, 2, 0), 1, 0)), nil, nil, nil},
		{"to a target that goes away", right(fights(s(1, 0, 0), 2), going(w(2, 3, 0), 9, 0)), nil, func(x *api.Elder) {
			x.Ents[0], x.Ents[1] = fights(s(1, 1, 0), 2), going(w(2, 4, 0), 9, 0)
		}, nil},
		{"to where the target is, not where it will be", right(fights(s(1, 0, 5), 2), going(w(2, 4, 5), 4, 0)), nil, func(x *api.Elder) {
			x.Ents[0], x.Ents[1] = fights(s(1, 1, 5), 2), going(w(2, 4, 4), 4, 0)
		}, nil},
		{"near, and the target goes away", right(fights(s(1, 0, 0), 2), going(w(2, 2, 0), 9, 0)), nil, at(1, going(w(2, 3, 0), 9, 0)), nil},
	})
}

// C3, 2 and 3: how near is near, of each kind, and what it takes then.
func TestStepNear(t *testing.T) {
	reach := map[int]int{api.Worker: 1, api.Soldier: 2, api.Tower: 3}
	harm := map[int]int{api.Worker: 1, api.Soldier: 2, api.Tower: 3}
	for kind, far := range reach {
		for d := 1; d < 8; d++ {
			for _, slant := range []int{0, 1} {
				from := right(fights(one(1, 0, kind, 0, 0), 2), one(2, 1, api.Tower, d, d*slant))
				moves := d > far && kind != api.Tower
				testTicks(t, []tick{{"fights", from, nil, func(s *api.Elder) {
					if moves {
						s.Ents[0].X, s.Ents[0].Y = 1, slant
					}
					if d <= far || moves && d-1 <= far {
						s.Ents[1].HP -= harm[kind]
					}
				}, nil}})
			}
		}
	}
	for kind, load := range map[int]int{api.Worker: 1, api.Mule: 2} {
		for d := 1; d < 5; d++ {
			from := right(mines(one(1, 1, kind, 5, 0), 2), one(2, 2, api.Mine, 5-d, d))
			testTicks(t, []tick{{"mines", from, nil, func(s *api.Elder) {
				if d > 1 {
					s.Ents[0].X, s.Ents[0].Y = 4, 1
				}
				if d <= 2 {
					s.Ents[1].HP, s.Gold[1] = 9-load, 20+load
				}
			}, nil}})
		}
	}
}

// C3, 3: all at once.
func TestStepBlows(t *testing.T) {
	hp := func(e api.Ent, hp int) api.Ent { e.HP = hp; return e }
	s := func(id, x int) api.Ent { return one(id, id%2, api.Soldier, x, 0) }
	gone := func(free ...int) func(x *api.Elder) {
		return func(x *api.Elder) { x.Ents, x.Free = nil, append(x.Free, free...) }
	}
	testTicks(t, []tick{
		{"both strike", right(fights(s(1, 0), 2), fights(s(2, 1), 1)), nil, func(x *api.Elder) { x.Ents[0].HP, x.Ents[1].HP = 6, 6 }, nil},
		{"both are gone", right(fights(hp(s(1, 0), 2), 2), fights(hp(s(2, 1), 1), 1)), nil, gone(1, 2), nil},
		{"three, round about", right(fights(hp(s(2, 0), 1), 3), fights(hp(s(3, 1), 1), 4), fights(hp(s(4, 2), 1), 3)), nil, func(x *api.Elder) {
			x.Ents, x.Free = []api.Ent{s(2, 0)}, []int{1, 3, 4}
			x.Ents[0].HP = 1
		}, nil},
		{"who is gone strikes, whatever its ID", right(fights(s(1, 0), 2), fights(hp(s(2, 1), 2), 3), s(3, 2)), nil, func(x *api.Elder) {
			x.Ents, x.Free = []api.Ent{s(1, 0), hp(s(3, 2), 6)}, []int{2}
		}, nil},
		{"harm adds up", right(fights(s(1, 0), 4), fights(s(3, 1), 4), hp(s(4, 2), 8), fights(one(5, 1, api.Tower, 5, 0), 4)), nil, func(x *api.Elder) {
			x.Ents[2].HP = 1
		}, nil},
		{"by where they are behind the moves", right(fights(s(1, 0), 2), going(s(2, 3), 0, 0)), nil, func(x *api.Elder) {
			x.Ents[0].X, x.Ents[1].X, x.Ents[1].HP = 1, 2, 6
		}, nil},
	})
}

// C3, 3: a Load to its owner, up to the bound, however much of the mine is left.
func TestStepGold(t *testing.T) {
	ore := func(hp int) api.Ent { e := one(3, 2, api.Mine, 1, 1); e.HP = hp; return e }
	a, b := mines(one(1, 0, api.Mule, 0, 0), 3), mines(one(2, 1, api.Worker, 2, 2), 3)
	c := mines(one(4, 0, api.Worker, 0, 1), 3)
	idle := func(x *api.Elder) {
		x.Free = []int{3}
		x.Ents = []api.Ent{one(1, 0, api.Mule, 0, 0), one(2, 1, api.Worker, 2, 2), one(4, 0, api.Worker, 0, 1)}
	}
	rich := func(s api.Elder, first, second int) api.Elder { s.Gold = [2]int{first, second}; return s }
	testTicks(t, []tick{
		{"each to its own", right(a, b, ore(100), c), nil, func(x *api.Elder) { x.Gold, x.Ents[2].HP = [2]int{23, 21}, 96 }, nil},
		{"the last of it", right(a, b, ore(4), c), nil, func(x *api.Elder) { x.Gold = [2]int{23, 21}; idle(x) }, nil},
		{"more than is left", right(a, b, ore(1), c), nil, func(x *api.Elder) { x.Gold = [2]int{23, 21}; idle(x) }, nil},
		{"up to the bound", rich(right(a, b, ore(9), c), 38, 39), nil, func(x *api.Elder) { x.Gold, x.Ents[2].HP = [2]int{40, 40}, 5 }, nil},
		{"just the bound", rich(right(a, b, ore(9), c), 37, 40), nil, func(x *api.Elder) { x.Gold, x.Ents[2].HP = [2]int{40, 40}, 5 }, nil},
		{"below the bound", rich(right(a, b, ore(9), c), 36, 38), nil, func(x *api.Elder) { x.Gold, x.Ents[2].HP = [2]int{39, 39}, 5 }, nil},
		{"at the bound", rich(right(a, b, ore(9), c), 40, 0), nil, func(x *api.Elder) { x.Gold, x.Ents[2].HP = [2]int{40, 1}, 5 }, nil},
	})
}

// C3, 4: IDs are put behind Free, rising, and are taken again from its end.
func TestStepGone(t *testing.T) {
	hp := func(e api.Ent, hp int) api.Ent { e.HP = hp; return e }
	k := one(6, 0, api.Tower, 5, 5)
	from := right(one(2, 0, api.Worker, 0, 0), fights(hp(one(4, 1, api.Worker, 6, 5), 3), 6), fights(k, 4),
		fights(one(7, 0, api.Tower, 7, 7), 4), fights(one(8, 0, api.Soldier, 11, 0), 4), hp(one(9, 1, api.Worker, 6, 6), 1), fights(one(10, 0, api.Tower, 4, 4), 9))
	from.Free = []int{5, 1, 3}
	testTicks(t, []tick{{"two are gone", from, nil, func(s *api.Elder) {
		s.Free = []int{5, 1, 3, 4, 9}
		w, so := s.Ents[0], one(8, 0, api.Soldier, 10, 1)
		s.Ents = []api.Ent{w, hp(k, 19), one(7, 0, api.Tower, 7, 7), so, one(10, 0, api.Tower, 4, 4)}
	}, nil}})
	behind, _, err := Step(from, nil)
	if err != nil {
		t.Fatal(err)
	}
	behind.Gold[0] = 15
	got, born, err := Step(behind, cmds(build(0, 2, 1, 0, 1), build(0, 2, 1, 1, 0), build(0, 2, 1, 1, 1)))
	if err != nil || !slices.Equal(born, []int{9, 4, 3}) || !slices.Equal(got.Free, []int{5, 1}) || got.Next != 11 {
		t.Errorf("taken again: %v, free %v, next %d, %v", born, got.Free, got.Next, err)
	}
}

// C3: errors, and which one is told; Z1: with nothing beside them.
func TestStepErrors(t *testing.T) {
	last := camp()
	last.Tick = 60
	wrong := camp()
	wrong.Ents[5].HP = 6
	late := last
	late.Free = nil
	for _, c := range []struct {
		name string
		s    api.Elder
		n    int
		want error
	}{
		{"as many commands as may be", camp(), 8, nil},
		{"too many commands", camp(), 9, api.ErrMany},
		{"the last tick", last, 0, api.ErrMany},
		{"a state that isn't right", wrong, 0, api.ErrBound},
		{"that ahead of too many commands", wrong, 9, api.ErrBound},
		{"that ahead of the last tick", late, 0, api.ErrShape},
	} {
		got, born, err := Step(c.s, make([]api.Cmd, c.n))
		if err != c.want {
			t.Errorf("%s: %v; want %v", c.name, err, c.want)
		}
		if err != nil && (!same(got, api.Elder{}) || len(born) > 0) {
			t.Errorf("%s: %v, %v beside an error", c.name, got, born)
		}
	}
	eve := camp()
	eve.Tick = 59
	if got, _, err := Step(eve, nil); err != nil || got.Tick != 60 {
		t.Errorf("to the last tick: %d, %v", got.Tick, err)
	}
}
