package ferry

import (
	"math/rand"
	"slices"
	"testing"

	"ferryman/api"
	"ferryman/elder"
	"ferryman/newer"
	"ferryman/view"
)

// field: a worker that may build at 4, 4, three soldiers of the other player about that place, and three workers about a mine that is nearly dug up.
// Who is built has the ID behind all.
func field(more ...api.Ent) api.Elder {
	return from(20, append([]api.Ent{
		one(1, 0, api.Worker, 5, 5),
		one(2, 1, api.Soldier, 3, 3), one(3, 1, api.Soldier, 3, 4), one(4, 1, api.Soldier, 3, 5),
		hurt(one(5, api.Nobody, api.Mine, 9, 9), 1),
		aims(one(6, 0, api.Worker, 8, 8), api.Mines, 5),
		aims(one(7, 0, api.Worker, 9, 8), api.Mines, 5),
		aims(one(8, 0, api.Worker, 10, 8), api.Mines, 5),
	}, more...)...)
}

// idle: the same state, but that these do nothing.
func idle(s api.Elder, ids ...int) api.Elder {
	for i, e := range s.Ents {
		if slices.Contains(ids, e.ID) {
			s.Ents[i].Does, s.Ents[i].Target = api.Idle, 0
		}
	}
	return s
}

// mule is built at 4, 4, and struck down; what else is told stands behind.
func mule(s api.Elder, more ...api.Cmd) []api.Cmd {
	return append(cmds(build(0, 1, api.Mule, 4, 4), attack(1, 2, s.Next), attack(1, 3, s.Next), attack(1, 4, s.Next)), more...)
}

func empty() api.Cmd {
	return api.Cmd{}
}

func going(e api.Ent, x, y int) api.Ent {
	e.Does, e.GX, e.GY = api.Going, x, y
	return e
}

// G2, W1: a mule comes, and is gone within the tick, and what was paid for it can be made up for: a reel is asked for, with as many orders.
func TestGone(t *testing.T) {
	plain := field()
	two := idle(field(), 7, 8)
	four := idle(field(one(9, 1, api.Soldier, 5, 3)), 7, 8)
	falling := field(one(9, 1, api.Soldier, 8, 6), one(10, 1, api.Worker, 10, 10))
	falling.Ents[5].HP, falling.Ents[7].Owner, falling.Ents[8] = 2, 1, aims(falling.Ents[8], api.Fights, 6)
	blocked := field(going(one(9, 0, api.Worker, 4, 5), 4, 0))
	straying := field(hurt(one(9, 1, api.Soldier, 8, 4), 2), aims(one(10, 0, api.Soldier, 9, 5), api.Fights, 9))
	rivals := field(one(9, 0, api.Worker, 1, 8), one(10, 0, api.Worker, 1, 10))
	chased := field(going(one(9, 0, api.Worker, 1, 8), 11, 8), going(one(10, 0, api.Worker, 1, 9), 11, 9), aims(one(11, 1, api.Soldier, 6, 11), api.Fights, 9))
	twins := field(going(one(9, 0, api.Worker, 1, 8), 11, 8), going(one(10, 0, api.Worker, 1, 9), 11, 9))
	for _, c := range []struct {
		name string
		s    api.Elder
		l    []api.Cmd
	}{
		{"a worker in its place, and two miners stop", plain, mule(plain, empty(), empty())},
		{"what is passed over is room, too", plain, mule(plain, move(0, 99, 1, 1), stop(1, 1))},
		{"two who were told to mine are not", two, mule(two, mine(0, 7, 5), mine(0, 8, 5))},
		{"who was told to mine is not, and one stops", idle(field(), 7), mule(plain, mine(0, 7, 5), empty())},
		{"a soldier in its place, and one more mines", four, mule(four, attack(1, 9, 10), empty())},
		{"a miner that is gone stops", falling, mule(falling, empty(), empty())},
		{"it stands in the way", blocked, mule(blocked, empty(), empty())},
		{"one comes that stays", two, mule(two, build(0, 1, api.Worker, 6, 6), move(0, 10, 9, 0), mine(0, 7, 5), mine(0, 8, 5))},
		{"one comes that stays, and fights", idle(field(), 6, 7), mule(plain, build(0, 1, api.Worker, 6, 6), mine(0, 6, 5), attack(0, 10, 2), mine(0, 7, 5))},
		{"who is gone is not told", straying, mule(straying, attack(1, 9, 11), empty())},
		{"one comes that stays, and goes", plain, mule(plain, build(0, 1, api.Worker, 6, 6), move(0, 10, 9, 0), empty(), empty())},
		{"two that lay claim to a place in vain are told so", rivals, mule(rivals, move(0, 9, 3, 9), move(0, 10, 3, 9), empty(), empty())},
		{"of two that look the same one is chased", chased, mule(chased, move(0, 9, 11, 9), move(0, 10, 11, 8), empty())},
		{"two that look the same are not told", twins, mule(twins, move(0, 9, 11, 9), move(0, 10, 11, 8))},
	} {
		end, _, err := elder.Step(c.s, c.l)
		if err != nil || !muleCame(tape(c.s, c.l), 0) || !fitting(end) {
			t.Fatalf("%s: no mule comes, or it is not gone: %v, %v", c.name, end, err)
		}
		behind := [][]api.Cmd{
			cmds(build(0, 1, api.Worker, 4, 4), move(0, c.s.Next, 0, 0), attack(1, 2, c.s.Next), stop(0, 9), stop(0, 10)),
			cmds(build(0, 1, api.Worker, 6, 5), move(0, 5, 11, 11), move(0, 6, 0, 11), move(0, 9, 3, 11), move(0, 10, 5, 11), move(1, 9, 4, 11), attack(1, 3, 7)),
			nil, nil,
		}
		playedFromEach(t, c.name, tape(c.s, append([][]api.Cmd{c.l}, behind...)...))
	}
}

// crowd: a state with as much gold as those have, and IDs that rise by one.
func crowd(gold [2]int, l ...api.Ent) api.Elder {
	s := from(0, l...)
	s.Gold = gold
	return s
}

// G2, W1: ticks that were drawn, and whose reels are hard to find.
func TestGoneInACrowd(t *testing.T) {
	mines := func(id, owner, x, y, hp, ore int) api.Ent {
		return hurt(aims(one(id, owner, api.Worker, x, y), api.Mines, ore), hp)
	}
	for _, c := range []struct {
		name string
		s    api.Elder
		l    []api.Cmd
	}{
		{"two that lay claim to a place in vain need not do so", crowd([2]int{25, 27},
			hurt(one(1, 2, api.Mine, 6, 5), 1), mines(2, 1, 6, 6, 5, 1), mines(3, 1, 5, 4, 5, 1), mines(4, 1, 4, 5, 5, 1),
			one(5, 1, api.Worker, 2, 7), one(6, 0, api.Worker, 0, 7), going(one(7, 0, api.Soldier, 5, 3), 5, 3), one(8, 0, api.Soldier, 0, 4),
			one(9, 0, api.Soldier, 3, 3), hurt(one(10, 0, api.Soldier, 0, 5), 4), one(11, 0, api.Soldier, 2, 4)),
			cmds(build(1, 5, api.Mule, 3, 6), attack(0, 6, 12), attack(0, 7, 12), attack(0, 8, 12), attack(0, 9, 12), attack(0, 10, 12), mine(0, 10, 1))},
		{"one comes where a miner goes, who is gone", crowd([2]int{23, 23},
			hurt(one(1, 2, api.Mine, 5, 4), 1), mines(2, 0, 3, 6, 2, 1), mines(3, 1, 4, 3, 5, 1), mines(4, 0, 3, 3, 5, 1), mines(5, 0, 4, 5, 5, 1),
			mines(6, 0, 5, 3, 5, 1), mines(7, 1, 6, 3, 5, 1), hurt(one(8, 0, api.Worker, 6, 5), 4), hurt(one(9, 0, api.Worker, 1, 3), 2),
			one(10, 1, api.Worker, 0, 2), one(11, 1, api.Soldier, 2, 3), aims(one(12, 1, api.Soldier, 1, 4), api.Fights, 2), one(13, 1, api.Soldier, 1, 1)),
			cmds(build(0, 9, api.Mule, 1, 2), attack(1, 10, 14), attack(1, 11, 14), attack(1, 12, 14), attack(1, 13, 14), move(0, 8, 5, 4))},
		{"one comes where another one goes that looks the same", crowd([2]int{32, 5},
			hurt(one(1, 2, api.Mine, 2, 3), 1), mines(2, 0, 1, 4, 5, 1), mines(3, 0, 3, 2, 5, 1), mines(4, 0, 1, 2, 5, 1), mines(5, 1, 2, 5, 5, 1),
			mines(6, 0, 4, 4, 5, 1), mines(7, 0, 3, 1, 5, 1), one(8, 0, api.Worker, 5, 4), hurt(one(9, 1, api.Soldier, 4, 6), 7), one(10, 1, api.Worker, 5, 3),
			hurt(one(11, 1, api.Soldier, 2, 6), 7), one(12, 1, api.Soldier, 3, 3), one(13, 0, api.Worker, 1, 0)),
			cmds(build(0, 8, api.Mule, 4, 5), attack(1, 9, 14), attack(1, 10, 14), attack(1, 11, 14), attack(1, 12, 14), move(0, 6, 5, 5))},
	} {
		behind := cmds(move(0, 4, 0, 0), move(1, 4, 0, 0), attack(1, 11, 6), attack(0, 6, 11), move(0, 5, 9, 9), move(0, 6, 9, 9), build(0, 8, api.Worker, 5, 5))
		playedFromEach(t, c.name, tape(c.s, c.l, behind, nil, nil))
	}
}

// G2, W1: two come for one mule, and are gone, as three that were told to stop go on mining instead; no place is within reach of four soldiers.
func TestTwoForOne(t *testing.T) {
	s := from(20,
		one(1, 0, api.Worker, 5, 5),
		one(2, 1, api.Soldier, 2, 2), one(3, 1, api.Soldier, 2, 3), one(4, 1, api.Soldier, 2, 4),
		one(5, 1, api.Soldier, 8, 6), one(6, 1, api.Soldier, 8, 7), one(7, 1, api.Soldier, 8, 8),
		hurt(one(8, 2, api.Mine, 10, 1), 1),
		aims(one(9, 0, api.Worker, 9, 0), api.Mines, 8), aims(one(10, 0, api.Worker, 10, 0), api.Mines, 8),
		aims(one(11, 0, api.Worker, 11, 0), api.Mines, 8), aims(one(12, 0, api.Worker, 11, 1), api.Mines, 8))
	l := mule(s, stop(0, 9), stop(0, 10), stop(0, 11), empty())
	playedFromEach(t, "two for one", tape(s, l, cmds(build(0, 1, api.Worker, 4, 4), move(0, 8, 0, 0), move(0, 13, 0, 0)), nil))
	refused(t, "without the last order", tape(s, l[:7]), 0, 1, api.ErrCompat)
	for i := range 7 {
		s.Ents = append(s.Ents, one(13+i, 1, api.Worker, i, 11))
	}
	s.Next = 20
	refused(t, "without room for both", tape(s, mule(s, l[4:]...)), 0, 1, api.ErrCompat)
}

// W1: what no orders make up for is refused, with the Tick behind it; what comes behind that tick is carried over.
func TestGoneInVain(t *testing.T) {
	rich := field()
	rich.Ents[4].HP = 2
	others := field()
	others.Ents[5].Owner, others.Ents[6].Owner = 1, 1
	pair := field(one(9, 1, api.Soldier, 5, 3), one(10, 1, api.Soldier, 5, 4), one(11, 1, api.Soldier, 6, 4))
	poor := idle(field(one(9, 1, api.Soldier, 5, 3)), 7, 8)
	poor.Gold[0] = 7
	moves := cmds(move(0, 9, 11, 9), move(0, 10, 11, 8), move(1, 10, 11, 8))
	kinds := field(going(one(9, 0, api.Worker, 1, 8), 11, 8), going(hurt(one(10, 0, api.Soldier, 1, 9), 5), 11, 9))
	owners := field(going(one(9, 0, api.Worker, 1, 8), 11, 8), going(one(10, 1, api.Worker, 1, 9), 11, 9))
	for _, c := range []struct {
		name string
		s    api.Elder
		l    []api.Cmd
	}{
		{"a soldier costs too much", poor, mule(poor, attack(1, 9, 10), empty())},
		{"a soldier does not look like a worker", kinds, mule(kinds, moves[0], moves[1])},
		{"the other one's worker does not look like it", owners, mule(owners, moves[0], moves[2])},
		{"an order is wanting", field(), mule(field(), empty())},
		{"two orders are wanting", field(), mule(field())},
		{"who comes must be told, too", field(), mule(field(), build(0, 1, api.Worker, 6, 6), move(0, 10, 9, 0), empty())},
		{"the mine would not be gone", rich, mule(rich, empty(), empty(), empty(), empty())},
		{"the gold is the other one's", others, mule(others, empty(), empty(), empty(), empty())},
		{"nobody mines", idle(field(), 6, 7, 8), mule(field(), empty(), empty(), empty(), empty())},
		{"two mules", pair, mule(pair, build(0, 1, api.Mule, 6, 5), attack(1, 9, 13), attack(1, 10, 13), attack(1, 11, 13))},
	} {
		x := tape(c.s, c.l, cmds(move(0, 1, 9, 0), build(0, 1, api.Worker, 4, 4)), nil)
		x.Start.Tick = 7
		end, err := elder.Play(x, 1)
		if err != nil || !muleCame(x, 0) || !fitting(end) {
			t.Fatalf("%s: no mule comes, or it is not gone: %v, %v", c.name, end, err)
		}
		refused(t, c.name, x, 0, 8, api.ErrCompat)
		played(t, c.name, x, 1)
	}
}

// busy: a state in which some are hurt, and do one thing or another; the less, the greater calm is.
func busy(r *rand.Rand, s api.Elder, calm int) api.Elder {
	for i := range s.Ents[1:] {
		e := &s.Ents[i+1]
		if r.Intn(calm) == 0 {
			e.HP = 1 + r.Intn(3)
		}
		was := *e
		switch o := s.Ents[r.Intn(len(s.Ents))]; r.Intn(calm) {
		case 0:
			*e = going(*e, max(0, e.X+r.Intn(5)-2), max(0, e.Y+r.Intn(5)-2))
		case 1:
			*e = aims(*e, api.Fights, o.ID)
		case 2, 3, 4:
			*e = aims(*e, api.Mines, 1)
		}
		if elder.Check(s) != nil {
			*e = was
		}
	}
	return s
}

// drawnGone: a tick in which a mule comes, and is gone, beside a mine that is nearly dug up; false: it did not come out so.
func drawnGone(r *rand.Rand, calm int) (api.Elder, []api.Cmd, bool) {
	s := crowd([2]int{5 + r.Intn(30), 5 + r.Intn(30)}, hurt(one(1, api.Nobody, api.Mine, 4, 4), 1+r.Intn(2)))
	me := r.Intn(2)
	add := func(owner, kind, x, y int) {
		if x >= 0 && y >= 0 && len(s.Ents) < 19 && standing(s.Ents, place{x, y}) < 0 {
			s.Ents = append(s.Ents, one(s.Next, owner, kind, x, y))
			s.Next++
		}
	}
	for range 3 + r.Intn(7) {
		add([]int{me, me, me, 1 - me}[r.Intn(4)], api.Worker, 2+r.Intn(5), 2+r.Intn(5))
	}
	x, y := 1+r.Intn(7), 1+r.Intn(7)
	add(me, api.Worker, x, y)
	by, killers := s.Next-1, s.Next
	for range 3 + r.Intn(4) {
		add(1-me, api.Soldier, x+r.Intn(7)-3, y+r.Intn(7)-3)
	}
	l := cmds(build(me, by, api.Mule, x+r.Intn(3)-1, y+r.Intn(3)-1))
	for id := killers; id < s.Next && len(l) < 6; id++ {
		l = append(l, attack(1-me, id, s.Next))
	}
	mules := s.Next
	for range r.Intn(4) {
		add(r.Intn(2), 1+r.Intn(2), r.Intn(9), r.Intn(9))
	}
	for i := range l[1:] {
		l[i+1].Target += s.Next - mules
	}
	s = busy(r, s, calm)
	for len(l) < 8 && r.Intn(5) > 0 {
		e := s.Ents[r.Intn(len(s.Ents))]
		l = append(l, []api.Cmd{{}, mine(e.Owner, e.ID, 1), stop(e.Owner, e.ID), move(e.Owner, e.ID, r.Intn(9), r.Intn(9)),
			attack(e.Owner, e.ID, 1+r.Intn(s.Next)), build(e.Owner, e.ID, 1+r.Intn(2), e.X+1, e.Y)}[r.Intn(min(calm, 6))])
	}
	mid, err := elder.Moved(s, l)
	end, _, _ := elder.Step(s, l)
	return s, l, err == nil && fitting(end) && fitting(s) && find(mid.Ents, s.Next).Kind == api.Mule
}

// plainly: is there a reel with the commands as they are, but a worker or a soldier for the mule, and for what is empty, or tells one to mine, anything that a worker may be told of the mine?
func plainly(t *testing.T, s api.Elder, l []api.Cmd) bool {
	t.Helper()
	start, err := Carry(s)
	end, _, wrong := elder.Step(s, l)
	want := elderView(t, end, wrong)
	if err != nil {
		t.Fatal(err)
	}
	choices := []api.Order{{}}
	for _, u := range start.Units {
		if u.Kind == api.Worker {
			choices = append(choices, api.Order{Player: u.Owner, Verb: api.Halt, ID: u.ID}, api.Order{Player: u.Owner, Verb: api.Aim, ID: u.ID, Arg: 1})
		}
	}
	var room []int
	for i, c := range l {
		if c.Op == 0 || c.Op == api.CmdMine {
			room = append(room, i)
		}
	}
	for _, kind := range []int{api.Worker, api.Soldier} {
		other := slices.Clone(l)
		other[0].Kind = kind
		c := crossing{ids: numbers(s.Ents), next: start.Next}
		if tryEach(start, c.orders(s, other), room[:min(len(room), 3)], choices, want) {
			return true
		}
	}
	return false
}

// tryEach of the choices in each place where there is room.
func tryEach(s api.Newer, l []api.Order, room []int, choices []api.Order, want api.View) bool {
	if len(room) == 0 {
		end, _ := newer.Step(s, l)
		v, err := view.Newer(end)
		return err == nil && view.Same(v, want)
	}
	for _, o := range choices {
		l[room[0]] = o
		if tryEach(s, l, room[1:], choices, want) {
			return true
		}
	}
	return false
}

// G2, W1: of what is drawn so, whatever is carried over is played the same, and whatever can plainly be is carried over.
func TestGoneDrawn(t *testing.T) {
	r := rand.New(rand.NewSource(25))
	plain, carried, not := 0, 0, 0
	for carried < 400 {
		s, l, ok := drawnGone(r, 5+r.Intn(4))
		x := tape(s, l, drawnCmds(r, s, 2), nil)
		if end, _ := elder.Play(x, 3); !ok || checked(x) != nil || !fitting(end) {
			continue
		}
		_, tick, err := Translate(x, 0)
		switch {
		case err == nil:
			carried++
			played(t, "drawn", x, 0)
		case err == api.ErrCompat && tick == 1:
			not++
		case err != api.ErrCompat || tick != 2:
			t.Fatalf("%v: %d, %v", x, tick, err)
		}
		if (carried+not)%10 == 0 && plainly(t, s, l) {
			plain++
			if err != nil && tick == 1 {
				t.Fatalf("%v can be carried over", x)
			}
		}
	}
	if plain < 5 || not < 400 {
		t.Errorf("%d could plainly be, %d were carried over, %d were not", plain, carried, not)
	}
}
