package ferry

import (
	"math"
	"slices"
	"testing"

	"ferryman/api"
	"ferryman/newer"
)

// G2: the document's example: how many ticks and orders there are, and what is then seen.
func TestSession(t *testing.T) {
	six := session()
	six.Ticks = six.Ticks[:6]
	for _, c := range []struct {
		x                   api.Tape
		from, ticks, orders int
	}{{six, 0, 6, 5}, {six, 3, 3, 0}, {session(), 0, 8, 7}} {
		reel, tick, err := Translate(c.x, c.from)
		orders := len(slices.Concat(reel.Ticks...))
		if err != nil || tick != 0 || len(reel.Ticks) != c.ticks || orders != c.orders {
			t.Errorf("from %d on: %v, %d, %v; want %d ticks, %d orders", c.from, reel, tick, err, c.ticks, c.orders)
		}
		end, err := newer.Play(reel, 6-c.from)
		v := newerView(t, end, err)
		want := []api.Seen{
			{X: 6, Y: 3, Owner: 2, Kind: 4, HP: 6, TX: -1, TY: -1},
			{X: 3, Y: 4, Owner: 0, Kind: 1, HP: 5, TX: -1, TY: -1},
			{X: 4, Y: 4, Owner: 0, Kind: 2, HP: 8, TX: -1, TY: -1},
		}
		if v.Tick != 6 || v.Gold != [2]int{10, 0} || !slices.Equal(v.All, want) {
			t.Errorf("from %d on: %v; want %v", c.from, v, want)
		}
	}
	playedFromEach(t, "session", session())
	rich := session()
	rich.Start.Gold[1] = 40
	refused(t, "much gold", rich, 2, 2, api.ErrCompat)
}

// G2: how the two games part, if a command is taken over as it stands.
func TestTranslateByHand(t *testing.T) {
	// Free are 1 and 3: who comes first has the ID 3.
	pair := []api.Ent{one(2, 0, api.Worker, 3, 3), one(4, 1, api.Soldier, 5, 3)}
	digger := aims(one(2, 0, api.Worker, 3, 3), api.Mines, 4)
	ore := one(4, api.Nobody, api.Mine, 4, 3)
	foe := one(5, 1, api.Soldier, 3, 5)
	for _, c := range []struct {
		name string
		x    api.Tape
	}{
		{"IDs that are free are nobody's", tape(from(9, pair...),
			cmds(move(0, 1, 9, 9), move(1, 1, 9, 9), attack(1, 4, 1), move(0, 3, 9, 9), stop(1, 4)), nil)},
		{"a number of the newer game is none of the elder one", tape(from(9, pair...),
			cmds(move(0, 2, 9, 9)), cmds(move(0, 1, 0, 0), move(1, 2, 0, 0), attack(1, 4, 1)), nil)},
		{"a mine is not fought", tape(from(9, one(2, 0, api.Worker, 3, 3), ore, foe),
			cmds(attack(0, 2, 4), attack(1, 5, 4)), nil)},
		{"while it goes, a mine is not fought", tape(from(9, one(2, 0, api.Worker, 3, 3), ore),
			cmds(move(0, 2, 9, 9)), cmds(attack(0, 2, 4)), nil)},
		{"others are not mined", tape(from(9, digger, ore, foe),
			cmds(mine(0, 2, 5)), cmds(mine(1, 5, 2)), cmds(mine(1, 5, 4)), nil)},
		{"one's own are not fought", tape(from(9, digger, ore, one(6, 0, api.Soldier, 3, 4)), cmds(attack(0, 2, 6), mine(0, 6, 2)), nil)},
		{"mined and fought", tape(from(9, one(2, 0, api.Worker, 3, 3), ore, foe),
			cmds(mine(0, 2, 4), attack(1, 5, 2)), nil, cmds(attack(0, 2, 5)), nil)},
		{"stopped", tape(from(9, digger, ore, aims(foe, api.Fights, 2)), cmds(stop(0, 2), move(1, 5, 9, 9)), cmds(stop(1, 5)), nil)},
		{"who came is told at once", tape(from(20, pair...),
			cmds(build(0, 2, api.Worker, 3, 4), move(0, 3, 9, 9), build(0, 3, api.Soldier, 3, 5), attack(0, 1, 4)), nil, nil)},
		{"who came is fought at once", tape(from(20, pair...),
			cmds(build(0, 2, api.Worker, 4, 4), attack(1, 4, 3), build(0, 2, api.Worker, 2, 2)), nil, cmds(move(0, 1, 7, 7)), nil)},
		{"told ahead of its coming", tape(from(20, pair...),
			cmds(move(0, 3, 9, 9), attack(1, 4, 3), build(0, 2, api.Worker, 3, 4)), nil)},
		{"who came has an ID behind all", tape(from(20, one(1, 0, api.Worker, 3, 3), one(2, 1, api.Soldier, 8, 8)),
			cmds(build(0, 1, api.Worker, 3, 4), move(0, 3, 9, 9)), cmds(move(0, 3, 0, 9), attack(1, 2, 3)), nil)},
		{"builds that are passed over", tape(from(7, pair...),
			cmds(build(0, 2, api.Soldier, 3, 4), build(0, 2, api.Worker, 3, 3), build(0, 2, api.Worker, 3, 5), build(1, 4, api.Worker, 5, 4),
				build(0, 2, api.Mine, 3, 4), build(0, 2, 0, 3, 4), build(0, 2, 6, 3, 4), build(0, 2, api.Worker, 3, 4)),
			cmds(move(0, 3, 9, 9), move(0, 1, 9, 9)), nil)},
		{"a mule that costs too much", tape(from(6, pair...), cmds(build(0, 2, api.Mule, 3, 4), move(0, 3, 9, 9)), nil)},
		{"a tower that costs too much", tape(from(14, pair...), cmds(build(0, 2, api.Tower, 3, 4), build(0, 2, api.Worker, 3, 4)), nil)},
		{"an ID is taken again", tape(from(20, one(2, 0, api.Worker, 3, 3), hurt(one(4, 1, api.Soldier, 5, 3), 1), one(6, 0, api.Soldier, 5, 5)),
			cmds(attack(0, 6, 4)), cmds(attack(0, 6, 4), build(0, 2, api.Worker, 3, 4), move(0, 4, 8, 8), move(1, 4, 1, 1)),
			cmds(build(0, 2, api.Worker, 2, 3), move(0, 5, 8, 8), move(0, 3, 0, 0)), nil, nil)},
		{"one that is gone within its tick", tape(from(30, one(2, 0, api.Worker, 3, 3), one(5, 1, api.Soldier, 4, 4), one(6, 1, api.Soldier, 3, 5), one(7, 1, api.Soldier, 2, 5)),
			cmds(build(0, 2, api.Worker, 3, 4), attack(1, 5, 4), attack(1, 6, 4), attack(1, 7, 4)),
			cmds(move(0, 4, 9, 9), attack(1, 5, 4), build(0, 2, api.Soldier, 2, 2), move(0, 4, 0, 0)), nil)},
		{"a mine's commands", tape(from(9, ore, foe), cmds(move(2, 4, 0, 0), attack(2, 4, 5), mine(2, 4, 4), build(2, 4, 1, 4, 4), stop(2, 4)), nil)},
		{"another one's commands", tape(from(9, digger, ore, foe), cmds(stop(1, 2), move(2, 2, 0, 0), stop(0, 5), attack(0, 5, 2)), nil)},
		{"unknown commands", tape(from(9, digger, ore, foe),
			cmds(api.Cmd{Player: 0, Op: 0, ID: 2}, api.Cmd{Player: 0, Op: 6, ID: 2, X: 1, Y: 1}, api.Cmd{}), nil)},
		{"numbers as great as may be", tape(from(9, digger, ore, foe),
			cmds(api.Cmd{Player: math.MaxInt, Op: math.MaxInt, ID: math.MaxInt, Kind: math.MaxInt, X: math.MaxInt, Y: math.MaxInt, Target: math.MaxInt},
				move(0, 2, math.MaxInt, 3), move(0, 2, 12, 3), mine(0, 2, math.MaxInt), build(0, 2, math.MaxInt, 3, 4)), nil)},
		{"gold up to one below the most", tape(from(37, digger, ore), nil, nil)},
		{"nobody", tape(api.Elder{Next: 1}, nil, cmds(stop(0, 1)))},
		{"at the last tick", tape(api.Elder{Tick: 60, Next: 1})},
	} {
		playedFromEach(t, c.name, c.x)
	}
}

// G2: the board is full, and no ID but free ones is left.
func TestTranslateFull(t *testing.T) {
	var l []api.Ent
	for i := range 18 {
		l = append(l, one(i+1, i%2, api.Worker, i%6*2, i/6*2))
	}
	l = append(l, one(200, 0, api.Soldier, 9, 9))
	all := cmds(build(0, 1, api.Worker, 1, 1), build(0, 1, api.Worker, 0, 1), move(0, 199, 5, 5), move(0, 198, 5, 5))
	var ticks [][]api.Cmd
	for k := range 12 {
		ticks = append(ticks, append(slices.Clone(all), attack(0, 200, 2*k+2), move(0, 200, k, 9), attack(0, 3, 2), attack(1, 2, 199)))
	}
	playedFromEach(t, "full", tape(from(39, l...), ticks...))
}

// G2: all ticks that there may be, with all commands: who comes is gone at once, and its ID is taken again, while the newer game's rise.
func TestTranslateLong(t *testing.T) {
	s := from(1, one(1, 0, api.Worker, 5, 5), one(2, api.Nobody, api.Mine, 6, 6))
	s.Ents[1].HP = 100
	for i, p := range [][2]int{{5, 7}, {6, 7}, {7, 7}, {7, 6}, {7, 5}} {
		s.Ents = append(s.Ents, aims(one(3+i, 0, api.Worker, p[0], p[1]), api.Mines, 2))
	}
	for i := range 3 {
		s.Ents = append(s.Ents, one(8+i, 1, api.Soldier, 2, 3+i))
	}
	s.Next = 11
	l := cmds(build(0, 1, api.Worker, 4, 4), attack(1, 8, 11), attack(1, 9, 11), attack(1, 10, 11), stop(0, 12), stop(1, 1), attack(0, 1, 2), mine(0, 1, 8))
	x := tape(s, slices.Repeat([][]api.Cmd{l}, 60)...)
	playedFromEach(t, "long", x)
	reel, _, _ := Translate(x, 0)
	if end, err := newer.Play(reel, 60); err != nil || end.Next != 31 {
		t.Errorf("in the end %v, %v", end, err)
	}
}

// G2, Z3: wrong tapes and places, and which error is told.
func TestTranslateErrors(t *testing.T) {
	good, wrong, below, many, long, rich := session(), session(), session(), session(), session(), session()
	wrong.Start.Ents[0].Owner = 2
	below.Ticks[7] = cmds(stop(0, 1), api.Cmd{Target: -1})
	many.Ticks[7] = make([]api.Cmd, 9)
	long.Start.Tick = 53
	rich.Start.Gold[0] = 40
	for _, c := range []struct {
		name string
		x    api.Tape
		from int
		tick int
		want error
	}{
		{"all zero", api.Tape{}, 0, 0, api.ErrBound},
		{"a wrong start", wrong, 0, 0, api.ErrShape},
		{"a wrong start, and from too far", wrong, 9, 0, api.ErrShape},
		{"a number below 0", below, 8, 0, api.ErrBound},
		{"too many commands", many, 0, 0, api.ErrMany},
		{"too many commands, and from too far", many, 9, 0, api.ErrMany},
		{"more ticks than are left", long, 0, 0, api.ErrMany},
		{"more ticks than are left, and from below 0", long, -1, 0, api.ErrMany},
		{"from below 0", good, -1, 0, api.ErrBound},
		{"from far below 0", good, math.MinInt, 0, api.ErrBound},
		{"from too far", good, 9, 0, api.ErrBound},
		{"from much too far", good, math.MaxInt, 0, api.ErrBound},
		{"from too far, without ticks", tape(api.Elder{Next: 1}), 1, 0, api.ErrBound},
		{"from too far, and much gold", rich, 9, 0, api.ErrBound},
		{"from below 0, and much gold", rich, -1, 0, api.ErrBound},
		{"much gold", rich, 0, 0, api.ErrCompat},
		{"below 0 ahead of much gold", tape(rich.Start, cmds(stop(-1, 1))), 0, 0, api.ErrBound},
	} {
		refused(t, c.name, c.x, c.from, c.tick, c.want)
	}
	last := session()
	last.Start.Tick = 52
	playedFromEach(t, "just as many ticks as are left", last)
}

// G2: the Tick of the first state that doesn't fit; those ahead of it do not matter if they are not asked.
func TestTranslateMisfits(t *testing.T) {
	worker, foe := one(2, 0, api.Worker, 3, 3), one(4, 1, api.Soldier, 9, 9)
	for _, c := range []struct {
		name  string
		x     api.Tape
		first []int // by from: the first tick that doesn't fit; -1: all do
	}{
		{"a mule comes", tape(from(9, worker, foe), nil, cmds(build(0, 2, api.Mule, 3, 4)), nil), []int{2, 2, 2, 3}},
		{"a tower comes", tape(from(15, worker, foe), nil, nil, cmds(build(0, 2, api.Tower, 3, 4)), nil), []int{3, 3, 3, 3, 4}},
		{"gold comes", tape(from(38, aims(worker, api.Mines, 3), one(3, 2, api.Mine, 4, 4), foe), nil, nil, nil), []int{2, 2, 2, 3}},
		{"gold comes, and is paid", tape(from(39, aims(worker, api.Mines, 3), one(3, 2, api.Mine, 4, 4), foe),
			nil, cmds(build(0, 2, api.Worker, 3, 4)), nil, nil), []int{1, 1, -1, -1, -1}},
		{"gold comes again", tape(from(39, aims(worker, api.Mines, 3), one(3, 2, api.Mine, 4, 4), foe),
			nil, cmds(build(0, 2, api.Worker, 3, 4)), nil, nil, nil, nil, nil), []int{1, 1, 6, 6, 6, 6, 6, 7}},
		{"gold is there, and is paid", tape(from(40, worker, foe), cmds(build(0, 2, api.Worker, 3, 4))), []int{0, 1}},
		{"a mule goes", tape(from(0, hurt(one(1, 0, api.Mule, 8, 8), 4), worker, foe),
			cmds(attack(1, 4, 1)), nil, cmds(move(0, 2, 1, 1), move(0, 1, 2, 2)), nil), []int{0, 1, -1, -1, -1}},
		{"a tower goes", tape(from(0, hurt(one(1, 0, api.Tower, 8, 8), 2), worker, foe),
			cmds(attack(1, 4, 1)), cmds(move(0, 2, 1, 1))), []int{0, -1, -1}},
		{"it ends with a mule", tape(from(9, worker, foe, one(5, 0, api.Mule, 0, 0))), []int{0}},
	} {
		for _, start := range []int{0, 17, 50} {
			x := c.x
			x.Start.Tick = start
			for from, first := range c.first {
				if first < 0 {
					played(t, c.name, x, from)
				} else {
					refused(t, c.name, x, from, start+first, api.ErrCompat)
				}
			}
		}
	}
}

// fleeting: a mule that comes and is gone within the tick 1, so that each state fits.
func fleeting() api.Tape {
	return tape(from(9, one(2, 0, api.Worker, 3, 3), one(5, 1, api.Soldier, 4, 4), one(6, 1, api.Soldier, 3, 5), one(7, 1, api.Soldier, 2, 5)),
		nil, cmds(build(0, 2, api.Mule, 3, 4), attack(1, 5, 4), attack(1, 6, 4), attack(1, 7, 4)), nil)
}

// W1: what the newer game can't play so is refused: nothing costs there what a mule does, and nobody mines to make up for it.
func TestTranslateFleeting(t *testing.T) {
	x := fleeting()
	refused(t, "a mule that is soon gone", x, 0, 2, api.ErrCompat)
	refused(t, "a mule that is soon gone", x, 1, 2, api.ErrCompat)
	played(t, "behind the mule", x, 2)
	played(t, "behind the mule", x, 3)
	x.Ticks = append(x.Ticks, nil, nil)
	x.Start.Gold[1] = 39
	x.Start.Ents = append(x.Start.Ents, one(8, 1, api.Worker, 9, 9), one(9, 2, api.Mine, 10, 10))
	x.Start.Next = 10
	x.Ticks[3] = cmds(mine(1, 8, 9))
	refused(t, "a state that does not fit is told of first", x, 0, 4, api.ErrCompat)
}
