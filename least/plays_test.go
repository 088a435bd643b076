package least

import (
	"math/rand"
	"testing"

	"ferryman/api"
	"ferryman/elder"
	"ferryman/ferry"
	"ferryman/newer"
	"ferryman/view"
)

// elderMark, newerMark: of what is seen behind so many ticks.
func elderMark(t *testing.T, x api.Tape, n int) uint64 {
	t.Helper()
	s, err := elder.Play(x, n)
	v, wrong := view.Elder(s)
	if err != nil || wrong != nil {
		t.Fatal(err, wrong)
	}
	return view.Mark(v)
}

func newerMark(t *testing.T, r api.Reel, n int) uint64 {
	t.Helper()
	s, err := newer.Play(r, n)
	v, wrong := view.Newer(s)
	if err != nil || wrong != nil {
		t.Fatal(err, wrong)
	}
	return view.Mark(v)
}

func marks(n int, mark func(int) uint64) []uint64 {
	var l []uint64
	for i := range n + 1 {
		l = append(l, mark(i))
	}
	return l
}

// mining: who mines is told to do so in the first tick, and never comes to an end within the play; those beside it go here and there.
func mining(ticks int) api.Tape {
	x := api.Tape{Start: api.Elder{Next: 4, Ents: []api.Ent{
		{ID: 1, Kind: api.Worker, X: 2, Y: 2, HP: 5},
		{ID: 2, Owner: api.Nobody, Kind: api.Mine, X: 3, Y: 3, HP: 100},
		{ID: 3, Owner: 1, Kind: api.Soldier, X: 8, Y: 8, HP: 8},
	}}}
	for i := range ticks {
		x.Ticks = append(x.Ticks, []api.Cmd{{Player: 1, Op: api.CmdMove, ID: 3, X: i % 12, Y: i * 7 % 12}})
	}
	return x
}

// with one command more in a tick.
func with(x api.Tape, tick int, c api.Cmd) api.Tape {
	var ticks [][]api.Cmd
	for i, l := range x.Ticks {
		l = append([]api.Cmd(nil), l...)
		if i == tick {
			l = append(l, c)
		}
		ticks = append(ticks, l)
	}
	return api.Tape{Start: x.Start, Ticks: ticks}
}

// W5, H1, H2: plays that part, and never come together again: once a worker mines, its player has more. The first tick is found by asking few.
func TestPlaysThatPart(t *testing.T) {
	for _, ticks := range []int{1, 2, 3, 7, 16, 33} {
		x := mining(ticks)
		a := marks(ticks, func(n int) uint64 { return elderMark(t, x, n) })
		for tick := range ticks {
			y := with(x, tick, api.Cmd{Player: 0, Op: api.CmdMine, ID: 1, Target: 2})
			b := marks(ticks, func(n int) uint64 { return elderMark(t, y, n) })
			at, asked, found := find(t, ticks+1, func(n int) bool { return elderMark(t, x, n) != elderMark(t, y, n) })
			if at != tick+1 || !found || asked > most(ticks+1) {
				t.Errorf("told in tick %d of %d: %d, %d, %v", tick, ticks, at, asked, found)
			}
			if at, is := First(a, b); at != tick+1 || !is {
				t.Errorf("told in tick %d of %d: %d, %v", tick, ticks, at, is)
			}
		}
		if at, is := First(a, a); at != ticks+1 || is {
			t.Errorf("%d ticks: %d, %v", ticks, at, is)
		}
	}
}

// W5, H1, H2: a play that is carried over never parts from the elder one; if an order is spoilt, it does so there.
func TestCarriedPlaysThatPart(t *testing.T) {
	x := with(mining(20), 5, api.Cmd{Player: 0, Op: api.CmdMine, ID: 1, Target: 2})
	reel, _, err := ferry.Translate(x, 0)
	if err != nil {
		t.Fatal(err)
	}
	differs := func(n int) bool { return elderMark(t, x, n) != newerMark(t, reel, n) }
	if at, asked, found := find(t, 21, differs); at != 0 || asked != 1 || found {
		t.Errorf("%d, %d, %v", at, asked, found)
	}
	reel.Ticks[5][1] = api.Order{}
	if at, asked, found := find(t, 21, differs); at != 6 || asked > most(21) || !found {
		t.Errorf("%d, %d, %v", at, asked, found)
	}
	a := marks(20, func(n int) uint64 { return elderMark(t, x, n) })
	b := marks(20, func(n int) uint64 { return newerMark(t, reel, n) })
	if at, is := First(a, b); at != 6 || !is {
		t.Errorf("%d, %v", at, is)
	}
}

// W5, H1, H2: drawn plays with one command more in one of them: where they part for good from their first difference on, both ways tell the same tick.
func TestDrawnPlaysThatPart(t *testing.T) {
	r := rand.New(rand.NewSource(34))
	parted, together := 0, 0
	for range 400 {
		ticks := 1 + r.Intn(30)
		x := mining(ticks)
		id := 1 + 2*r.Intn(2)
		y := with(x, r.Intn(ticks), api.Cmd{Player: id / 2, Op: api.CmdMove, ID: id, X: r.Intn(12), Y: r.Intn(12)})
		a := marks(ticks, func(n int) uint64 { return elderMark(t, x, n) })
		b := marks(ticks, func(n int) uint64 { return elderMark(t, y, n) })
		at, asked, found := find(t, len(a), func(n int) bool { return a[n] != b[n] })
		first, is := First(a, b)
		if asked > most(len(a)) || found && (a[at] == b[at] || at > 0 && a[at-1] != b[at-1] || !is || first > at) {
			t.Fatalf("%v, %v: %d, %d, %v; %d, %v", a, b, at, asked, found, first, is)
		}
		again := false
		for n := first; n < len(a); n++ {
			again = again || a[n] == b[n]
		}
		if is && !again {
			parted++
			if at != first || !found {
				t.Fatalf("%v, %v: %d, %v; want %d", a, b, at, found, first)
			}
		} else {
			together++
		}
	}
	if parted < 100 || together < 50 {
		t.Errorf("%d parted, %d did not", parted, together)
	}
}
