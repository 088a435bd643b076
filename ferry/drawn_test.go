package ferry

import (
	"math"
	"math/rand"
	"testing"

	"ferryman/api"
	"ferryman/elder"
)

// wanted: what is told of a tape that is right, by the chapter's own words, with Play alone.
func wanted(t *testing.T, x api.Tape, from int) (int, error) {
	t.Helper()
	if from < 0 || from > len(x.Ticks) {
		return 0, api.ErrBound
	}
	for n := from; n <= len(x.Ticks); n++ {
		s, err := elder.Play(x, n)
		if err != nil {
			t.Fatal(err)
		}
		if !fitting(s) {
			return s.Tick, api.ErrCompat
		}
	}
	// Whether a mule that is soon gone can be made up for is asked elsewhere; if not, its tick is told.
	_, tick, err := Translate(x, from)
	if n := tick - 1 - x.Start.Tick; err == api.ErrCompat && n >= from && n < len(x.Ticks) && muleCame(x, n) {
		return tick, err
	}
	return 0, nil
}

// muleCame in that tick?
func muleCame(x api.Tape, n int) bool {
	s, _ := elder.Play(x, n)
	mid, err := elder.Moved(s, x.Ticks[n])
	return err == nil && !fitting(mid)
}

// seen: what came about in drawn tapes that were carried over.
type seen struct{ tapes, came, gone, again int }

func (s *seen) count(x api.Tape, from int) {
	s.tapes++
	was, _ := elder.Play(x, from)
	used := map[int]int{}
	for _, l := range x.Ticks[from:] {
		next, born, _ := elder.Step(was, l)
		for _, e := range was.Ents {
			used[e.ID] = 1
		}
		for _, id := range born {
			s.again += used[id]
		}
		s.came += len(born)
		s.gone += len(was.Ents) + len(born) - len(next.Ents)
		was = next
	}
}

// G2, W1, W2: from each tick on, of whatever fits; what doesn't is refused.
func TestTranslateDrawn(t *testing.T) {
	r := rand.New(rand.NewSource(22))
	var of seen
	told := map[error]int{}
	for i := range 500 {
		x := drawnTape(r, []int{2, 2, 2, 5}[i%4])
		for from := -1; from <= len(x.Ticks)+1; from++ {
			tick, want := wanted(t, x, from)
			told[want]++
			if want != nil {
				refused(t, "drawn", x, from, tick, want)
				continue
			}
			played(t, "drawn", x, from)
			of.count(x, from)
		}
		if t.Failed() {
			t.Fatalf("%v", x)
		}
	}
	if of.tapes < 3000 || of.came < 2000 || of.gone < 1000 || of.again < 300 || told[api.ErrCompat] < 500 {
		t.Errorf("too little came about: %+v, %v", of, told)
	}
}

// Z1, Z3: no call panics, whatever the tape; F1's error is told first.
func TestTranslateWild(t *testing.T) {
	r := rand.New(rand.NewSource(23))
	told := map[error]int{}
	for range 3000 {
		x := drawnTape(r, 5)
		fields := []*int{&x.Start.Tick, &x.Start.Next, &x.Start.Gold[0], &x.Start.Gold[1]}
		for i := range x.Start.Ents {
			e := &x.Start.Ents[i]
			fields = append(fields, &e.ID, &e.Owner, &e.Kind, &e.X, &e.Y, &e.HP, &e.Does, &e.GX, &e.GY, &e.Target)
		}
		for _, l := range x.Ticks {
			for i := range l {
				c := &l[i]
				fields = append(fields, &c.Player, &c.Op, &c.ID, &c.Kind, &c.X, &c.Y, &c.Target)
			}
		}
		switch r.Intn(6) {
		case 0:
			x.Start.Tick = api.MaxTicks - r.Intn(20)
		case 1:
			x.Ticks = append(x.Ticks, make([]api.Cmd, 7+r.Intn(4)))
		default:
			*fields[r.Intn(len(fields))] = []int{math.MinInt, -1, wild(r), wild(r)}[r.Intn(4)]
		}
		from := r.Intn(len(x.Ticks)+3) - 1
		tick, want := 0, checked(x)
		if want == nil {
			tick, want = wanted(t, x, from)
		}
		told[want]++
		if want == nil {
			played(t, "wild", x, from)
		} else {
			refused(t, "wild", x, from, tick, want)
		}
	}
	if len(told) != 5 {
		t.Errorf("%v", told)
	}
}

// checked: F1 by its words.
func checked(x api.Tape) error {
	if err := elder.Check(x.Start); err != nil {
		return err
	}
	many := len(x.Ticks) > api.MaxTicks-x.Start.Tick
	for _, l := range x.Ticks {
		many = many || len(l) > api.MaxCmds
	}
	if many {
		return api.ErrMany
	}
	for _, l := range x.Ticks {
		for _, c := range l {
			if min(c.Player, c.Op, c.ID, c.Kind, c.X, c.Y, c.Target) < 0 {
				return api.ErrBound
			}
		}
	}
	return nil
}
