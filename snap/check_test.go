package snap

import (
	"fmt"
	"math"
	"testing"

	"ferryman/api"
)

// checkTape: the error that is told of a tape, by CheckTape and by TapeBytes.
func checkTape(t *testing.T, name string, tape api.Tape, want error) {
	t.Helper()
	if got := CheckTape(tape); got != want {
		t.Errorf("CheckTape, %s: %v; want %v", name, got, want)
	}
	if b, err := TapeBytes(tape); err != want || (b == "") != (want != nil) {
		t.Errorf("TapeBytes, %s: %x, %v; want %v", name, b, err, want)
	}
}

func checkReel(t *testing.T, name string, reel api.Reel, want error) {
	t.Helper()
	if got := CheckReel(reel); got != want {
		t.Errorf("CheckReel, %s: %v; want %v", name, got, want)
	}
	if b, err := ReelBytes(reel); err != want || (b == "") != (want != nil) {
		t.Errorf("ReelBytes, %s: %x, %v; want %v", name, b, err, want)
	}
}

// F1: what is right, up to the bounds.
func TestCheckRight(t *testing.T) {
	empty := api.Elder{Next: 1}
	for name, tape := range map[string]api.Tape{
		"nobody":       {Start: empty},
		"session":      session(),
		"camp":         campTape(),
		"all ticks":    {Start: empty, Ticks: make([][]api.Cmd, 60)},
		"ticks left":   {Start: api.Elder{Tick: 57, Next: 1}, Ticks: make([][]api.Cmd, 3)},
		"none is left": {Start: api.Elder{Tick: 60, Next: 1}},
		"all commands": {Start: empty, Ticks: [][]api.Cmd{make([]api.Cmd, 8), make([]api.Cmd, 8)}},
	} {
		checkTape(t, name, tape, nil)
	}
	start := api.Newer{Next: 1}
	for name, reel := range map[string]api.Reel{
		"nobody":       {Start: start},
		"camp":         campReel(),
		"all ticks":    {Start: start, Ticks: make([][]api.Order, 60)},
		"ticks left":   {Start: api.Newer{Tick: 57, Next: 1}, Ticks: make([][]api.Order, 3)},
		"none is left": {Start: api.Newer{Tick: 60, Next: 1}},
		"all orders":   {Start: start, Ticks: [][]api.Order{make([]api.Order, 8), make([]api.Order, 8)}},
	} {
		checkReel(t, name, reel, nil)
	}
}

// F1: wrong tapes, and which error is told.
func TestCheckTape(t *testing.T) {
	below := []api.Cmd{{Target: -1}}
	many := make([]api.Cmd, 9)
	for _, c := range []struct {
		name string
		edit func(t *api.Tape)
		want error
	}{
		{"all zero", func(t *api.Tape) { *t = api.Tape{} }, api.ErrBound},
		{"a start out of bounds", func(t *api.Tape) { t.Start.Gold[1] = 41 }, api.ErrBound},
		{"a start with too many", func(t *api.Tape) { t.Start.Ents = make([]api.Ent, 21) }, api.ErrMany},
		{"a start of another shape", func(t *api.Tape) { t.Start.Free = nil }, api.ErrShape},
		{"too many ticks", func(t *api.Tape) { t.Ticks = make([][]api.Cmd, 52) }, api.ErrMany},
		{"just all that are left", func(t *api.Tape) { t.Ticks = make([][]api.Cmd, 51) }, nil},
		{"far too many ticks", func(t *api.Tape) { t.Ticks = make([][]api.Cmd, 1000) }, api.ErrMany},
		{"a tick behind the last one", func(t *api.Tape) { t.Start.Tick, t.Ticks = 60, [][]api.Cmd{nil} }, api.ErrMany},
		{"too many commands first", func(t *api.Tape) { t.Ticks[0] = many }, api.ErrMany},
		{"too many commands last", func(t *api.Tape) { t.Ticks[2] = many }, api.ErrMany},
		{"below 0 first", func(t *api.Tape) { t.Ticks[0] = below }, api.ErrBound},
		{"below 0 last", func(t *api.Tape) { t.Ticks[2] = below }, api.ErrBound},
		{"shape ahead of many", func(t *api.Tape) { t.Start.Free, t.Ticks[0] = nil, many }, api.ErrShape},
		{"shape ahead of bound", func(t *api.Tape) { t.Start.Free, t.Ticks[0] = nil, below }, api.ErrShape},
		{"a start's bound ahead of many", func(t *api.Tape) { t.Start.Tick, t.Ticks[0] = 61, many }, api.ErrBound},
		{"many ahead of bound", func(t *api.Tape) { t.Ticks[0], t.Ticks[1] = many, below }, api.ErrMany},
		{"many behind bound", func(t *api.Tape) { t.Ticks[0], t.Ticks[2] = below, many }, api.ErrMany},
		{"many and bound of one tick", func(t *api.Tape) { t.Ticks[0] = append(make([]api.Cmd, 8), below...) }, api.ErrMany},
		{"many ticks ahead of bound", func(t *api.Tape) { t.Ticks = append(make([][]api.Cmd, 51), below) }, api.ErrMany},
		{"below 0 behind others", func(t *api.Tape) { t.Ticks[0] = append(make([]api.Cmd, 7), below...) }, api.ErrBound},
	} {
		tape := campTape()
		c.edit(&tape)
		checkTape(t, c.name, tape, c.want)
	}
}

// F1: wrong reels, and which error is told.
func TestCheckReel(t *testing.T) {
	below := []api.Order{{Arg: -1}}
	many := make([]api.Order, 9)
	for _, c := range []struct {
		name string
		edit func(t *api.Reel)
		want error
	}{
		{"all zero", func(t *api.Reel) { *t = api.Reel{} }, api.ErrBound},
		{"a start out of bounds", func(t *api.Reel) { t.Start.Units[0].Since = 10 }, api.ErrBound},
		{"a start with too many", func(t *api.Reel) { t.Start.Units = make([]api.Unit, 21) }, api.ErrMany},
		{"a start of another shape", func(t *api.Reel) { t.Start.Units[0].Target = 8 }, api.ErrShape},
		{"too many ticks", func(t *api.Reel) { t.Ticks = make([][]api.Order, 52) }, api.ErrMany},
		{"just all that are left", func(t *api.Reel) { t.Ticks = make([][]api.Order, 51) }, nil},
		{"a tick behind the last one", func(t *api.Reel) { t.Start.Tick, t.Ticks = 60, [][]api.Order{nil} }, api.ErrMany},
		{"too many orders first", func(t *api.Reel) { t.Ticks[0] = many }, api.ErrMany},
		{"too many orders last", func(t *api.Reel) { t.Ticks[2] = many }, api.ErrMany},
		{"below 0 first", func(t *api.Reel) { t.Ticks[0] = below }, api.ErrBound},
		{"below 0 last", func(t *api.Reel) { t.Ticks[2] = below }, api.ErrBound},
		{"shape ahead of many", func(t *api.Reel) { t.Start.Units[0].Target, t.Ticks[0] = 8, many }, api.ErrShape},
		{"many behind bound", func(t *api.Reel) { t.Ticks[0], t.Ticks[2] = below, many }, api.ErrMany},
		{"many ticks ahead of bound", func(t *api.Reel) { t.Ticks = append(make([][]api.Order, 51), below) }, api.ErrMany},
	} {
		reel := campReel()
		c.edit(&reel)
		checkReel(t, c.name, reel, c.want)
	}
}

// F1: each number of a command, or an order, is asked.
func TestCheckEachNumber(t *testing.T) {
	for _, below := range []int{-1, -300, math.MinInt} {
		for i := range 7 {
			var c api.Cmd
			*[]*int{&c.Player, &c.Op, &c.ID, &c.Kind, &c.X, &c.Y, &c.Target}[i] = below
			tape := campTape()
			tape.Ticks[0] = append(tape.Ticks[0], c)
			checkTape(t, fmt.Sprint(c), tape, api.ErrBound)
		}
		for i := range 6 {
			var o api.Order
			*[]*int{&o.Player, &o.Verb, &o.ID, &o.Arg, &o.X, &o.Y}[i] = below
			reel := campReel()
			reel.Ticks[0] = append(reel.Ticks[0], o)
			checkReel(t, fmt.Sprint(o), reel, api.ErrBound)
		}
	}
}
