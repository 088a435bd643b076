package console

import (
	"fmt"
	"slices"
	"testing"
)

// K1, K2: show: how many ticks there are is asked ahead of how it begins.
func TestShowErrors(t *testing.T) {
	is(t, `
	tick => ok
	show 1 => 0 0
	show 2 => error 1
	show 999999 => error 1
	ent 0 1 3 3 5 => ok
	ent 0 1 3 3 5 => ok
	show 0 => error 3
	show 1 => error 3
	show 2 => error 1
	show 999999 => error 1`)
}

// K1, K2: carry: how it begins is asked ahead of how many ticks there are, and that ahead of whether it fits; what fits no more has its tick beside.
func TestCarryErrors(t *testing.T) {
	is(t, `
	gold 0 39 => ok
	ent 0 1 3 3 5 => ok
	ent 2 4 4 4 9 => ok
	tick => ok
	cmd 0 3 1 0 0 0 2 => ok
	carry 0 => 1 0
	tick => ok
	carry 0 => error 8 at 2
	carry 1 => error 8 at 2
	carry 2 => error 8 at 2
	carry 3 => error 1
	carry 999999 => error 1
	cmd 0 4 1 1 3 4 0 => ok
	tick => ok
	carry 2 => error 8 at 2
	carry 3 => 0 0
	show 3 => 36 0, 3 3 0 1 5 3, 3 4 0 1 5 0, 4 4 2 4 7 0
	cmd 0 4 1 5 2 2 0 => ok
	tick => ok
	carry 0 => error 8 at 2
	carry 3 => error 8 at 4
	carry 4 => error 8 at 4
	gold 1 40 => ok
	carry 0 => error 8 at 0
	carry 3 => error 8 at 3
	ent 0 1 3 3 5 => ok
	carry 0 => error 3
	carry 99 => error 3
	gold 1 41 => ok
	carry 99 => error 1`)
}

// K1, K2: each of what does not fit: a mule, a tower, gold at its most.
func TestCarryWhatDoesNotFit(t *testing.T) {
	for _, line := range []string{"ent 0 5 3 3 6", "ent 1 3 3 3 20", "gold 0 40", "gold 1 40"} {
		ahead := []string{line, "tick", "tick"}
		for from := range 3 {
			if got, want := last(t, ahead, fmt.Sprint("carry ", from)), fmt.Sprint("error 8 at ", from); got != want {
				t.Errorf("%q from %d: %q; want %q", line, from, got, want)
			}
			for ticks := range 4 {
				if got := last(t, ahead, fmt.Sprint("cross ", from, " ", ticks)); got != "error 8" {
					t.Errorf("%q from %d, %d ticks: %q", line, from, ticks, got)
				}
			}
		}
		if got := last(t, ahead, "carry 3"); got != "error 1" {
			t.Errorf("%q from 3: %q", line, got)
		}
	}
	is(t, `
	ent 0 2 3 3 8 => ok
	ent 0 2 5 5 1 => ok
	gold 0 39 => ok
	gold 1 39 => ok
	carry 0 => 0 0
	cross 0 0 => 39 39, 3 3 0 2 8 0, 5 5 0 2 1 0`)
}

// K1: carry tells of ticks and orders by two numbers, which are not mixed up.
func TestCarryCounts(t *testing.T) {
	var lines []string
	total := 0
	for i, n := range []int{3, 0, 8, 1} {
		lines = append(slices.Concat(lines, times(n, "cmd 0 5 1 0 0 0 0")), "tick")
		total += n
		if got, want := last(t, lines, "carry 0"), fmt.Sprint(i+1, " ", total); got != want {
			t.Errorf("%q: %q; want %q", lines, got, want)
		}
	}
	for from, want := range []string{"4 12", "3 9", "2 9", "1 1", "0 0"} {
		if got := last(t, lines, fmt.Sprint("carry ", from)); got != want {
			t.Errorf("from %d: %q; want %q", from, got, want)
		}
	}
}

// K1, K2: cross: the carrying's error is told ahead of the playing's, and without the tick; the ticks are those of the reel.
func TestCrossErrors(t *testing.T) {
	is(t, `
	gold 0 31 => ok
	ent 0 1 3 3 5 => ok
	cmd 0 1 1 0 9 3 0 => ok
	tick => ok
	tick => ok
	tick => ok
	cross 0 0 => 31 0, 3 3 0 1 5 0
	cross 0 3 => 31 0, 6 3 0 1 5 1
	cross 0 4 => error 1
	cross 1 0 => 31 0, 4 3 0 1 5 1
	cross 1 2 => 31 0, 6 3 0 1 5 1
	cross 1 3 => error 1
	cross 3 0 => 31 0, 6 3 0 1 5 1
	cross 3 1 => error 1
	cross 4 0 => error 1
	cross 0 999999 => error 1
	cross 999999 0 => error 1
	cmd 0 4 1 3 6 4 0 => ok
	tick => ok
	show 4 => 16 0, 7 3 0 1 5 1, 6 4 0 3 20 0
	carry 0 => error 8 at 4
	cross 0 0 => error 8
	cross 3 0 => error 8
	cross 3 999999 => error 8
	cross 5 0 => error 1
	ent 0 1 3 3 5 => ok
	cross 0 0 => error 3
	cross 5 9 => error 3`)
}

// K1, K2: bytes: as many as the tape's numbers take, and a frame about them.
func TestBytes(t *testing.T) {
	is(t, `
	bytes => 15
	gold 0 40 => ok
	bytes => 15
	ent 2 4 1 1 100 => ok
	bytes => 25
	cmd 127 127 127 127 127 127 127 => ok
	tick => ok
	bytes => 33
	cmd 128 127 127 127 127 127 16384 => ok
	cmd 999999 999999 999999 999999 999999 999999 999999 => ok
	tick => ok
	bytes => 65
	show 2 => 40 0, 1 1 2 4 100 0
	ent 0 1 12 1 5 => ok
	bytes => error 1
	gold 0 41 => ok
	bytes => error 1`)
}

// K1: a mule that comes and is gone within a tick is in no state: such a play is carried over where other orders make up for it, as here.
func TestMuleThatIsSoonGone(t *testing.T) {
	is(t, `
	gold 0 20 => ok
	ent 0 1 5 5 5 => ok
	ent 1 2 3 3 8 => ok
	ent 1 2 3 4 8 => ok
	ent 1 2 3 5 8 => ok
	ent 2 4 9 9 4 => ok
	ent 0 1 8 8 5 => ok
	ent 0 1 9 8 5 => ok
	ent 0 1 10 8 5 => ok
	cmd 0 3 6 0 0 0 5 => ok
	cmd 0 3 7 0 0 0 5 => ok
	cmd 0 3 8 0 0 0 5 => ok
	tick => ok
	show 1 => 23 0, 3 3 1 2 8 0, 3 4 1 2 8 0, 3 5 1 2 8 0, 5 5 0 1 5 0, 8 8 0 1 5 3, 9 8 0 1 5 3, 10 8 0 1 5 3, 9 9 2 4 1 0
	cmd 0 4 1 5 4 4 0 => ok
	cmd 1 2 2 0 0 0 9 => ok
	cmd 1 2 3 0 0 0 9 => ok
	cmd 1 2 4 0 0 0 9 => ok
	cmd 0 0 0 0 0 0 0 => ok
	cmd 0 0 0 0 0 0 0 => ok
	tick => ok
	show 2 => 19 0, 3 3 1 2 8 0, 3 4 1 2 8 0, 3 5 1 2 8 0, 5 5 0 1 5 0, 8 8 0 1 5 0, 9 8 0 1 5 0, 10 8 0 1 5 0
	carry 0 => 2 9
	carry 1 => 1 6
	cross 0 2 => 19 0, 3 3 1 2 8 0, 3 4 1 2 8 0, 3 5 1 2 8 0, 5 5 0 1 5 0, 8 8 0 1 5 0, 9 8 0 1 5 0, 10 8 0 1 5 0
	cross 1 1 => 19 0, 3 3 1 2 8 0, 3 4 1 2 8 0, 3 5 1 2 8 0, 5 5 0 1 5 0, 8 8 0 1 5 0, 9 8 0 1 5 0, 10 8 0 1 5 0`)
}
