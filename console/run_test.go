package console

import (
	"fmt"
	"slices"
	"testing"

	"ferryman/api"
)

// K1, K2: the document's session.
func TestDocument(t *testing.T) {
	is(t, `
	gold 0 12 => ok
	ent 0 1 3 3 5 => ok
	ent 2 4 6 3 9 => ok
	ent 1 2 8 5 8 => ok
	ent 0 2 2 2 8 => ok
	show 0 => 12 0, 2 2 0 2 8 0, 3 3 0 1 5 0, 6 3 2 4 9 0, 8 5 1 2 8 0
	cmd 0 3 1 0 0 0 2 => ok
	cmd 1 1 3 0 6 5 0 => ok
	cmd 0 4 1 1 3 4 0 => ok
	tick => ok
	show 1 => 7 0, 2 2 0 2 8 0, 4 3 0 1 5 3, 6 3 2 4 9 0, 3 4 0 1 5 0, 7 5 1 2 8 1
	cmd 1 2 3 0 0 0 1 => ok
	cmd 0 2 4 0 0 0 3 => ok
	tick => ok
	tick => ok
	tick => ok
	show 4 => 10 0, 6 3 2 4 6 0, 3 4 0 1 5 0, 4 4 0 2 8 2, 6 4 1 2 4 0
	tick => ok
	tick => ok
	show 6 => 10 0, 6 3 2 4 6 0, 3 4 0 1 5 0, 4 4 0 2 8 0
	carry 0 => 6 5
	carry 3 => 3 0
	cross 0 6 => 10 0, 6 3 2 4 6 0, 3 4 0 1 5 0, 4 4 0 2 8 0
	cross 3 3 => 10 0, 6 3 2 4 6 0, 3 4 0 1 5 0, 4 4 0 2 8 0
	bytes => 96
	cmd 0 4 5 3 4 4 0 => ok
	tick => ok
	show 7 => 10 0, 6 3 2 4 6 0, 3 4 0 1 5 0, 4 4 0 2 8 0
	cmd 0 4 4 3 9 9 0 => ok
	tick => ok
	carry 0 => 8 7
	gold 1 40 => ok
	carry 2 => error 8 at 2
	show 99 => error 1
	fly => error 10`)
}

// K1, Z1: at most MaxLines lines; no lines have no answers.
func TestHowManyLines(t *testing.T) {
	if got, err := Run(nil); len(got) != 0 || err != nil {
		t.Errorf("nil: %v, %v", got, err)
	}
	if got, err := Run([]string{}); len(got) != 0 || err != nil {
		t.Errorf("none: %v, %v", got, err)
	}
	for _, n := range []int{1, 2, api.MaxLines - 1, api.MaxLines} {
		for line, want := range map[string]string{"tick": "ok", "fly": "error 10", "": "error 10"} {
			answers(t, times(n, line), times(n, want))
		}
	}
	for _, n := range []int{api.MaxLines + 1, api.MaxLines + 2, 2 * api.MaxLines, 100000} {
		for _, line := range []string{"tick", "fly", ""} {
			if got, err := Run(times(n, line)); len(got) != 0 || err != api.ErrMany {
				t.Errorf("%d times %q: %v, %v", n, line, got, err)
			}
		}
	}
}

// K1: the tape that a session begins with, to each line that asks about it.
func TestBeginning(t *testing.T) {
	for line, want := range map[string]string{
		"show 0": "0 0", "show 1": "error 1", "carry 0": "0 0", "carry 1": "error 1",
		"cross 0 0": "0 0", "cross 0 1": "error 1", "cross 1 0": "error 1", "bytes": "15",
	} {
		if got := last(t, nil, line); got != want {
			t.Errorf("%q: %q; want %q", line, got, want)
		}
	}
}

// K1: gold is set, whatever it is; whether it is right is told by who plays it.
func TestGold(t *testing.T) {
	is(t, `
	gold 0 12 => ok
	show 0 => 12 0
	gold 1 39 => ok
	show 0 => 12 39
	gold 0 0 => ok
	gold 1 7 => ok
	show 0 => 0 7
	gold 2 5 => error 1
	gold 3 999999 => error 1
	gold 999999 0 => error 1
	show 0 => 0 7
	gold 0 40 => ok
	show 0 => 40 7
	gold 0 41 => ok
	show 0 => error 1
	carry 0 => error 1
	cross 0 0 => error 1
	bytes => error 1
	gold 2 0 => error 1
	gold 0 999999 => ok
	show 0 => error 1
	gold 0 1 => ok
	tick => ok
	gold 1 2 => ok
	show 0 => 1 2
	show 1 => 1 2`)
}

// K1: who is added is at the Start, idle, with the next ID, also when ticks have gone by.
func TestEnt(t *testing.T) {
	is(t, `
	ent 0 1 5 4 3 => ok
	show 0 => 0 0, 5 4 0 1 3 0
	ent 1 2 4 5 8 => ok
	cmd 1 1 2 0 11 5 0 => ok
	tick => ok
	show 0 => 0 0, 5 4 0 1 3 0, 4 5 1 2 8 0
	show 1 => 0 0, 5 4 0 1 3 0, 5 5 1 2 8 1
	ent 2 4 0 11 100 => ok
	ent 0 5 6 4 6 => ok
	ent 0 3 7 4 20 => ok
	show 0 => 0 0, 5 4 0 1 3 0, 6 4 0 5 6 0, 7 4 0 3 20 0, 4 5 1 2 8 0, 0 11 2 4 100 0
	show 1 => 0 0, 5 4 0 1 3 0, 6 4 0 5 6 0, 7 4 0 3 20 0, 5 5 1 2 8 1, 0 11 2 4 100 0
	cmd 0 1 4 0 0 0 0 => ok
	cmd 0 1 5 0 0 0 0 => ok
	tick => ok
	show 2 => 0 0, 5 3 0 5 6 1, 5 4 0 1 3 0, 7 4 0 3 20 0, 6 5 1 2 8 1, 0 11 2 4 100 0`)
}

// K1, K2: who is not right is added nevertheless; the first one that is wrong is told of.
func TestWrongEnt(t *testing.T) {
	for line, want := range map[string]string{
		"ent 0 0 3 3 1": "error 1", "ent 0 6 3 3 1": "error 1", "ent 0 1 12 3 1": "error 1", "ent 0 1 3 12 1": "error 1",
		"ent 0 1 3 3 0": "error 1", "ent 0 1 3 3 6": "error 1", "ent 2 4 3 3 101": "error 1", "ent 0 1 999999 3 1": "error 1",
		"ent 2 1 3 3 1": "error 3", "ent 3 1 3 3 1": "error 3", "ent 0 4 3 3 1": "error 3", "ent 999999 2 3 3 1": "error 3",
		"ent 0 1 8 8 1": "error 3",
	} {
		ahead := []string{"ent 1 2 8 8 8", line}
		if got := last(t, ahead[:1], line); got != "ok" {
			t.Errorf("%q: %q", line, got)
		}
		for _, ask := range []string{"show 0", "carry 0", "cross 0 0", "bytes"} {
			if got := last(t, ahead, ask); got != want {
				t.Errorf("%q, %q: %q; want %q", line, ask, got, want)
			}
		}
	}
	is(t, `
	ent 0 1 3 3 6 => ok
	ent 0 4 3 3 1 => ok
	show 0 => error 1`)
	is(t, `
	ent 0 4 3 3 1 => ok
	ent 0 1 3 3 6 => ok
	show 0 => error 3`)
}

// K1, K2: MaxEnts may be there, and no more.
func TestManyEnts(t *testing.T) {
	var lines []string
	view := "0 0"
	for i := range api.MaxEnts {
		lines = append(lines, fmt.Sprintf("ent %d 1 %d %d 5", i%2, i%7, i/7))
		view += fmt.Sprintf(", %d %d %d 1 5 0", i%7, i/7, i%2)
	}
	if got := last(t, lines, "show 0"); got != view {
		t.Errorf("%q; want %q", got, view)
	}
	lines = append(lines, "ent 0 1 9 9 5")
	for _, ask := range []string{"show 0", "carry 0", "cross 0 0", "bytes"} {
		if got := last(t, lines, ask); got != "error 2" {
			t.Errorf("%q: %q", ask, got)
		}
	}
}

// K1: each number of a command is its own field, by what is done with it.
func TestCmdFields(t *testing.T) {
	ahead := []string{"gold 0 30", "gold 1 30", "ent 0 1 3 5 5", "ent 1 1 7 8 5", "ent 2 4 4 6 9", "ent 1 2 5 5 8", "ent 2 4 3 4 9"}
	const rest = ", 7 8 1 1 5 0"
	for line, want := range map[string]string{
		"cmd 0 1 1 0 9 2 0": "30 30, 3 4 2 4 9 0, 4 4 0 1 5 1, 5 5 1 2 8 0, 4 6 2 4 9 0" + rest,
		"cmd 0 1 1 0 2 9 0": "30 30, 3 4 2 4 9 0, 5 5 1 2 8 0, 2 6 0 1 5 1, 4 6 2 4 9 0" + rest,
		"cmd 1 1 1 0 2 9 0": "30 30, 3 4 2 4 9 0, 3 5 0 1 5 0, 5 5 1 2 8 0, 4 6 2 4 9 0" + rest,
		"cmd 1 1 2 0 7 9 0": "30 30, 3 4 2 4 9 0, 3 5 0 1 5 0, 5 5 1 2 8 0, 4 6 2 4 9 0, 7 9 1 1 5 0",
		"cmd 0 2 1 9 9 9 4": "30 30, 3 4 2 4 9 0, 4 5 0 1 5 2, 5 5 1 2 7 0, 4 6 2 4 9 0" + rest,
		"cmd 1 2 4 9 9 9 1": "30 30, 3 4 2 4 9 0, 3 5 0 1 3 0, 5 5 1 2 8 2, 4 6 2 4 9 0" + rest,
		"cmd 0 3 1 9 9 9 3": "31 30, 3 4 2 4 9 0, 3 5 0 1 5 3, 5 5 1 2 8 0, 4 6 2 4 8 0" + rest,
		"cmd 0 3 1 9 9 9 5": "31 30, 3 4 2 4 8 0, 3 5 0 1 5 3, 5 5 1 2 8 0, 4 6 2 4 9 0" + rest,
		"cmd 0 4 1 1 2 6 0": "25 30, 3 4 2 4 9 0, 3 5 0 1 5 0, 5 5 1 2 8 0, 2 6 0 1 5 0, 4 6 2 4 9 0" + rest,
		"cmd 0 4 1 2 2 6 9": "22 30, 3 4 2 4 9 0, 3 5 0 1 5 0, 5 5 1 2 8 0, 2 6 0 2 8 0, 4 6 2 4 9 0" + rest,
		"cmd 0 4 1 3 4 4 9": "15 30, 3 4 2 4 9 0, 4 4 0 3 20 0, 3 5 0 1 5 0, 5 5 1 2 8 0, 4 6 2 4 9 0" + rest,
		"cmd 1 4 2 5 8 9 0": "30 23, 3 4 2 4 9 0, 3 5 0 1 5 0, 5 5 1 2 8 0, 4 6 2 4 9 0, 7 8 1 1 5 0, 8 9 1 5 6 0",
		"cmd 0 6 1 1 2 6 4": "30 30, 3 4 2 4 9 0, 3 5 0 1 5 0, 5 5 1 2 8 0, 4 6 2 4 9 0" + rest,
		"cmd 0 0 0 0 0 0 0": "30 30, 3 4 2 4 9 0, 3 5 0 1 5 0, 5 5 1 2 8 0, 4 6 2 4 9 0" + rest,
		"cmd 2 1 3 0 9 9 0": "30 30, 3 4 2 4 9 0, 3 5 0 1 5 0, 5 5 1 2 8 0, 4 6 2 4 9 0" + rest,
	} {
		lines := append(slices.Clone(ahead), line, "tick")
		if got := last(t, lines, "show 1"); got != want {
			t.Errorf("%q: %q; want %q", line, got, want)
		}
	}
}

// K1: commands are those of the tick that goes on, in order; they are the tape's when it is over, and of that tick alone.
func TestCmdTicks(t *testing.T) {
	is(t, `
	ent 0 1 5 5 5 => ok
	bytes => 25
	cmd 0 1 1 0 9 9 0 => ok
	cmd 0 1 1 0 5 1 0 => ok
	bytes => 25
	show 0 => 0 0, 5 5 0 1 5 0
	show 1 => error 1
	carry 0 => 0 0
	cross 0 0 => 0 0, 5 5 0 1 5 0
	tick => ok
	bytes => 40
	show 1 => 0 0, 5 4 0 1 5 1
	carry 0 => 1 2
	cmd 0 5 1 0 0 0 0 => ok
	show 1 => 0 0, 5 4 0 1 5 1
	tick => ok
	bytes => 48
	show 2 => 0 0, 5 4 0 1 5 0
	tick => ok
	bytes => 49
	show 3 => 0 0, 5 4 0 1 5 0
	carry 0 => 3 3
	carry 1 => 2 1
	carry 2 => 1 0
	carry 3 => 0 0`)
}

// K1, K2: a tick may have MaxCmds commands; of more it is told where that tick is asked for.
func TestManyCmds(t *testing.T) {
	const cmd = "cmd 0 1 1 0 9 9 0"
	most := slices.Concat([]string{"ent 0 1 5 5 5", "tick"}, times(api.MaxCmds, cmd), []string{"tick"})
	more := slices.Concat([]string{"ent 0 1 5 5 5", "tick"}, times(api.MaxCmds+1, cmd), []string{"tick"})
	for _, c := range []struct{ line, most, more string }{
		{"show 0", "0 0, 5 5 0 1 5 0", "0 0, 5 5 0 1 5 0"},
		{"show 1", "0 0, 5 5 0 1 5 0", "0 0, 5 5 0 1 5 0"},
		{"show 2", "0 0, 6 6 0 1 5 1", "error 2"},
		{"show 3", "error 1", "error 1"},
		{"carry 0", "2 8", "error 2"},
		{"carry 1", "1 8", "error 2"},
		{"carry 2", "0 0", "error 2"},
		{"carry 3", "error 1", "error 2"},
		{"cross 0 1", "0 0, 5 5 0 1 5 0", "error 2"},
		{"cross 2 0", "0 0, 6 6 0 1 5 1", "error 2"},
		{"cross 3 0", "error 1", "error 2"},
		{"bytes", "83", "error 2"},
	} {
		if got := last(t, most, c.line); got != c.most {
			t.Errorf("%d commands, %q: %q; want %q", api.MaxCmds, c.line, got, c.most)
		}
		if got := last(t, more, c.line); got != c.more {
			t.Errorf("%d commands, %q: %q; want %q", api.MaxCmds+1, c.line, got, c.more)
		}
	}
}

// K1, K2: a tape may have MaxTicks ticks; of more it is told.
func TestManyTicks(t *testing.T) {
	most, more := times(api.MaxTicks, "tick"), times(api.MaxTicks+1, "tick")
	for _, c := range []struct{ line, most, more string }{
		{"show 0", "0 0", "0 0"},
		{"show 60", "0 0", "0 0"},
		{"show 61", "error 1", "error 2"},
		{"show 62", "error 1", "error 1"},
		{"carry 0", "60 0", "error 2"},
		{"carry 60", "0 0", "error 2"},
		{"carry 61", "error 1", "error 2"},
		{"cross 0 60", "0 0", "error 2"},
		{"cross 20 40", "0 0", "error 2"},
		{"cross 20 41", "error 1", "error 2"},
		{"bytes", "75", "error 2"},
	} {
		if got := last(t, most, c.line); got != c.most {
			t.Errorf("%d ticks, %q: %q; want %q", api.MaxTicks, c.line, got, c.most)
		}
		if got := last(t, more, c.line); got != c.more {
			t.Errorf("%d ticks, %q: %q; want %q", api.MaxTicks+1, c.line, got, c.more)
		}
	}
}

// K1: what one does is seen, and so are all numbers of more than one digit.
func TestView(t *testing.T) {
	is(t, `
	gold 0 10 => ok
	gold 1 40 => ok
	ent 0 1 11 10 5 => ok
	ent 2 4 10 11 100 => ok
	ent 1 3 0 0 20 => ok
	ent 0 2 10 10 8 => ok
	ent 1 2 11 11 8 => ok
	ent 0 5 1 3 6 => ok
	cmd 0 3 1 0 0 0 2 => ok
	cmd 0 2 4 0 0 0 5 => ok
	cmd 0 1 6 0 1 11 0 => ok
	tick => ok
	show 1 => 11 40, 0 0 1 3 20 0, 1 4 0 5 6 1, 10 10 0 2 8 2, 11 10 0 1 5 3, 10 11 2 4 99 0, 11 11 1 2 6 0`)
}
