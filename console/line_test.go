package console

import (
	"slices"
	"strings"
	"testing"

	"ferryman/api"
)

// none of these is a line.
func none() []string {
	return []string{
		"", " ", "  ", "\n", "\x00", "\xff", "0", "1 2", "ok", "error 10", "fly", "fly 1", "help", "#", "-", "view 0",
		"tick ", " tick", "  tick", "tick  ", "tick\n", "\ttick", "tick\t", "tick\r", "tick\x00", "Tick", "TICK", "tic", "ticks", "tick 1", "tick 0", "tick x", "ticktick", "tick tick", "tick;",
		"bytes ", " bytes", "bytes 0", "byte", "Bytes", "bytes\n",
		"show", "show ", " show 0", "show  0", "show 0 ", "show 0  ", "show\t0", "show 0\n", "show0", "show 0 0", "show 0,", "show x", "show 0x0", "Show 0", "SHOW 0",
		"show 00", "show 01", "show 000000", "show 000001", "show -1", "show -0", "show +0", "show +1", "show 1.0", "show 0.0", "show 1e0", "show 1_0", "show ''", "show \"0\"",
		"show 1000000", "show 0999999", "show 9999999", "show 2147483648", "show 4294967296", "show 9223372036854775807", "show 9223372036854775808", "show 18446744073709551616", "show 99999999999999999999999999",
		"show \u0660", "show \uff10", "show\u00a00", "show \u00b2", "show 0\u00a0", "show 0\ufeff", "\ufeffshow 0", "show \xff", "show 0\x00",
		"carry", "carry ", "carry 00", "carry -1", "carry 0 0", "carry  0", "carry x", "carry 1000000", "Carry 0",
		"cross", "cross 0", "cross 0 ", "cross  0 0", "cross 0  0", "cross 0 0 ", "cross 0 0 0", "cross 00 0", "cross 0 00", "cross 0 -1", "cross -1 0", "cross x 0", "cross 0 x", "cross 0 1000000", "cross 1000000 0", "cross 0,0",
		"gold", "gold 0", "gold 0 ", "gold 0 1 2", "gold 0 1 ", "gold  0 1", "gold 0  1", "gold 00 1", "gold 0 01", "gold 0 -1", "gold -1 1", "gold 0 x", "gold x 1", "gold 0 1000000", "gold 1000000 1", "gold 2 01", "gold 2", "Gold 0 1",
		"ent", "ent 0", "ent 0 1", "ent 0 1 3", "ent 0 1 3 3", "ent 0 1 3 3 ", "ent 0 1 3 3 5 ", "ent 0 1 3 3 5 0", "ent 0 1 3  3 5", "ent 0 1 3 3 05", "ent 00 1 3 3 5", "ent -1 1 3 3 5", "ent 0 1 3 3 -5", "ent 0 1 3 3 x", "ent 0 1 3 3 1000000", "ent worker 1 3 3 5", "Ent 0 1 3 3 5",
		"cmd", "cmd 0", "cmd 0 1", "cmd 0 1 1", "cmd 0 1 1 0", "cmd 0 1 1 0 9", "cmd 0 1 1 0 9 9", "cmd 0 1 1 0 9 9 ", "cmd 0 1 1 0 9 9 0 ", "cmd 0 1 1 0 9 9 0 0", "cmd 0 1 1 0 9  9 0", "cmd 0 1 1 0 9 9 00", "cmd 00 1 1 0 9 9 0", "cmd 0 1 1 0 9 9 -1", "cmd -1 1 1 0 9 9 0", "cmd 0 1 1 0 9 9 x", "cmd 0 1 1 0 9 9 1000000", "Cmd 0 1 1 0 9 9 0",
		"show 0\nshow 0", "tick\ntick",
	}
}

// K2: a line that is none is told so, wherever it stands, and changes nothing.
func TestNone(t *testing.T) {
	ahead := []string{"gold 0 12", "ent 0 1 3 3 5", "cmd 0 4 1 1 3 4 0", "tick", "cmd 0 1 2 0 9 9 0"}
	behind := []string{"bytes", "show 1", "tick", "show 2", "bytes", "carry 0", "cross 1 1"}
	want, err := Run(slices.Concat(ahead, behind))
	if err != nil {
		t.Fatal(err)
	}
	for _, line := range none() {
		lines := slices.Concat(ahead, []string{line}, behind)
		answers(t, lines, slices.Insert(slices.Clone(want), len(ahead), "error 10"))
		answers(t, []string{line}, []string{"error 10"})
		answers(t, []string{line, line, "bytes"}, []string{"error 10", "error 10", "15"})
	}
}

// K1: numbers have from one to six digits, and none is nought ahead of others.
func TestNumbers(t *testing.T) {
	for _, n := range []string{"0", "1", "9", "10", "99", "100", "999", "1000", "10000", "99999", "100000", "101010", "123456", "900000", "999999"} {
		for _, line := range []string{"gold 0 N", "gold 1 N", "ent N N N N N", "ent 0 1 3 3 N", "cmd N N N N N N N", "cmd 0 1 1 0 9 9 N"} {
			line = strings.ReplaceAll(line, "N", n)
			if got := last(t, nil, line); got != "ok" {
				t.Errorf("%q: %q", line, got)
			}
		}
	}
	for _, n := range []string{"1", "9", "10", "99", "100", "999", "1000", "10000", "99999", "100000", "123456", "999999"} {
		for _, line := range []string{"show N", "carry N", "cross 0 N", "cross N 0", "cross N N"} {
			line = strings.ReplaceAll(line, "N", n)
			if got := last(t, nil, line); got != "error 1" {
				t.Errorf("%q: %q", line, got)
			}
		}
	}
	for _, n := range []string{"", "00", "01", "09", "012345", "0000000", "0123456", "1000000", "1234567", "-1", "+1", "1a", "a1", "a", "1.", "1,", "\u0661"} {
		for _, line := range []string{"show N", "carry N", "cross 0 N", "cross N 0", "gold 0 N", "gold N 0", "ent 0 1 3 3 N", "ent N 1 3 3 5", "ent 0 1 N 3 5", "cmd N 1 1 0 9 9 0", "cmd 0 1 1 N 9 9 0", "cmd 0 1 1 0 9 9 N"} {
			line = strings.ReplaceAll(line, "N", n)
			if got := last(t, nil, line); got != "error 10" {
				t.Errorf("%q: %q", line, got)
			}
		}
	}
}

// K2: lines of about MaxLine bytes, and far longer ones. (The longest that is one has 52.)
func TestLongLines(t *testing.T) {
	longest := "cmd" + strings.Repeat(" 999999", 7)
	if got := last(t, nil, longest); got != "ok" {
		t.Errorf("%q: %q", longest, got)
	}
	for _, n := range []int{api.MaxLine - 1, api.MaxLine, api.MaxLine + 1, 2 * api.MaxLine, 1 << 22} {
		for _, line := range []string{
			strings.Repeat("x", n), strings.Repeat(" ", n), strings.Repeat("0", n), strings.Repeat("\xff", n),
			"tick" + strings.Repeat(" ", n-4), strings.Repeat(" ", n-4) + "tick", "show " + strings.Repeat("0", n-5), "show " + strings.Repeat("9", n-5),
			"show" + strings.Repeat(" 0", (n-4)/2), "show 0" + strings.Repeat("\x00", n-6),
		} {
			if got := last(t, nil, line); got != "error 10" {
				t.Errorf("%d bytes, %.20q: %q", len(line), line, got)
			}
		}
	}
}
