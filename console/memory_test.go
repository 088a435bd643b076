package console

import (
	"math/rand"
	"regexp"
	"slices"
	"strings"
	"testing"

	"ferryman/api"
)

// Z2: what is handed in stays as it was, what stands behind it is neither read nor written, and nothing is kept from call to call.
func TestLeaveAlone(t *testing.T) {
	r := rand.New(rand.NewSource(43))
	for range 200 {
		lines := drawnSession(r)
		want, err := Run(lines)
		if err != nil {
			t.Fatal(err)
		}
		roomy := append(slices.Clone(lines), times(100, "gold 0 41")...)
		was := slices.Clone(roomy)
		for range 2 {
			got, err := Run(roomy[:len(lines)])
			if err != nil || !slices.Equal(got, want) {
				t.Fatalf("%q: %q, %v; want %q", lines, got, err, want)
			}
		}
		if !slices.Equal(roomy, was) {
			t.Fatalf("now %q; was %q", roomy, was)
		}
	}
}

// Z2: what comes out is the caller's.
func TestFresh(t *testing.T) {
	lines := []string{"gold 0 3", "show 0", "fly"}
	want := []string{"ok", "3 0", "error 10"}
	first, _ := Run(lines)
	second, _ := Run(lines)
	second = second[:cap(second)]
	for i := range second {
		second[i] = "spoilt"
	}
	for i := range lines {
		lines[i] = "spoilt"
	}
	if !slices.Equal(first, want) {
		t.Errorf("now %q", first)
	}
	answers(t, []string{"gold 0 3", "show 0", "fly"}, want)
}

// Z1: spoilt lines, and drawn bytes: each call ends, none panics, and each line has an answer of a known form.
func TestSpoiltLines(t *testing.T) {
	form := regexp.MustCompile(`^(?:ok|error (?:1|2|3|8|10)|error 8 at \d+|\d+|\d+ \d+(?:, \d+ \d+ \d+ \d+ \d+ \d+)*)$`)
	r := rand.New(rand.NewSource(44))
	for range 1000 {
		lines := drawnSession(r)
		for i := range lines {
			lines[i] = spoil(r, lines[i])
		}
		got, err := Run(lines)
		if err != nil || len(got) != len(lines) {
			t.Fatalf("%q: %q, %v", lines, got, err)
		}
		for i, a := range got {
			if !form.MatchString(a) {
				t.Fatalf("%q: line %d: %q", lines, i, a)
			}
		}
	}
}

// spoil one of some lines.
func spoil(r *rand.Rand, line string) string {
	switch r.Intn(12) {
	case 0:
		b := make([]byte, r.Intn(220))
		r.Read(b)
		return string(b)
	case 1:
		at := r.Intn(len(line) + 1)
		return line[:at] + string(" 0123456789-x\n"[r.Intn(14)]) + line[at:]
	case 2:
		return line[:r.Intn(len(line)+1)]
	case 3:
		words := strings.Split(line, " ")
		r.Shuffle(len(words), func(i, j int) { words[i], words[j] = words[j], words[i] })
		return strings.Join(words, " ")
	case 4:
		return line + line
	}
	return line
}

// Z1: the most that can be asked in one call: a long tape, carried over again and again, with who is there fighting for each place.
func TestMuchIsAsked(t *testing.T) {
	lines := []string{"gold 0 39", "gold 1 39"}
	for _, at := range []string{"0 1 5 5 5", "1 2 3 3 8", "1 2 3 4 8", "1 2 3 5 8", "2 4 9 9 100", "0 1 8 8 5", "0 1 9 8 5", "0 1 10 8 5"} {
		lines = append(lines, "ent "+at)
	}
	for range 8 {
		lines = append(lines, "cmd 0 4 1 5 4 4 0", "cmd 1 2 2 0 0 0 9", "cmd 1 2 3 0 0 0 9", "cmd 1 2 4 0 0 0 9", "tick")
	}
	for len(lines) < api.MaxLines {
		lines = append(lines, "carry 0", "cross 0 8")
	}
	got, err := Run(lines)
	if err != nil || len(got) != api.MaxLines {
		t.Fatalf("%q, %v", got, err)
	}
}
