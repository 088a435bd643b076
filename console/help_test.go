package console

import (
	"slices"
	"strings"
	"testing"
)

// split a session, as the document writes one: of each row the line, and its answer.
func split(t *testing.T, session string) (lines, want []string) {
	t.Helper()
	for row := range strings.SplitSeq(strings.TrimSpace(session), "\n") {
		line, answer, ok := strings.Cut(strings.TrimLeft(row, "\t"), " => ")
		if !ok {
			t.Fatalf("no answer in %q", row)
		}
		lines, want = append(lines, line), append(want, answer)
	}
	return lines, want
}

// is: a session, each of whose lines has its answer.
func is(t *testing.T, session string) {
	t.Helper()
	lines, want := split(t, session)
	answers(t, lines, want)
}

func answers(t *testing.T, lines, want []string) {
	t.Helper()
	got, err := Run(lines)
	if err != nil || len(got) != len(lines) {
		t.Fatalf("%d lines: %d answers, %v", len(lines), len(got), err)
	}
	for i, line := range lines {
		if got[i] != want[i] {
			t.Errorf("line %d, %.60q: %q; want %q", i, line, got[i], want[i])
		}
	}
}

// last: the answer to a line behind others.
func last(t *testing.T, ahead []string, line string) string {
	t.Helper()
	got, err := Run(append(slices.Clone(ahead), line))
	if err != nil || len(got) != len(ahead)+1 {
		t.Fatalf("%q: %d answers, %v", line, len(got), err)
	}
	return got[len(ahead)]
}

// times: that line, so often.
func times(n int, line string) []string {
	return slices.Repeat([]string{line}, n)
}
