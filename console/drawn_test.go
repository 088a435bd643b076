package console

import (
	"errors"
	"fmt"
	"math/rand"
	"regexp"
	"strings"
	"testing"

	"ferryman/api"
	"ferryman/elder"
	"ferryman/ferry"
	"ferryman/newer"
	"ferryman/snap"
	"ferryman/view"
)

// plain: a session by the document's words, read and told by other means than the program's.
type plain struct {
	tape api.Tape
	now  []api.Cmd
}

var isLine = regexp.MustCompile(`^(?:tick|bytes|(?:show|carry)(?: N)|(?:gold|cross)(?: N){2}|ent(?: N){5}|cmd(?: N){7})$`)
var isNumber = regexp.MustCompile(` (?:0|[1-9][0-9]{0,5})\b`)

func (p *plain) answer(line string) string {
	if len(line) > 200 || strings.Contains(line, "N") || !isLine.MatchString(isNumber.ReplaceAllString(line, " N")) {
		return "error 10"
	}
	var word string
	var n [7]int
	fmt.Sscan(line, &word, &n[0], &n[1], &n[2], &n[3], &n[4], &n[5], &n[6])
	text, err := p.do(word, n)
	var e api.Errno
	if errors.As(err, &e) {
		return fmt.Sprint("error ", int(e), text)
	}
	return text
}

func (p *plain) do(word string, n [7]int) (string, error) {
	start := &p.tape.Start
	switch word {
	case "gold":
		if n[0] > 1 {
			return "", api.ErrBound
		}
		start.Gold[n[0]] = n[1]
	case "ent":
		start.Ents = append(start.Ents, api.Ent{ID: len(start.Ents) + 1, Owner: n[0], Kind: n[1], X: n[2], Y: n[3], HP: n[4]})
		start.Next = len(start.Ents) + 1
	case "cmd":
		p.now = append(p.now, api.Cmd{Player: n[0], Op: n[1], ID: n[2], Kind: n[3], X: n[4], Y: n[5], Target: n[6]})
	case "tick":
		p.tape.Ticks, p.now = append(p.tape.Ticks, p.now), nil
	case "show":
		s, err := elder.Play(p.tape, n[0])
		return seen(err, func() (api.View, error) { return view.Elder(s) })
	case "carry":
		return p.carry(n[0])
	case "cross":
		reel, _, err := ferry.Translate(p.tape, n[0])
		if err != nil {
			return "", err
		}
		s, err := newer.Play(reel, n[1])
		return seen(err, func() (api.View, error) { return view.Newer(s) })
	case "bytes":
		b, err := snap.TapeBytes(p.tape)
		if err != nil {
			return "", err
		}
		return fmt.Sprint(len(b)), nil
	}
	return "ok", nil
}

func (p *plain) carry(from int) (string, error) {
	reel, tick, err := ferry.Translate(p.tape, from)
	if err == api.ErrCompat {
		return fmt.Sprint(" at ", tick), err
	}
	if err != nil {
		return "", err
	}
	sum := 0
	for _, l := range reel.Ticks {
		sum += len(l)
	}
	return fmt.Sprint(len(reel.Ticks), " ", sum), nil
}

func seen(err error, look func() (api.View, error)) (string, error) {
	if err != nil {
		return "", err
	}
	v, err := look()
	text := fmt.Sprintf("%d %d", v.Gold[0], v.Gold[1])
	for _, o := range v.All {
		text += fmt.Sprintf(", %d %d %d %d %d %d", o.X, o.Y, o.Owner, o.Kind, o.HP, o.Does)
	}
	return text, err
}

// drawnLine: mostly one that fits what is there.
func drawnLine(r *rand.Rand, ents, ticks int) string {
	switch r.Intn(20) {
	case 0, 1, 2, 3, 4, 5, 6, 7:
		return fmt.Sprint("cmd ", r.Intn(2), " ", 1+r.Intn(5), " ", 1+r.Intn(ents+2), " ", 1+r.Intn(2)+r.Intn(20)/16, " ", r.Intn(8), " ", r.Intn(6), " ", 1+r.Intn(ents+2))
	case 8, 9, 10, 11:
		return "tick"
	case 12, 13:
		return fmt.Sprint("show ", r.Intn(ticks+2))
	case 14:
		return fmt.Sprint("carry ", r.Intn(ticks+2))
	case 15, 16:
		from := r.Intn(ticks + 2)
		return fmt.Sprint("cross ", from, " ", r.Intn(max(ticks-from, 0)+2))
	case 17:
		return "bytes"
	case 18:
		return fmt.Sprint("gold ", r.Intn(20)/9, " ", r.Intn(30)+r.Intn(12))
	}
	l := none()
	return l[r.Intn(len(l))]
}

// drawnStart: gold, and who is there; one of many is not right.
func drawnStart(r *rand.Rand) []string {
	lines := []string{fmt.Sprint("gold 0 ", r.Intn(30)), fmt.Sprint("gold 1 ", r.Intn(30))}
	for i := range r.Intn(8) {
		kind := 1 + r.Intn(2)
		owner := r.Intn(2)
		if r.Intn(4) == 0 {
			owner, kind = api.Nobody, api.Mine
		}
		if r.Intn(60) == 0 {
			kind = r.Intn(7)
		}
		lines = append(lines, fmt.Sprint("ent ", owner, " ", kind, " ", i, " ", r.Intn(5), " ", 1+r.Intn(5)))
	}
	return lines
}

func drawnSession(r *rand.Rand) []string {
	lines := drawnStart(r)
	ents, ticks := len(lines)-2, 0
	for range r.Intn(api.MaxLines - len(lines) + 1) {
		line := drawnLine(r, ents, ticks)
		if line == "tick" {
			ticks++
		}
		lines = append(lines, line)
	}
	return lines
}

// K1, K2: drawn sessions are answered as the document's words ask.
func TestDrawn(t *testing.T) {
	r := rand.New(rand.NewSource(41))
	kinds := map[string]int{}
	for range 1500 {
		lines := drawnSession(r)
		p := plain{tape: api.Tape{Start: api.Elder{Next: 1}}}
		var want []string
		for _, line := range lines {
			want = append(want, p.answer(line))
			word, _, _ := strings.Cut(line, " ")
			kinds[word+": "+regexp.MustCompile(`^(error \d+( at)?|ok)?`).FindString(want[len(want)-1])]++
		}
		answers(t, lines, want)
		if t.Failed() {
			t.Fatalf("%q", lines)
		}
	}
	for _, kind := range []string{
		"gold: ok", "gold: error 1", "ent: ok", "cmd: ok", "tick: ok", "show: ", "show: error 1", "show: error 3", "carry: ", "carry: error 1", "carry: error 3",
		"carry: error 8 at", "cross: ", "cross: error 1", "cross: error 3", "cross: error 8", "bytes: ", "bytes: error 1", "bytes: error 3", "cmd: error 10", "show: error 10",
	} {
		if kinds[kind] < 5 {
			t.Errorf("%q: drawn %d times alone", kind, kinds[kind])
		}
	}
}

// W1, W2, K1: carried over first, or played first: it looks the same.
func TestCrossIsShow(t *testing.T) {
	r := rand.New(rand.NewSource(42))
	crossed := 0
	for range 300 {
		lines := drawnSession(r)
		lines = lines[:min(len(lines), api.MaxLines-3)]
		ticks := 0
		for _, line := range lines {
			if line == "tick" {
				ticks++
			}
		}
		from := r.Intn(ticks + 1)
		behind := r.Intn(ticks - from + 1)
		got, err := Run(append(lines, fmt.Sprint("carry ", from), fmt.Sprint("cross ", from, " ", behind), fmt.Sprint("show ", from+behind)))
		if err != nil {
			t.Fatal(err)
		}
		carry, cross, show := got[len(lines)], got[len(lines)+1], got[len(lines)+2]
		if strings.HasPrefix(carry, "error") {
			if !strings.HasPrefix(cross, "error") || !strings.HasPrefix(carry, cross) {
				t.Errorf("%q: carry %q, cross %q", lines, carry, cross)
			}
			continue
		}
		crossed++
		if cross != show || !strings.HasPrefix(carry, fmt.Sprint(ticks-from, " ")) {
			t.Errorf("%q: carry %q; from %d, behind %d: %q; want %q", lines, carry, from, behind, cross, show)
		}
	}
	if crossed < 100 {
		t.Errorf("%d were carried over", crossed)
	}
}
