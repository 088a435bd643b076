package snap

import (
	"fmt"
	"math"
	"math/rand"
	"strings"
	"testing"

	"ferryman/api"
	"ferryman/wire"
)

// example: a thing that is right, as numbers and as it is told. counts: where a number says how many there are, and how many there may be.
type example struct {
	face   face
	name   string
	list   []int
	told   string
	counts map[int]int
}

func examples() []example {
	f := faces()
	return []example{
		{f[0], "nobody", elderList(api.Elder{Next: 1}), fmt.Sprint(api.Elder{Next: 1}), map[int]int{4: 200, 5: 20}},
		{f[0], "camp", elderList(camp()), fmt.Sprint(camp()), map[int]int{4: 200, 148: 20}},
		{f[1], "nobody", newerList(api.Newer{Next: 1}), fmt.Sprint(api.Newer{Next: 1}), map[int]int{4: 20}},
		{f[1], "camp", newerList(newerCamp()), fmt.Sprint(newerCamp()), map[int]int{4: 20}},
		{f[2], "session", tapeList(session()), fmt.Sprint(session()),
			map[int]int{4: 200, 5: 20, 46: 60, 47: 8, 69: 8, 84: 8, 85: 8, 86: 8, 87: 8}},
		{f[2], "camp", tapeList(campTape()), fmt.Sprint(campTape()),
			map[int]int{4: 200, 148: 20, 219: 60, 220: 8, 228: 8, 229: 8}},
		{f[3], "camp", reelList(campReel()), fmt.Sprint(campReel()),
			map[int]int{4: 20, 60: 60, 61: 8, 62: 8, 75: 8}},
	}
}

// refuse: that error, and nothing beside it.
func refuse(t *testing.T, f face, what, b string, want error) {
	t.Helper()
	if told, _, err := f.of(b); err != want || told != f.zero {
		t.Errorf("%s, %s: %s, %v; want %v alone", f.name, what, told, err, want)
	}
}

// F3: what has just these bytes.
func TestOf(t *testing.T) {
	for _, x := range examples() {
		b := framed(x.face.kind, body(x.list))
		if told, again, err := x.face.of(b); err != nil || told != x.told || again != b {
			t.Errorf("%s, %s: %s, %x, %v; want %s", x.face.name, x.name, told, again, err, x.told)
		}
	}
}

// F3: Open's error; a frame of another kind is one of them.
func TestOfFrames(t *testing.T) {
	for _, x := range examples() {
		b := framed(x.face.kind, body(x.list))
		for n := range len(b) {
			want := error(api.ErrSum)
			if n < 8 {
				want = api.ErrEnd
			}
			refuse(t, x.face, fmt.Sprint("the first bytes: ", n), b[:n], want)
		}
		refuse(t, x.face, "a byte behind the frame", b+"\x00", api.ErrSum)
		refuse(t, x.face, "a byte ahead of it", "\x00"+b, api.ErrVersion)
		for _, f := range faces() {
			if f.kind != x.face.kind {
				refuse(t, f, "bytes of "+x.face.name, b, api.ErrVersion)
			}
		}
	}
}

// F3, W4: bits within 32 that follow each other are turned.
func TestOfTurnedBits(t *testing.T) {
	r := rand.New(rand.NewSource(12))
	for _, x := range examples() {
		f := framed(x.face.kind, body(x.list))
		for from := range 8 * len(f) {
			for _, pattern := range []uint32{1, 1<<32 - 1, r.Uint32() | 1} {
				b := []byte(f)
				for i := range min(32, 8*len(f)-from) {
					at := from + i
					b[at/8] ^= byte(pattern>>i&1) << (at % 8)
				}
				want := error(api.ErrSum)
				if string(b[:4]) != f[:4] {
					want = api.ErrVersion
				}
				refuse(t, x.face, fmt.Sprint("bits turned from ", from), string(b), want)
			}
		}
	}
}

// F3: each number in its turn is one that no number is written as, whatever stands behind it.
func TestOfWrongNumbers(t *testing.T) {
	high := strings.Repeat("\x80", 9)
	for _, x := range examples() {
		for i := range x.list {
			ahead, behind := body(x.list[:i]), body(x.list[i+1:])
			for _, c := range []struct {
				name, s string
				want    error
			}{
				{"nothing", "", api.ErrEnd},
				{"without an end", "\x80", api.ErrEnd},
				{"nine without an end", high, api.ErrEnd},
				{"a last byte of 0", "\x81\x00" + behind, api.ErrForm},
				{"a last byte of 0, at last", "\x81\x00", api.ErrForm},
				{"a ninth byte of 0", high[:8] + "\x00" + behind, api.ErrForm},
				{"ten bytes", high + "\x01" + behind, api.ErrBound},
				{"ten bytes of 0", high + "\x00" + behind, api.ErrBound},
				{"many bytes", high + high + high, api.ErrBound},
				{"wrong, and another one wrong behind", "\x81\x00" + high + high, api.ErrForm},
			} {
				refuse(t, x.face, fmt.Sprintf("%s, number %d: %s", x.name, i, c.name), framed(x.face.kind, ahead+c.s), c.want)
			}
		}
	}
}

// F3: ErrMany, where it is how many there are, and nowhere else; ahead of what stands behind it, and behind what stands ahead.
func TestOfCounts(t *testing.T) {
	for _, x := range examples() {
		for i := range x.list {
			most, isCount := x.counts[i]
			for _, n := range []int{most + 1, most + 128, math.MaxInt} {
				if !isCount {
					continue
				}
				ahead, s := body(x.list[:i]), body([]int{n})
				name := fmt.Sprintf("%s, number %d: how many: %d", x.name, i, n)
				refuse(t, x.face, name, framed(x.face.kind, ahead+s), api.ErrMany)
				refuse(t, x.face, name+", and more", framed(x.face.kind, ahead+s+"\x81\x00"), api.ErrMany)
				refuse(t, x.face, name+", and noughts", framed(x.face.kind, ahead+s+strings.Repeat("\x00", 5000)), api.ErrMany)
				refuse(t, x.face, name+", behind a wrong one", framed(x.face.kind, "\x81\x00"+ahead[1:]+s), api.ErrForm)
			}
			if isCount {
				refuse(t, x.face, fmt.Sprintf("%s, number %d: as many as may be, but gone", x.name, i),
					framed(x.face.kind, body(x.list[:i])+body([]int{most})), api.ErrEnd)
			}
			if b, _, err := x.face.of(framed(x.face.kind, body(x.list[:i])+body([]int{math.MaxInt})+body(x.list[i+1:]))); !isCount && err == api.ErrMany {
				t.Errorf("%s, %s, number %d: %s, %v, though it does not say how many", x.face.name, x.name, i, b, err)
			}
		}
	}
}

// F3: as many as may be are read.
func TestOfMost(t *testing.T) {
	free := api.Elder{Next: 201}
	for id := range 200 {
		free.Free = append(free.Free, 200-id)
	}
	full, newFull := api.Elder{Next: 21}, api.Newer{Next: 2001}
	for i := range 20 {
		full.Ents = append(full.Ents, api.Ent{ID: 1 + i, Kind: api.Worker, X: i % 10, Y: i / 10, HP: 5})
		newFull.Units = append(newFull.Units, api.Unit{ID: 1981 + i, Kind: api.Worker, X: i % 10, Y: i / 10, HP: 5})
	}
	tape, reel := api.Tape{Start: full}, api.Reel{Start: newFull}
	for range 60 {
		tape.Ticks = append(tape.Ticks, make([]api.Cmd, 8))
		reel.Ticks = append(reel.Ticks, make([]api.Order, 8))
	}
	tape.Ticks[59][7].Target, reel.Ticks[59][7].Y = math.MaxInt, math.MaxInt
	f := faces()
	for _, x := range []example{
		{face: f[0], name: "all free", list: elderList(free), told: fmt.Sprint(free)},
		{face: f[0], name: "full", list: elderList(full), told: fmt.Sprint(full)},
		{face: f[1], name: "full", list: newerList(newFull), told: fmt.Sprint(newFull)},
		{face: f[2], name: "full", list: tapeList(tape), told: fmt.Sprint(tape)},
		{face: f[3], name: "full", list: reelList(reel), told: fmt.Sprint(reel)},
	} {
		b := framed(x.face.kind, body(x.list))
		if told, again, err := x.face.of(b); err != nil || told != x.told || again != b {
			t.Errorf("%s, %s: %s, %v; want %s", x.face.name, x.name, told, err, x.told)
		}
	}
}

// F3: ErrForm, if something stands behind: ahead of Check's, and F1's, error.
func TestOfBehind(t *testing.T) {
	for _, x := range examples() {
		for _, behind := range []string{"\x00", "\x80", "z", strings.Repeat("\xff", 50), body(x.list)} {
			refuse(t, x.face, x.name+", and something behind", framed(x.face.kind, body(x.list)+behind), api.ErrForm)
		}
		wrong := append([]int{61}, x.list[1:]...)
		refuse(t, x.face, x.name+", wrong, and something behind", framed(x.face.kind, body(wrong)+"\x00"), api.ErrForm)
		refuse(t, x.face, x.name+", wrong", framed(x.face.kind, body(wrong)), api.ErrBound)
		refuse(t, x.face, "no numbers", framed(x.face.kind, ""), api.ErrEnd)
	}
}

// F3: Check's, or F1's, error, of what is written well.
func TestOfChecks(t *testing.T) {
	f := faces()
	one := api.Ent{ID: 2, Kind: api.Worker, HP: 5}
	late := session()
	late.Start.Tick = 55
	last := session()
	last.Start.Tick = 54
	mule := newerCamp()
	mule.Units[0].Kind = api.Mule
	shape := session()
	shape.Start.Ents[1].Owner, shape.Start.Tick = 0, 60
	lateReel := campReel()
	lateReel.Start.Tick = 58
	for _, c := range []struct {
		name string
		f    face
		list []int
		want error
	}{
		{"the document's example", f[0], elderList(api.Elder{Next: 3, Ents: []api.Ent{one}}), api.ErrShape},
		{"no next", f[0], elderList(api.Elder{}), api.ErrBound},
		{"great gold", f[0], elderList(api.Elder{Next: 1, Gold: [2]int{0, math.MaxInt}}), api.ErrBound},
		{"a mule", f[1], newerList(mule), api.ErrBound},
		{"no next", f[1], newerList(api.Newer{}), api.ErrBound},
		{"more ticks than are left", f[2], tapeList(late), api.ErrMany},
		{"as many as are left", f[2], tapeList(last), nil},
		{"a wrong start, and more ticks", f[2], tapeList(shape), api.ErrShape},
		{"more ticks than are left", f[3], reelList(lateReel), api.ErrMany},
		{"a mule", f[3], reelList(api.Reel{Start: mule}), api.ErrBound},
	} {
		b := framed(c.f.kind, body(c.list))
		if _, again, err := c.f.of(b); c.want == nil && (err != nil || again != b) {
			t.Errorf("%s, %s: %v", c.f.name, c.name, err)
		}
		if c.want != nil {
			refuse(t, c.f, c.name, b, c.want)
		}
	}
}

// slow: F3 by its words, with Take over all that is left: the numbers' error.
func slow(kind byte, s string) (err error) {
	defer func() {
		if e, ok := recover().(api.Errno); ok {
			err = e
		}
	}()
	num := func() int {
		n, rest, err := wire.Take(s)
		if err != nil {
			panic(err)
		}
		s = rest
		return n
	}
	each := func(most int, do func()) {
		n := num()
		if n > most {
			panic(api.ErrMany)
		}
		for range n {
			do()
		}
	}
	skip := func(n int) func() {
		return func() {
			for range n {
				num()
			}
		}
	}
	size, fields := map[byte]int{'E': 10, 'T': 10, 'N': 11, 'R': 11}[kind], map[byte]int{'T': 7, 'R': 6}[kind]
	skip(4)()
	if size == 10 {
		each(api.MaxID, skip(1))
	}
	each(api.MaxEnts, skip(size))
	if fields > 0 {
		each(api.MaxTicks, func() { each(api.MaxCmds, skip(fields)) })
	}
	if s != "" {
		return api.ErrForm
	}
	return nil
}

// spoilt: a body in which a few bytes are others, more, or fewer.
func spoilt(r *rand.Rand, s string) string {
	b := []byte(s)
	for range r.Intn(3) {
		at := r.Intn(len(b))
		switch r.Intn(4) {
		case 0:
			b[at] = byte(r.Intn(256))
		case 1:
			b[at] = byte(r.Intn(20))
		case 2:
			b = append(b[:at], b[at+1:]...)
		case 3:
			b = append(b[:at], append([]byte{byte(r.Intn(256))}, b[at:]...)...)
		}
		if len(b) == 0 {
			break
		}
	}
	return string(b)
}

// F3, W4, Z1: whatever the body, it is read if, and only if, it is what that thing is written as; the numbers' error is the first one's.
func TestOfDrawn(t *testing.T) {
	r := rand.New(rand.NewSource(13))
	f := faces()
	read, refused := map[string]int{}, map[error]int{}
	for range 3000 {
		tape, reel := drawnTape(r), drawnReel(r)
		for i, l := range [][]int{elderList(tape.Start), newerList(reel.Start), tapeList(tape), reelList(reel)} {
			s := spoilt(r, body(l))
			b := framed(f[i].kind, s)
			told, again, err := f[i].of(b)
			want := slow(f[i].kind, s)
			if want != nil && err != want {
				t.Fatalf("%s of the body %x: %v; want %v", f[i].name, s, err, want)
			}
			if err == nil && again != b || err != nil && told != f[i].zero {
				t.Fatalf("%s of the body %x: %s, %x, %v", f[i].name, s, told, again, err)
			}
			if s == body(l) && err != nil {
				t.Fatalf("%s of the body %x: %v", f[i].name, s, err)
			}
			if err == nil {
				read[f[i].name]++
			}
			refused[err]++
		}
	}
	if len(read) != 4 || len(refused) < 6 {
		t.Errorf("read: %v, refused: %v", read, refused)
	}
}

func FuzzOf(f *testing.F) {
	for _, x := range examples() {
		f.Add(body(x.list))
	}
	f.Fuzz(func(t *testing.T, s string) {
		for _, x := range faces() {
			b := framed(x.kind, s)
			told, again, err := x.of(b)
			if want := slow(x.kind, s); want != nil && err != want {
				t.Errorf("%s of the body %x: %v; want %v", x.name, s, err, want)
			}
			if err == nil && again != b || err != nil && told != x.zero {
				t.Errorf("%s of the body %x: %s, %x, %v", x.name, s, told, again, err)
			}
		}
	})
}
