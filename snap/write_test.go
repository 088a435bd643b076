package snap

import (
	"encoding/hex"
	"math/rand"
	"testing"

	"ferryman/api"
)

func checkBytes(t *testing.T, name, got string, err error, want string) {
	t.Helper()
	if err != nil || got != want {
		t.Errorf("%s: %x, %v; want %x", name, got, err, want)
	}
}

// F2: bytes written out by hand.
func TestBytesByHand(t *testing.T) {
	ent := api.Ent{ID: 2, Owner: 1, Kind: 2, X: 3, Y: 4, HP: 5, Does: api.Going, GX: 7, GY: 8}
	unit := api.Unit{ID: 300, Owner: 1, Kind: 2, X: 3, Y: 4, HP: 5, Does: api.Going, GX: 7, GY: 8, Since: 6}
	e := api.Elder{Tick: 9, Gold: [2]int{10, 11}, Next: 4, Free: []int{3, 1}, Ents: []api.Ent{ent}}
	n := api.Newer{Tick: 9, Gold: [2]int{128, 11}, Next: 301, Units: []api.Unit{unit}}
	start := "090a0b04" + "020301" + "01" + "02010203040501070800"
	newStart := "0980010bad02" + "01" + "ac020102030405010708" + "0006"

	got, err := ElderBytes(e)
	checkBytes(t, "a state of the elder game", got, err, framed('E', unhex(t, start)))
	got, err = NewerBytes(n)
	checkBytes(t, "a state of the newer game", got, err, framed('N', unhex(t, newStart)))
	got, err = TapeBytes(api.Tape{Start: e, Ticks: [][]api.Cmd{
		{{Player: 1, Op: 2, ID: 3, Kind: 4, X: 5, Y: 6, Target: 7}}, nil, {{}, {Player: 300, Target: 127}},
	}})
	checkBytes(t, "a tape", got, err,
		framed('T', unhex(t, start+"03"+"01"+"01020304050607"+"00"+"02"+"00000000000000"+"ac020000000000"+"7f")))
	got, err = ReelBytes(api.Reel{Start: n, Ticks: [][]api.Order{
		nil, {{Player: 1, Verb: 2, ID: 3, Arg: 4, X: 5, Y: 6}, {Y: 128}},
	}})
	checkBytes(t, "a reel", got, err, framed('R', unhex(t, newStart+"02"+"00"+"02"+"010203040506"+"00000000008001")))
}

// F2: as short as may be.
func TestBytesOfNobody(t *testing.T) {
	got, err := ElderBytes(api.Elder{Next: 1})
	checkBytes(t, "elder", got, err, framed('E', "\x00\x00\x00\x01\x00\x00"))
	got, err = NewerBytes(api.Newer{Next: 1})
	checkBytes(t, "newer", got, err, framed('N', "\x00\x00\x00\x01\x00"))
	got, err = TapeBytes(api.Tape{Start: api.Elder{Next: 1}})
	checkBytes(t, "tape", got, err, framed('T', "\x00\x00\x00\x01\x00\x00\x00"))
	got, err = ReelBytes(api.Reel{Start: api.Newer{Next: 1}})
	checkBytes(t, "reel", got, err, framed('R', "\x00\x00\x00\x01\x00\x00"))
}

// F2: all doings, and greater numbers.
func TestBytesOfCamps(t *testing.T) {
	got, err := ElderBytes(camp())
	checkBytes(t, "camp", got, err, framed('E', body(elderList(camp()))))
	got, err = NewerBytes(newerCamp())
	checkBytes(t, "the newer camp", got, err, framed('N', body(newerList(newerCamp()))))
	got, err = TapeBytes(campTape())
	checkBytes(t, "the camp's tape", got, err, framed('T', body(tapeList(campTape()))))
	got, err = ReelBytes(campReel())
	checkBytes(t, "the camp's reel", got, err, framed('R', body(reelList(campReel()))))
}

// F2: the document's example.
func TestBytesOfSession(t *testing.T) {
	got, err := TapeBytes(session())
	checkBytes(t, "session", got, err, framed('T', body(tapeList(session()))))
	if len(got) != 96 {
		t.Errorf("%d bytes; want 96", len(got))
	}
}

// F2, Z3: Check's error, and nothing beside it. (Of tapes and reels F1's tests ask this.)
func TestStateBytesErrors(t *testing.T) {
	for _, c := range []struct {
		name string
		edit func(s *api.Elder)
		want error
	}{
		{"all zero", func(s *api.Elder) { *s = api.Elder{} }, api.ErrBound},
		{"a tick below 0", func(s *api.Elder) { s.Tick = -1 }, api.ErrBound},
		{"too many", func(s *api.Elder) { s.Ents = make([]api.Ent, 21) }, api.ErrMany},
		{"too many free", func(s *api.Elder) { s.Free = make([]int, 201) }, api.ErrMany},
		{"none free", func(s *api.Elder) { s.Free = nil }, api.ErrShape},
		{"free below 0", func(s *api.Elder) { s.Free[3] = -1 }, api.ErrShape},
		{"off the board", func(s *api.Elder) { s.Ents[0].X = -1 }, api.ErrBound},
		{"going off the board", func(s *api.Elder) { s.Ents[3].GX = -1 }, api.ErrShape},
	} {
		s := camp()
		c.edit(&s)
		if got, err := ElderBytes(s); got != "" || err != c.want {
			t.Errorf("%s: %x, %v; want %v alone", c.name, got, err, c.want)
		}
	}
	for _, c := range []struct {
		name string
		edit func(s *api.Newer)
		want error
	}{
		{"all zero", func(s *api.Newer) { *s = api.Newer{} }, api.ErrBound},
		{"too many", func(s *api.Newer) { s.Units = make([]api.Unit, 21) }, api.ErrMany},
		{"a mule", func(s *api.Newer) { s.Units[0].Kind = api.Mule }, api.ErrBound},
		{"since below 0", func(s *api.Newer) { s.Units[4].Since = -1 }, api.ErrBound},
		{"two at one place", func(s *api.Newer) { s.Units[3].Y = 2 }, api.ErrShape},
	} {
		s := newerCamp()
		c.edit(&s)
		if got, err := NewerBytes(s); got != "" || err != c.want {
			t.Errorf("%s: %x, %v; want %v alone", c.name, got, err, c.want)
		}
	}
}

// F2: of whatever is right.
func TestBytesDrawn(t *testing.T) {
	r := rand.New(rand.NewSource(11))
	for range 500 {
		tape, reel := drawnTape(r), drawnReel(r)
		got, err := ElderBytes(tape.Start)
		checkBytes(t, "elder", got, err, framed('E', body(elderList(tape.Start))))
		got, err = NewerBytes(reel.Start)
		checkBytes(t, "newer", got, err, framed('N', body(newerList(reel.Start))))
		got, err = TapeBytes(tape)
		checkBytes(t, "tape", got, err, framed('T', body(tapeList(tape))))
		got, err = ReelBytes(reel)
		checkBytes(t, "reel", got, err, framed('R', body(reelList(reel))))
	}
}

func unhex(t *testing.T, s string) string {
	t.Helper()
	b, err := hex.DecodeString(s)
	if err != nil {
		t.Fatal(err)
	}
	return string(b)
}
