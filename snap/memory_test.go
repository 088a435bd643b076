package snap

import (
	"fmt"
	"runtime"
	"strings"
	"testing"

	"ferryman/api"
)

// Z2: what is handed in stays as it was, and what stands behind it is neither read nor written.
func TestBytesLeaveAlone(t *testing.T) {
	tape, reel := campTape(), campReel()
	free := append(tape.Start.Free, -7)
	ents := append(tape.Start.Ents, api.Ent{ID: -7})
	units := append(reel.Start.Units, api.Unit{ID: -7})
	cmds := append(tape.Ticks, []api.Cmd{{X: -7}})
	orders := append(reel.Ticks, []api.Order{{X: -7}})
	tape.Start.Free, tape.Start.Ents = free[:len(free)-1], ents[:len(ents)-1]
	reel.Start.Units = units[:len(units)-1]
	tape.Ticks, reel.Ticks = cmds[:len(cmds)-1], orders[:len(orders)-1]
	was := fmt.Sprint(free, ents, units, cmds, orders)
	for range 2 {
		got, err := ElderBytes(tape.Start)
		checkBytes(t, "elder", got, err, framed('E', body(elderList(camp()))))
		got, err = NewerBytes(reel.Start)
		checkBytes(t, "newer", got, err, framed('N', body(newerList(newerCamp()))))
		got, err = TapeBytes(tape)
		checkBytes(t, "tape", got, err, framed('T', body(tapeList(campTape()))))
		got, err = ReelBytes(reel)
		checkBytes(t, "reel", got, err, framed('R', body(reelList(campReel()))))
		checkTape(t, "tape", tape, nil)
		checkReel(t, "reel", reel, nil)
	}
	if now := fmt.Sprint(free, ents, units, cmds, orders); now != was {
		t.Errorf("now %s; was %s", now, was)
	}
}

// fill a list to the end of its room.
func fill[T any](l []T, v T) {
	l = l[:cap(l)]
	for i := range l {
		l[i] = v
	}
}

// Z2: no two lists that come out share memory, whatever is done to one of them.
func TestOfListsAreApart(t *testing.T) {
	tape := campTape()
	tape.Ticks = [][]api.Cmd{make([]api.Cmd, 3), nil, make([]api.Cmd, 8), make([]api.Cmd, 1), nil}
	reel := campReel()
	reel.Ticks = [][]api.Order{make([]api.Order, 3), nil, make([]api.Order, 8), make([]api.Order, 1), nil}
	a, _ := TapeBytes(tape)
	b, _ := ReelBytes(reel)
	other, _ := TapeOf(a)
	otherReel, _ := ReelOf(b)
	for i := range tape.Ticks {
		gotTape, _ := TapeOf(a)
		gotReel, _ := ReelOf(b)
		fill(gotTape.Ticks[i], api.Cmd{X: 9})
		fill(gotReel.Ticks[i], api.Order{X: 9})
		fill(gotTape.Start.Free, -9)
		fill(gotReel.Start.Units, api.Unit{X: 9})
		for j := range tape.Ticks {
			if j != i && fmt.Sprint(gotTape.Ticks[j], gotReel.Ticks[j]) != fmt.Sprint(tape.Ticks[j], reel.Ticks[j]) {
				t.Errorf("tick %d was written into; now tick %d: %v, %v", i, j, gotTape.Ticks[j], gotReel.Ticks[j])
			}
		}
		if fmt.Sprint(gotTape.Start.Ents) != fmt.Sprint(camp().Ents) {
			t.Errorf("now %v", gotTape.Start.Ents)
		}
	}
	if fmt.Sprint(other, otherReel) != fmt.Sprint(tape, reel) {
		t.Errorf("now %v, %v; want %v, %v", other, otherReel, tape, reel)
	}
}

// Z1: of a long body what stands behind a number is not copied for each of them, or the call would hardly end.
func TestOfLongBodies(t *testing.T) {
	list := tapeList(api.Tape{Start: camp(), Ticks: make([][]api.Cmd, 51)})
	b := framed('T', body(list)+strings.Repeat("\x00", 1<<20))
	var ahead, behind runtime.MemStats
	runtime.ReadMemStats(&ahead)
	got, err := TapeOf(b)
	runtime.ReadMemStats(&behind)
	if err != api.ErrForm || fmt.Sprint(got) != fmt.Sprint(api.Tape{}) {
		t.Errorf("%v, %v; want %v alone", got, err, api.ErrForm)
	}
	if taken := behind.TotalAlloc - ahead.TotalAlloc; taken > uint64(20*len(b)) {
		t.Errorf("%d bytes of memory were taken for %d bytes", taken, len(b))
	}
}
