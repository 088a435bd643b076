package ferry

import (
	"fmt"
	"math/rand"
	"slices"
	"testing"

	"ferryman/api"
)

// roomy: the same tape; behind each of its lists stands what is not its own.
func roomy(x api.Tape) api.Tape {
	free := append(slices.Clone(x.Start.Free), 7, 8)
	ents := append(slices.Clone(x.Start.Ents), one(150, 0, api.Mule, 9, 9), one(151, 0, api.Tower, 9, 8))
	x.Start.Free, x.Start.Ents = free[:len(x.Start.Free)], ents[:len(x.Start.Ents)]
	var ticks [][]api.Cmd
	for _, l := range x.Ticks {
		more := append(slices.Clone(l), build(0, 1, api.Mule, 3, 4), api.Cmd{Player: -1})
		ticks = append(ticks, more[:len(l)])
	}
	ticks = append(ticks, make([]api.Cmd, 9))
	x.Ticks = ticks[:len(x.Ticks)]
	return x
}

// whole: all that stands in a tape's lists, and behind them.
func whole(x api.Tape) string {
	s := fmt.Sprint(x.Start.Free[:cap(x.Start.Free)], x.Start.Ents[:cap(x.Start.Ents)], x.Ticks[:cap(x.Ticks)])
	for _, l := range x.Ticks {
		s += fmt.Sprint(l[:cap(l)])
	}
	return s
}

// fill a list to the end of its room.
func fill[T any](l []T, v T) {
	l = l[:cap(l)]
	for i := range l {
		l[i] = v
	}
}

// Z2: what is handed in stays as it was, and what stands behind it is neither read nor written; the answer is the same each time.
func TestLeaveAlone(t *testing.T) {
	r := rand.New(rand.NewSource(24))
	for range 300 {
		x := drawnTape(r, 2)
		from := r.Intn(len(x.Ticks) + 1)
		wantStart, e1 := Carry(x.Start)
		wantReel, wantTick, e2 := Translate(x, from)
		y := roomy(x)
		was := whole(y)
		for range 2 {
			if got, err := Carry(y.Start); err != e1 || !sameNewer(got, wantStart) {
				t.Fatalf("Carry of %v: %v, %v; want %v, %v", y.Start, got, err, wantStart, e1)
			}
			if got, tick, err := Translate(y, from); err != e2 || tick != wantTick || !sameReel(got, wantReel) {
				t.Fatalf("Translate of %v from %d on: %v, %d, %v; want %v, %d, %v", y, from, got, tick, err, wantReel, wantTick, e2)
			}
		}
		if now := whole(y); now != was {
			t.Fatalf("now %s; was %s", now, was)
		}
	}
}

// Z2: what comes out is the caller's: it shares memory neither with what went in, nor with what comes out of another call.
func TestFresh(t *testing.T) {
	x := session()
	wantStart, _ := Carry(session().Start)
	wantReel, _, _ := Translate(session(), 1)
	start, _ := Carry(x.Start)
	reel, _, _ := Translate(x, 1)
	other, _ := Carry(x.Start)
	otherReel, _, _ := Translate(x, 1)
	fill(other.Units, api.Unit{ID: -5})
	fill(otherReel.Start.Units, api.Unit{ID: -5})
	for _, l := range otherReel.Ticks {
		fill(l, api.Order{ID: -5})
	}
	fill(otherReel.Ticks, nil)
	if fmt.Sprint(x) != fmt.Sprint(session()) {
		t.Errorf("the tape is now %v", x)
	}
	fill(x.Start.Ents, api.Ent{ID: -5})
	for _, l := range x.Ticks {
		fill(l, api.Cmd{ID: -5})
	}
	fill(x.Ticks, nil)
	if !sameNewer(start, wantStart) || !sameReel(reel, wantReel) {
		t.Errorf("now %v, %v; want %v, %v", start, reel, wantStart, wantReel)
	}
}

// Z2: no two lists that come out share memory.
func TestListsAreApart(t *testing.T) {
	x := session()
	want, _, _ := Translate(x, 0)
	for i := range want.Ticks {
		got, _, _ := Translate(x, 0)
		fill(got.Ticks[i], api.Order{ID: -5})
		for j := range want.Ticks {
			if j != i && !slices.Equal(got.Ticks[j], want.Ticks[j]) {
				t.Errorf("tick %d was written into; now tick %d: %v", i, j, got.Ticks[j])
			}
		}
	}
}
