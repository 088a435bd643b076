package ferry

import (
	"math/rand"
	"testing"

	"ferryman/api"
	"ferryman/elder"
)

// beside a field two more, with the IDs 9 and 10: one of that kind, and a worker near it. A mule then has the ID behind all, and who comes next the one behind that.
func beside(kind int, more ...api.Ent) api.Elder {
	return field(append([]api.Ent{one(9, 0, kind, 1, 8), one(10, 0, api.Worker, 1, 9)}, more...)...)
}

// W1, C3: who was there is Idle where it went to, who comes is not: so one who comes, and is told to go to where it is, must come in the newer game, too.
func TestGoneWhileOneComes(t *testing.T) {
	for _, kind := range []int{api.Worker, api.Soldier} {
		s := beside(kind)
		rest := idle(beside(kind), 7)
		foe := beside(kind, one(11, 1, api.Soldier, 0, 11))
		comes, goes := build(0, 10, kind, 0, 9), move(0, 9, 2, 8)
		for _, c := range []struct {
			name string
			s    api.Elder
			l    []api.Cmd
			ok   bool
		}{
			{"to where it is, and an order is wanting", s, mule(s, comes, move(0, 12, 0, 9), goes, empty()), false},
			{"to where it is, and there are orders enough", rest, mule(rest, comes, move(0, 12, 0, 9), goes, mine(0, 7, 5)), true},
			{"to where it is, and then to stop", s, mule(s, comes, move(0, 12, 0, 9), stop(0, 12), empty()), true},
			{"to where another one would be on its way", s, mule(s, comes, move(0, 12, 0, 11), goes, empty()), true},
			{"to where nobody else would be on its way", s, mule(s, comes, move(0, 12, 11, 0), goes, empty()), false},
			{"nothing", s, mule(s, comes, empty(), goes, empty()), true},
			{"to fight, as another one might that is too far away for a blow", foe, mule(foe, comes, attack(0, 13, 11), goes, empty()), kind == api.Worker},
		} {
			x := tape(c.s, c.l, cmds(move(0, 9, 5, 8), move(0, 11, 4, 11), move(0, 12, 4, 11), move(0, 13, 4, 10)), nil, nil)
			if end, err := elder.Play(x, 1); err != nil || !muleCame(x, 0) || !fitting(end) {
				t.Fatalf("%s: no mule comes, or it is not gone: %v, %v", c.name, end, err)
			}
			if c.ok {
				playedFromEach(t, c.name, x)
				continue
			}
			refused(t, c.name, x, 0, 1, api.ErrCompat)
			played(t, c.name, x, 1)
		}
	}
}

// W1: the one who could take the place digs up the last of a mine; it takes an order more to have it stop.
func TestGoneWhileADiggerGoes(t *testing.T) {
	s := crowd([2]int{12, 0},
		aims(one(1, 0, api.Worker, 3, 5), api.Mines, 8), one(2, 0, api.Worker, 2, 4),
		aims(one(3, 0, api.Worker, 5, 4), api.Mines, 8), aims(one(4, 0, api.Worker, 6, 5), api.Mines, 8),
		one(5, 1, api.Soldier, 0, 1), one(6, 1, api.Soldier, 1, 1), one(7, 1, api.Soldier, 2, 1), hurt(one(8, 2, api.Mine, 5, 5), 1))
	l := cmds(build(0, 2, api.Mule, 1, 3), attack(1, 5, 9), attack(1, 6, 9), attack(1, 7, 9), build(0, 2, api.Worker, 2, 5), move(0, 10, 2, 5), empty())
	refused(t, "seven orders", tape(s, l), 0, 1, api.ErrCompat)
	behind := cmds(move(0, 10, 2, 9), move(0, 1, 7, 5), build(0, 3, api.Worker, 5, 5))
	playedFromEach(t, "eight orders", tape(s, append(l, empty()), behind, nil))
	l[5] = move(0, 10, 0, 5)
	playedFromEach(t, "seven orders, and it goes on", tape(s, l, behind, nil))
}

// drawnComes: a tick in which a mule comes, and is gone, beside a mine that is nearly dug up, and another one comes that stays, and is most often told something; false: it did not come out so.
func drawnComes(r *rand.Rand) (api.Elder, []api.Cmd, bool) {
	s := crowd([2]int{12 + r.Intn(9), 9}, hurt(one(1, api.Nobody, api.Mine, 5, 5), 1),
		one(2, 0, api.Worker, 2, 4), one(3, 1, api.Soldier, 0, 1), one(4, 1, api.Soldier, 1, 1), one(5, 1, api.Soldier, 2, 1))
	for range 4 + r.Intn(4) {
		if at := (place{3 + r.Intn(5), 3 + r.Intn(5)}); standing(s.Ents, at) < 0 {
			s.Ents = append(s.Ents, one(s.Next, 0, 1+r.Intn(8)/7, at.x, at.y))
			s.Next++
		}
	}
	s = busy(r, s, 6)
	gone, stays := s.Next, s.Next+1
	by := s.Ents[1+r.Intn(len(s.Ents)-1)]
	x, y := max(0, by.X+r.Intn(3)-1), max(0, by.Y+r.Intn(3)-1)
	l := cmds(build(0, 2, api.Mule, 1, 3), attack(1, 3, gone), attack(1, 4, gone), attack(1, 5, gone), build(by.Owner, by.ID, 1+r.Intn(8)/7, x, y))
	here := move(0, stays, x, y)
	l = append(l, []api.Cmd{here, here, move(0, stays, r.Intn(9), r.Intn(9)), attack(0, stays, 3+r.Intn(3)), mine(0, stays, 1), {}}[r.Intn(6)])
	for len(l) < 8 && r.Intn(3) > 0 {
		e := s.Ents[r.Intn(len(s.Ents))]
		l = append(l, []api.Cmd{{}, mine(e.Owner, e.ID, 1), move(e.Owner, e.ID, r.Intn(9), r.Intn(9))}[r.Intn(3)])
	}
	mid, err := elder.Moved(s, l)
	end, _, _ := elder.Step(s, l)
	return s, l, err == nil && fitting(end) && find(mid.Ents, gone).Kind == api.Mule && index(end.Ents, stays) >= 0
}

// atGoal: is one of them Going to where it is?
func atGoal(l []api.Ent) int {
	for _, e := range l {
		if e.Does == api.Going && spot(e) == (place{e.GX, e.GY}) {
			return 1
		}
	}
	return 0
}

// G2, W1: of what is drawn so, whatever is carried over is played the same.
func TestGoneWhileOneComesDrawn(t *testing.T) {
	r := rand.New(rand.NewSource(29))
	carried, stood, not := 0, 0, 0
	for carried < 200 {
		s, l, ok := drawnComes(r)
		if !ok {
			continue
		}
		x := tape(s, l, nil)
		end, _ := elder.Play(x, 1)
		switch _, tick, err := Translate(x, 0); {
		case err == nil:
			carried++
			stood += atGoal(end.Ents)
			played(t, "drawn", x, 0)
		case err == api.ErrCompat && tick == 1:
			not++
		case err != api.ErrCompat || tick != 2:
			t.Fatalf("%v: %d, %v", x, tick, err)
		}
	}
	if stood < 30 || not < 200 {
		t.Errorf("too little came about: %d, %d", stood, not)
	}
}
