package ferry

import (
	"math"
	"math/rand"
	"slices"
	"testing"

	"ferryman/api"
	"ferryman/elder"
	"ferryman/newer"
	"ferryman/snap"
	"ferryman/view"
)

func one(id, owner, kind, x, y int) api.Ent {
	return api.Ent{ID: id, Owner: owner, Kind: kind, X: x, Y: y, HP: []int{0, 5, 8, 20, 50, 6}[kind]}
}

func hurt(e api.Ent, hp int) api.Ent {
	e.HP = hp
	return e
}

func aims(e api.Ent, does, target int) api.Ent {
	e.Does, e.Target = does, target
	return e
}

// from: a state that is right, with just these, and IDs free between them, of which the greatest is taken first.
func from(gold int, l ...api.Ent) api.Elder {
	s := api.Elder{Gold: [2]int{gold, gold}, Next: 1, Ents: l}
	for _, e := range l {
		for ; s.Next < e.ID; s.Next++ {
			s.Free = append(s.Free, s.Next)
		}
		s.Next++
	}
	return s
}

func move(player, id, x, y int) api.Cmd {
	return api.Cmd{Player: player, Op: api.CmdMove, ID: id, X: x, Y: y}
}

func attack(player, id, target int) api.Cmd {
	return api.Cmd{Player: player, Op: api.CmdAttack, ID: id, Target: target}
}

func mine(player, id, target int) api.Cmd {
	return api.Cmd{Player: player, Op: api.CmdMine, ID: id, Target: target}
}

func build(player, id, kind, x, y int) api.Cmd {
	return api.Cmd{Player: player, Op: api.CmdBuild, ID: id, Kind: kind, X: x, Y: y}
}

func stop(player, id int) api.Cmd {
	return api.Cmd{Player: player, Op: api.CmdStop, ID: id}
}

// tape of a start and its ticks.
func tape(s api.Elder, ticks ...[]api.Cmd) api.Tape {
	return api.Tape{Start: s, Ticks: ticks}
}

func cmds(l ...api.Cmd) []api.Cmd {
	return l
}

// session: the document's example, as far as its last line 'tick'.
func session() api.Tape {
	return tape(
		api.Elder{Gold: [2]int{12, 0}, Next: 5, Ents: []api.Ent{
			one(1, 0, api.Worker, 3, 3),
			hurt(one(2, 2, api.Mine, 6, 3), 9),
			one(3, 1, api.Soldier, 8, 5),
			one(4, 0, api.Soldier, 2, 2),
		}},
		cmds(mine(0, 1, 2), move(1, 3, 6, 5), build(0, 1, api.Worker, 3, 4)),
		cmds(attack(1, 3, 1), attack(0, 4, 3)),
		nil, cmds(), nil, nil,
		cmds(build(0, 5, api.Tower, 4, 4)),
		cmds(build(0, 4, api.Tower, 9, 9)),
	)
}

func sameNewer(a, b api.Newer) bool {
	return a.Tick == b.Tick && a.Gold == b.Gold && a.Next == b.Next && slices.Equal(a.Units, b.Units)
}

func sameReel(a, b api.Reel) bool {
	return sameNewer(a.Start, b.Start) && slices.EqualFunc(a.Ticks, b.Ticks, slices.Equal[[]api.Order])
}

// elderView, newerView: of states that must be right.
func elderView(t *testing.T, s api.Elder, err error) api.View {
	t.Helper()
	v, wrong := view.Elder(s)
	if err != nil || wrong != nil {
		t.Fatalf("%v: %v, %v", s, err, wrong)
	}
	return v
}

func newerView(t *testing.T, s api.Newer, err error) api.View {
	t.Helper()
	v, wrong := view.Newer(s)
	if err != nil || wrong != nil {
		t.Fatalf("%v: %v, %v", s, err, wrong)
	}
	return v
}

// played: G2, W1, W2 of a tape that is carried over from there on.
func played(t *testing.T, name string, x api.Tape, from int) {
	t.Helper()
	reel, tick, err := Translate(x, from)
	if err != nil || tick != 0 {
		t.Fatalf("%s: %v from %d on: %d, %v", name, x, from, tick, err)
	}
	s, _ := elder.Play(x, from)
	if start, err := Carry(s); err != nil || !sameNewer(reel.Start, start) {
		t.Fatalf("%s: %v from %d on: it starts with %v; want %v, %v", name, x, from, reel.Start, start, err)
	}
	if err := snap.CheckReel(reel); err != nil || len(reel.Ticks) != len(x.Ticks)-from {
		t.Fatalf("%s: %v from %d on: %v: %v", name, x, from, reel, err)
	}
	for k, l := range reel.Ticks {
		if len(l) != len(x.Ticks[from+k]) {
			t.Fatalf("%s: %v from %d on: in tick %d there are the orders %v", name, x, from, k, l)
		}
	}
	for k := range len(reel.Ticks) + 1 {
		b, err := newer.Play(reel, k)
		c, wrong := Carry(s)
		v, w, u := elderView(t, s, nil), newerView(t, b, err), newerView(t, c, wrong)
		if !view.Same(v, w) || !view.Same(w, u) {
			t.Fatalf("%s: %v from %d on: behind %d more:\nthe elder game %v\nthe newer game %v\n  carried then %v\nby %v", name, x, from, k, v, w, u, reel)
		}
		if k < len(reel.Ticks) {
			s, _, _ = elder.Step(s, x.Ticks[from+k])
		}
	}
	if end, err := elder.Play(x, len(x.Ticks)); !view.Same(elderView(t, end, err), elderView(t, s, nil)) {
		t.Fatalf("%s: %v ends with %v; want %v", name, x, s, end)
	}
}

// playedFromEach of its ticks on.
func playedFromEach(t *testing.T, name string, x api.Tape) {
	t.Helper()
	for from := range len(x.Ticks) + 1 {
		played(t, name, x, from)
	}
}

// refused: an error, and nothing beside it but the tick.
func refused(t *testing.T, name string, x api.Tape, from, wantTick int, want error) {
	t.Helper()
	reel, tick, err := Translate(x, from)
	if err != want || tick != wantTick || !sameReel(reel, api.Reel{}) {
		t.Errorf("%s, from %d on: %v, %d, %v; want %v and the tick %d alone", name, from, reel, tick, err, want, wantTick)
	}
}

// drawn: a state that is right, close together, with one doing or another; of the kinds up to most, and mines.
func drawn(r *rand.Rand, most int) api.Elder {
	s := api.Elder{Tick: r.Intn(4), Gold: [2]int{r.Intn(38), r.Intn(38)}, Next: 1}
	if r.Intn(8) == 0 {
		s.Tick = 50
	}
	for _, p := range r.Perm(36)[:r.Intn(21)] {
		for ; r.Intn(5) > 3 && s.Next < 170; s.Next++ {
			s.Free = append(s.Free, s.Next)
		}
		e := one(s.Next, r.Intn(2), 1+r.Intn(most), p%6, p/6)
		if e.Kind == api.Mine || r.Intn(4) == 0 {
			e = one(s.Next, api.Nobody, api.Mine, p%6, p/6)
		}
		e.HP = 1 + r.Intn(min(e.HP, 6))
		s.Ents = append(s.Ents, e)
		s.Next++
	}
	r.Shuffle(len(s.Free), func(i, j int) { s.Free[i], s.Free[j] = s.Free[j], s.Free[i] })
	for i := range s.Ents {
		was := s.Ents[i]
		e := &s.Ents[i]
		e.Does = r.Intn(4)
		if e.Does == api.Going {
			e.GX, e.GY = r.Intn(12), r.Intn(12)
		} else if e.Does != api.Idle {
			e.Target = s.Ents[r.Intn(len(s.Ents))].ID
		}
		if elder.Check(s) != nil {
			*e = was
		}
	}
	return s
}

// drawnID: of one who is there, of who comes next, or any.
func drawnID(r *rand.Rand, s api.Elder) int {
	switch k := r.Intn(12); {
	case k == 0:
		return r.Intn(30)
	case k < 3 && len(s.Free) > 0:
		return s.Free[max(0, len(s.Free)-1-r.Intn(3))]
	case k < 3 || len(s.Ents) == 0:
		return s.Next + r.Intn(2)
	}
	return s.Ents[r.Intn(len(s.Ents))].ID
}

func drawnCmds(r *rand.Rand, s api.Elder, most int) []api.Cmd {
	l := make([]api.Cmd, r.Intn(api.MaxCmds+1))
	for i := range l {
		c := api.Cmd{Player: r.Intn(2), Op: 1 + r.Intn(5), ID: drawnID(r, s), Target: drawnID(r, s), X: r.Intn(8), Y: r.Intn(8)}
		for _, e := range s.Ents {
			if e.ID == c.ID {
				c.Player = e.Owner
				if e.Kind == api.Worker && r.Intn(3) == 0 {
					c.Op = api.CmdBuild
				}
				if c.Op == api.CmdBuild {
					c.Kind, c.X, c.Y = 1+r.Intn(most), max(0, e.X+r.Intn(3)-1), max(0, e.Y+r.Intn(3)-1)
				}
			}
		}
		if r.Intn(30) == 0 {
			c = api.Cmd{Player: wild(r), Op: wild(r), ID: wild(r), Kind: wild(r), X: wild(r), Y: wild(r), Target: wild(r)}
		}
		l[i] = c
	}
	return l
}

// wild: a number of no use, most often, but none that makes a tape wrong.
func wild(r *rand.Rand) int {
	return []int{0, 1, 2, 3, 4, 6, 12, 61, 200, 201, 2000, 2001, math.MaxInt - 1, math.MaxInt}[r.Intn(14)]
}

// drawnTape: played as it is made. With most at 2 there are only kinds that fit.
func drawnTape(r *rand.Rand, most int) api.Tape {
	x := api.Tape{Start: drawn(r, most)}
	s := x.Start
	for range r.Intn(min(16, api.MaxTicks-s.Tick+1)) {
		l := drawnCmds(r, s, most)
		next, _, err := elder.Step(s, l)
		if err != nil {
			panic(err)
		}
		x.Ticks = append(x.Ticks, l)
		s = next
	}
	return x
}
