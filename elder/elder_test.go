package elder

import (
	"math"
	"math/rand"
	"slices"
	"testing"

	"ferryman/api"
)

// session: how the document's example begins.
func session() api.Tape {
	return api.Tape{
		Start: api.Elder{Gold: [2]int{12, 0}, Next: 5, Ents: []api.Ent{
			{ID: 1, Owner: 0, Kind: api.Worker, X: 3, Y: 3, HP: 5},
			{ID: 2, Owner: 2, Kind: api.Mine, X: 6, Y: 3, HP: 9},
			{ID: 3, Owner: 1, Kind: api.Soldier, X: 8, Y: 5, HP: 8},
			{ID: 4, Owner: 0, Kind: api.Soldier, X: 2, Y: 2, HP: 8},
		}},
		Ticks: [][]api.Cmd{
			{mine(0, 1, 2), move(1, 3, 6, 5), build(0, 1, api.Worker, 3, 4)},
			{attack(1, 3, 1), attack(0, 4, 3)},
			{}, {}, {}, nil,
			{build(0, 5, api.Tower, 4, 4)},
			{build(0, 4, api.Tower, 9, 9)},
		},
	}
}

// C4: the document's example, behind each tick that it shows.
func TestPlaySession(t *testing.T) {
	type row struct{ x, y, owner, kind, hp, does int }
	for n, want := range map[int][]row{
		0: {{3, 3, 0, 1, 5, 0}, {6, 3, 2, 4, 9, 0}, {8, 5, 1, 2, 8, 0}, {2, 2, 0, 2, 8, 0}},
		1: {{4, 3, 0, 1, 5, 3}, {6, 3, 2, 4, 9, 0}, {7, 5, 1, 2, 8, 1}, {2, 2, 0, 2, 8, 0}, {3, 4, 0, 1, 5, 0}},
		4: {{6, 3, 2, 4, 6, 0}, {6, 4, 1, 2, 4, 0}, {4, 4, 0, 2, 8, 2}, {3, 4, 0, 1, 5, 0}},
		6: {{6, 3, 2, 4, 6, 0}, {4, 4, 0, 2, 8, 0}, {3, 4, 0, 1, 5, 0}},
		7: {{6, 3, 2, 4, 6, 0}, {4, 4, 0, 2, 8, 0}, {3, 4, 0, 1, 5, 0}},
		8: {{6, 3, 2, 4, 6, 0}, {4, 4, 0, 2, 8, 0}, {3, 4, 0, 1, 5, 0}},
	} {
		s, err := Play(session(), n)
		var got []row
		for _, e := range s.Ents {
			got = append(got, row{e.X, e.Y, e.Owner, e.Kind, e.HP, e.Does})
		}
		gold := map[int]int{0: 12, 1: 7}[n]
		if n >= 4 {
			gold = 10
		}
		if err != nil || !slices.Equal(got, want) || s.Gold != [2]int{gold, 0} || s.Tick != n {
			t.Errorf("behind %d: %v, %v; want %v, gold %d", n, s, err, want, gold)
		}
	}
	end, err := Play(session(), 6)
	if err != nil || !slices.Equal(end.Free, []int{1, 3}) || end.Next != 6 {
		t.Errorf("free at the end: %v, next %d, %v; want [1 3], 6", end.Free, end.Next, err)
	}
}

// C4: step by step is the same.
func TestPlaySteps(t *testing.T) {
	tape := session()
	tape.Start.Tick = 50
	s := tape.Start
	for n := 0; n <= len(tape.Ticks); n++ {
		got, err := Play(tape, n)
		if err != nil || !same(got, s) {
			t.Fatalf("behind %d: %v, %v; want %v", n, got, err, s)
		}
		if n < len(tape.Ticks) {
			s, _, err = Step(s, tape.Ticks[n])
			if err != nil {
				t.Fatal(err)
			}
		}
	}
}

// C4: errors, and which one is told.
func TestPlayErrors(t *testing.T) {
	wrong := session()
	wrong.Start.Ents[0].Owner = 2
	long := session()
	long.Start.Tick = 57
	busy := session()
	busy.Ticks[4] = make([]api.Cmd, 9)
	last := api.Tape{Start: api.Elder{Tick: 60, Next: 1}, Ticks: [][]api.Cmd{nil}}
	for _, c := range []struct {
		name string
		t    api.Tape
		n    int
		want error
	}{
		{"fewer than none", session(), -1, api.ErrBound},
		{"far fewer", session(), math.MinInt, api.ErrBound},
		{"one too many", session(), 9, api.ErrBound},
		{"far too many", session(), math.MaxInt, api.ErrBound},
		{"no ticks", api.Tape{Start: api.Elder{Next: 1}}, 1, api.ErrBound},
		{"no ticks, none asked", api.Tape{Start: api.Elder{Next: 1}}, 0, nil},
		{"a wrong start", wrong, 0, api.ErrShape},
		{"a wrong start, played", wrong, 8, api.ErrShape},
		{"bound ahead of a wrong start", wrong, 9, api.ErrBound},
		{"a wrong start without a tick", api.Tape{}, 0, api.ErrBound},
		{"up to the last tick", long, 3, nil},
		{"beyond the last tick", long, 4, api.ErrMany},
		{"too many commands later on", busy, 4, nil},
		{"too many commands", busy, 5, api.ErrMany},
		{"too many commands ahead", busy, 8, api.ErrMany},
		{"at the last tick", last, 0, nil},
		{"behind the last tick", last, 1, api.ErrMany},
	} {
		got, err := Play(c.t, c.n)
		if err != c.want {
			t.Errorf("%s: %v; want %v", c.name, err, c.want)
		}
		if err != nil && !same(got, api.Elder{}) {
			t.Errorf("%s: %v beside an error", c.name, got)
		}
	}
}

// drawn: a state that is right, close together, with one doing or another.
func drawn(r *rand.Rand) api.Elder {
	s := api.Elder{Tick: r.Intn(3), Gold: [2]int{r.Intn(41), r.Intn(41)}, Next: 1}
	for _, p := range r.Perm(36)[:r.Intn(21)] {
		for ; r.Intn(5) == 0; s.Next++ {
			s.Free = append(s.Free, s.Next)
		}
		e := api.Ent{ID: s.Next, Owner: r.Intn(2), Kind: 1 + r.Intn(5), X: p % 6, Y: p / 6}
		if e.Kind == api.Mine {
			e.Owner = api.Nobody
		}
		e.HP = 1 + r.Intn(hps[e.Kind])
		s.Ents = append(s.Ents, e)
		s.Next++
	}
	r.Shuffle(len(s.Free), func(i, j int) { s.Free[i], s.Free[j] = s.Free[j], s.Free[i] })
	for i := range s.Ents {
		was := s.Ents[i]
		e := &s.Ents[i]
		e.Does = r.Intn(4)
		if e.Does == api.Going {
			e.GX, e.GY = r.Intn(12), r.Intn(12)
		} else if e.Does != api.Idle {
			e.Target = s.Ents[r.Intn(len(s.Ents))].ID
		}
		if Check(s) != nil {
			*e = was
		}
	}
	return s
}

func drawnCmds(r *rand.Rand, s api.Elder) []api.Cmd {
	l := make([]api.Cmd, r.Intn(9))
	for i := range l {
		c := api.Cmd{Player: r.Intn(2), Op: 1 + r.Intn(5), ID: r.Intn(30), Kind: 1 + r.Intn(5), X: r.Intn(8), Y: r.Intn(8), Target: r.Intn(30)}
		if len(s.Ents) > 0 && r.Intn(8) > 0 {
			e := s.Ents[r.Intn(len(s.Ents))]
			c.ID, c.Player, c.Target = e.ID, e.Owner, s.Ents[r.Intn(len(s.Ents))].ID
			if c.Op == api.CmdBuild {
				c.X, c.Y = e.X+r.Intn(3)-1, e.Y+r.Intn(3)-1
			}
		}
		if r.Intn(20) == 0 {
			c = api.Cmd{Player: wild(r), Op: wild(r), ID: wild(r), Kind: wild(r), X: wild(r), Y: wild(r), Target: wild(r)}
		}
		l[i] = c
	}
	return l
}

func wild(r *rand.Rand) int {
	return []int{-1, 0, 1, 2, 3, 4, 5, 6, 12, 200, 201, math.MinInt, math.MaxInt}[r.Intn(13)]
}

// W3, Z2: a state that is right stays so, and nothing that is handed in is changed.
func TestStaysRight(t *testing.T) {
	r := rand.New(rand.NewSource(3))
	for range 400 {
		s := drawn(r)
		if err := Check(s); err != nil {
			t.Fatalf("%v: %v", s, err)
		}
		for s.Tick < api.MaxTicks {
			l := drawnCmds(r, s)
			was, told := copied(s), slices.Clone(l)
			next, born, err := Step(s, l)
			if err != nil || next.Tick != s.Tick+1 {
				t.Fatalf("%v, %v: %v, %v", s, l, next, err)
			}
			if !same(s, was) || !slices.Equal(l, told) {
				t.Fatalf("handed in: %v, %v; now %v, %v", was, told, s, l)
			}
			if err := Check(next); err != nil {
				t.Fatalf("%v, %v: %v: %v", s, l, next, err)
			}
			again, too, _ := Step(s, l)
			if !same(next, again) || !slices.Equal(born, too) {
				t.Fatalf("%v, %v: %v, then %v", s, l, next, again)
			}
			s = next
		}
	}
}

// Z1: no call panics, whatever the state.
func TestWildStates(t *testing.T) {
	r := rand.New(rand.NewSource(4))
	for range 20000 {
		s := drawn(r)
		fields := []*int{&s.Tick, &s.Next, &s.Gold[0], &s.Gold[1]}
		for i := range s.Free {
			fields = append(fields, &s.Free[i])
		}
		for i := range s.Ents {
			e := &s.Ents[i]
			fields = append(fields, &e.ID, &e.Owner, &e.Kind, &e.X, &e.Y, &e.HP, &e.Does, &e.GX, &e.GY, &e.Target)
		}
		for range 1 + r.Intn(2) {
			*fields[r.Intn(len(fields))] = wild(r)
		}
		l := drawnCmds(r, s)
		want := Check(s)
		_, _, err := Step(s, l)
		_, played := Play(api.Tape{Start: s, Ticks: [][]api.Cmd{l}}, 1)
		if s.Tick == api.MaxTicks && want == nil {
			want = api.ErrMany
		}
		if err != want || played != want {
			t.Fatalf("%v: Step says %v, Play %v; want %v", s, err, played, want)
		}
	}
}

// behind: the same state, with room behind its lists that is not theirs.
func behind(s api.Elder) api.Elder {
	free := append(slices.Clone(s.Free), 77, 77, 77)
	ents := append(slices.Clone(s.Ents), api.Ent{ID: 77}, api.Ent{ID: 78}, api.Ent{ID: 79})
	s.Free, s.Ents = free[:len(s.Free)], ents[:len(s.Ents)]
	return s
}

func overwrite(s api.Elder) {
	for i := range s.Free[:cap(s.Free)] {
		s.Free[:cap(s.Free)][i] = -5
	}
	for i := range s.Ents[:cap(s.Ents)] {
		s.Ents[:cap(s.Ents)][i] = api.Ent{ID: -5}
	}
}

// Z2: what comes out is the caller's, and what stands behind a list is left alone.
func TestMemory(t *testing.T) {
	from := right(one(2, 0, api.Worker, 3, 3), one(4, 1, api.Worker, 9, 9))
	l := cmds(build(0, 2, 1, 3, 4), build(1, 4, 1, 9, 8), build(0, 2, 1, 3, 2), move(0, 2, 9, 9))
	want, _, _ := Step(from, l)
	s := behind(from)
	more := s.Free[:cap(s.Free)]
	tail := s.Ents[:cap(s.Ents)]
	got, born, err := Step(s, append(slices.Clone(l), move(1, 4, 0, 0))[:len(l)])
	if err != nil || !same(got, want) || !slices.Equal(born, []int{1, 3, 5}) {
		t.Fatalf("%v, %v, %v; want %v", got, born, err, want)
	}
	if more[len(s.Free)] != 77 || tail[len(s.Ents)].ID != 77 {
		t.Errorf("behind the lists: %v, %v", more, tail)
	}
	tape := api.Tape{Start: s, Ticks: [][]api.Cmd{l}}
	still, err := Play(tape, 0)
	if err != nil || !same(still, from) {
		t.Fatalf("%v, %v; want %v", still, err, from)
	}
	overwrite(still)
	first, _ := Play(tape, 1)
	overwrite(first)
	overwrite(s)
	for i := range born[:cap(born)] {
		born[:cap(born)][i] = -5
	}
	if !same(got, want) {
		t.Errorf("shared: %v; want %v", got, want)
	}
}

// Z2: Free and who came share no memory: not with each other, nor with what was handed in.
func TestMemoryOfPlay(t *testing.T) {
	tape := session()
	a, err := Play(tape, 6)
	if err != nil {
		t.Fatal(err)
	}
	want := copied(a)
	b, _ := Play(tape, 6)
	overwrite(b)
	if c, _ := Play(tape, 6); !same(a, want) || !same(c, want) {
		t.Errorf("%v, %v; want %v", a, c, want)
	}
	still, _ := Play(tape, 0)
	overwrite(still)
	if !same(tape.Start, session().Start) {
		t.Errorf("the start of the tape is now %v", tape.Start)
	}
}
