package newer

import (
	"math"
	"math/rand"
	"slices"
	"testing"

	"ferryman/api"
	"ferryman/elder"
)

// session: the document's example, in the newer game.
func session() api.Reel {
	return api.Reel{
		Start: api.Newer{Gold: [2]int{12, 0}, Next: 5, Units: []api.Unit{
			{ID: 1, Owner: 0, Kind: api.Worker, X: 3, Y: 3, HP: 5},
			{ID: 2, Owner: 2, Kind: api.Mine, X: 6, Y: 3, HP: 9},
			{ID: 3, Owner: 1, Kind: api.Soldier, X: 8, Y: 5, HP: 8},
			{ID: 4, Owner: 0, Kind: api.Soldier, X: 2, Y: 2, HP: 8},
		}},
		Ticks: [][]api.Order{
			{aim(0, 1, 2), walk(1, 3, 6, 5), raise(0, 1, api.Worker, 3, 4)},
			{aim(1, 3, 1), aim(0, 4, 3)},
			{}, {}, {}, nil,
			{raise(0, 5, api.Tower, 4, 4)},
			{raise(0, 4, api.Tower, 9, 9)},
		},
	}
}

// D3: the document's example looks the same in the newer game, behind each tick that it shows.
func TestPlaySession(t *testing.T) {
	type row struct{ x, y, owner, kind, hp, does int }
	for n, want := range map[int][]row{
		0: {{3, 3, 0, 1, 5, 0}, {6, 3, 2, 4, 9, 0}, {8, 5, 1, 2, 8, 0}, {2, 2, 0, 2, 8, 0}},
		1: {{4, 3, 0, 1, 5, 3}, {6, 3, 2, 4, 9, 0}, {7, 5, 1, 2, 8, 1}, {2, 2, 0, 2, 8, 0}, {3, 4, 0, 1, 5, 0}},
		4: {{6, 3, 2, 4, 6, 0}, {6, 4, 1, 2, 4, 0}, {4, 4, 0, 2, 8, 2}, {3, 4, 0, 1, 5, 0}},
		6: {{6, 3, 2, 4, 6, 0}, {4, 4, 0, 2, 8, 0}, {3, 4, 0, 1, 5, 0}},
		7: {{6, 3, 2, 4, 6, 0}, {4, 4, 0, 2, 8, 0}, {3, 4, 0, 1, 5, 0}},
		8: {{6, 3, 2, 4, 6, 0}, {4, 4, 0, 2, 8, 0}, {3, 4, 0, 1, 5, 0}},
	} {
		s, err := Play(session(), n)
		var got []row
		for _, u := range s.Units {
			got = append(got, row{u.X, u.Y, u.Owner, u.Kind, u.HP, u.Does})
		}
		gold := map[int]int{0: 12, 1: 7}[n]
		if n >= 4 {
			gold = 10
		}
		if err != nil || !slices.Equal(got, want) || s.Gold != [2]int{gold, 0} || s.Tick != n {
			t.Errorf("behind %d: %v, %v; want %v, gold %d", n, s, err, want, gold)
		}
	}
	if end, err := Play(session(), 6); err != nil || end.Next != 6 {
		t.Errorf("next at the end: %d, %v; want 6", end.Next, err)
	}
}

// D3: step by step is the same.
func TestPlaySteps(t *testing.T) {
	reel := session()
	reel.Start.Tick = 50
	s := reel.Start
	for n := 0; n <= len(reel.Ticks); n++ {
		got, err := Play(reel, n)
		if err != nil || !same(got, s) {
			t.Fatalf("behind %d: %v, %v; want %v", n, got, err, s)
		}
		if n < len(reel.Ticks) {
			s, err = Step(s, reel.Ticks[n])
			if err != nil {
				t.Fatal(err)
			}
		}
	}
}

// D3: errors, and which one is told.
func TestPlayErrors(t *testing.T) {
	wrong := session()
	wrong.Start.Units[0].Owner = 2
	early := session()
	early.Start.Units[0].Since = 1
	long := session()
	long.Start.Tick = 57
	busy := session()
	busy.Ticks[4] = make([]api.Order, 9)
	last := api.Reel{Start: api.Newer{Tick: 60, Next: 1}, Ticks: [][]api.Order{nil}}
	for _, c := range []struct {
		name string
		r    api.Reel
		n    int
		want error
	}{
		{"fewer than none", session(), -1, api.ErrBound},
		{"far fewer", session(), math.MinInt, api.ErrBound},
		{"one too many", session(), 9, api.ErrBound},
		{"far too many", session(), math.MaxInt, api.ErrBound},
		{"no ticks", api.Reel{Start: api.Newer{Next: 1}}, 1, api.ErrBound},
		{"no ticks, none asked", api.Reel{Start: api.Newer{Next: 1}}, 0, nil},
		{"a wrong start", wrong, 0, api.ErrShape},
		{"a wrong start, played", wrong, 8, api.ErrShape},
		{"one that is still to come", early, 8, api.ErrBound},
		{"bound ahead of a wrong start", wrong, 9, api.ErrBound},
		{"a wrong start without a tick", api.Reel{}, 0, api.ErrBound},
		{"up to the last tick", long, 3, nil},
		{"beyond the last tick", long, 4, api.ErrMany},
		{"too many orders later on", busy, 4, nil},
		{"too many orders", busy, 5, api.ErrMany},
		{"too many orders ahead", busy, 8, api.ErrMany},
		{"at the last tick", last, 0, nil},
		{"behind the last tick", last, 1, api.ErrMany},
	} {
		got, err := Play(c.r, c.n)
		if err != c.want {
			t.Errorf("%s: %v; want %v", c.name, err, c.want)
		}
		if err != nil && !same(got, api.Newer{}) {
			t.Errorf("%s: %v beside an error", c.name, got)
		}
	}
}

// drawn: a state that is right, close together, with one doing or another.
func drawn(r *rand.Rand) api.Newer {
	s := api.Newer{Tick: r.Intn(3), Gold: [2]int{r.Intn(41), 980 + r.Intn(21)}, Next: 1 + r.Intn(2)*1960}
	for _, p := range r.Perm(36)[:r.Intn(21)] {
		s.Next += r.Intn(6) / 5
		u := api.Unit{ID: s.Next, Owner: r.Intn(2), Kind: 1 + r.Intn(4), X: p % 6, Y: p / 6, Since: r.Intn(s.Tick + 1)}
		if u.Kind == api.Mine {
			u.Owner = api.Nobody
		}
		u.HP = 1 + r.Intn(hps[u.Kind])
		s.Units = append(s.Units, u)
		s.Next++
	}
	for i := range s.Units {
		was := s.Units[i]
		u := &s.Units[i]
		u.Does = r.Intn(4)
		if u.Does == api.Going {
			u.GX, u.GY = r.Intn(12), r.Intn(12)
		} else if u.Does != api.Idle {
			u.Target = s.Units[r.Intn(len(s.Units))].ID
		}
		if Check(s) != nil {
			*u = was
		}
	}
	return s
}

func drawnOrders(r *rand.Rand, s api.Newer) []api.Order {
	l := make([]api.Order, r.Intn(9))
	for i := range l {
		o := api.Order{Player: r.Intn(2), Verb: 1 + r.Intn(4), ID: r.Intn(30), Arg: r.Intn(30), X: r.Intn(8), Y: r.Intn(8)}
		if len(s.Units) > 0 && r.Intn(8) > 0 {
			u := s.Units[r.Intn(len(s.Units))]
			o.ID, o.Player, o.Arg = u.ID, u.Owner, s.Units[r.Intn(len(s.Units))].ID
			if o.Verb == api.Raise {
				o.Arg, o.X, o.Y = 1+r.Intn(5), u.X+r.Intn(3)-1, u.Y+r.Intn(3)-1
			}
		}
		if r.Intn(20) == 0 {
			o = api.Order{Player: wild(r), Verb: wild(r), ID: wild(r), Arg: wild(r), X: wild(r), Y: wild(r)}
		}
		l[i] = o
	}
	return l
}

func wild(r *rand.Rand) int {
	return []int{-1, 0, 1, 2, 3, 4, 5, 6, 12, 61, 1000, 1001, 2000, 2001, math.MinInt, math.MaxInt}[r.Intn(16)]
}

// W3, Z2: a state that is right stays so, no ID is taken again, and nothing that is handed in is changed.
func TestStaysRight(t *testing.T) {
	r := rand.New(rand.NewSource(5))
	for range 400 {
		s := drawn(r)
		if err := Check(s); err != nil {
			t.Fatalf("%v: %v", s, err)
		}
		for s.Tick < api.MaxTicks {
			l := drawnOrders(r, s)
			was, told := copied(s), slices.Clone(l)
			next, err := Step(s, l)
			if err != nil || next.Tick != s.Tick+1 || next.Next < s.Next {
				t.Fatalf("%v, %v: %v, %v", s, l, next, err)
			}
			if !same(s, was) || !slices.Equal(l, told) {
				t.Fatalf("handed in: %v, %v; now %v, %v", was, told, s, l)
			}
			if err := Check(next); err != nil {
				t.Fatalf("%v, %v: %v: %v", s, l, next, err)
			}
			if id := foreign(s, next); id > 0 {
				t.Fatalf("%v, %v: %v: who is %d?", s, l, next, id)
			}
			if again, _ := Step(s, l); !same(next, again) {
				t.Fatalf("%v, %v: %v, then %v", s, l, next, again)
			}
			s = next
		}
	}
}

// foreign: the ID of one that was not there in the tick ahead, and did not come in it with an ID that was new; 0: there is none.
func foreign(s, next api.Newer) int {
	for _, u := range next.Units {
		i := slices.IndexFunc(s.Units, func(o api.Unit) bool { return o.ID == u.ID })
		if i >= 0 && (s.Units[i].Since != u.Since || s.Units[i].Kind != u.Kind || s.Units[i].Owner != u.Owner) {
			return u.ID
		}
		if i < 0 && (u.ID < s.Next || u.Since != s.Tick) {
			return u.ID
		}
	}
	return 0
}

// Z1: no call panics, whatever the state.
func TestWildStates(t *testing.T) {
	r := rand.New(rand.NewSource(6))
	for range 20000 {
		s := drawn(r)
		fields := []*int{&s.Tick, &s.Next, &s.Gold[0], &s.Gold[1]}
		for i := range s.Units {
			u := &s.Units[i]
			fields = append(fields, &u.ID, &u.Owner, &u.Kind, &u.X, &u.Y, &u.HP, &u.Does, &u.GX, &u.GY, &u.Target, &u.Since)
		}
		for range 1 + r.Intn(2) {
			*fields[r.Intn(len(fields))] = wild(r)
		}
		l := drawnOrders(r, s)
		want := Check(s)
		_, err := Step(s, l)
		_, played := Play(api.Reel{Start: s, Ticks: [][]api.Order{l}}, 1)
		if s.Tick == api.MaxTicks && want == nil {
			want = api.ErrMany
		}
		if err != want || played != want {
			t.Fatalf("%v: Step says %v, Play %v; want %v", s, err, played, want)
		}
	}
}

// like: the same ones with the same IDs, as a state of the elder game; false: it isn't a right one there.
func like(s api.Newer) (api.Elder, bool) {
	e := api.Elder{Tick: s.Tick, Gold: s.Gold, Next: s.Next}
	for _, u := range s.Units {
		e.Ents = append(e.Ents, api.Ent{ID: u.ID, Owner: u.Owner, Kind: u.Kind, X: u.X, Y: u.Y, HP: u.HP,
			Does: u.Does, GX: u.GX, GY: u.GY, Target: u.Target})
	}
	return e, elder.Check(e) == nil
}

// likeOrders: the commands of the elder game that say the same.
func likeOrders(s api.Newer, l []api.Order) []api.Cmd {
	var out []api.Cmd
	for _, o := range l {
		c := api.Cmd{Player: o.Player, ID: o.ID, X: o.X, Y: o.Y}
		switch o.Verb {
		case api.Go:
			c.Op = api.CmdMove
		case api.Aim:
			c.Op, c.Target = api.CmdAttack, o.Arg
			if slices.ContainsFunc(s.Units, func(u api.Unit) bool { return u.ID == o.Arg && u.Kind == api.Mine }) {
				c.Op = api.CmdMine
			}
		case api.Raise:
			c.Op, c.Kind = api.CmdBuild, o.Arg
		case api.Halt:
			c.Op = api.CmdStop
		}
		out = append(out, c)
	}
	return out
}

// crowd: a state that both games have: no towers, little gold, and no gaps between the IDs, as nothing is free.
func crowd(r *rand.Rand) api.Newer {
	s := drawn(r)
	names := map[int]int{}
	s.Gold = [2]int{r.Intn(25), r.Intn(25)}
	for i := range s.Units {
		u := &s.Units[i]
		names[u.ID] = i + 1
		u.ID = i + 1
		if u.Kind == api.Tower {
			u.Kind, u.HP = api.Worker, 1+u.HP%5
		}
	}
	for i := range s.Units {
		s.Units[i].Target = names[s.Units[i].Target]
	}
	s.Next = len(s.Units) + 1
	return s
}

// D2: where neither towers, mules nor much gold are, a tick is the elder game's.
func TestTickLikeElder(t *testing.T) {
	r := rand.New(rand.NewSource(7))
	there := 0
	for range 20000 {
		s := crowd(r)
		e, ok := like(s)
		if !ok {
			t.Fatalf("%v is not of the elder game", s)
		}
		l := drawnOrders(r, s)
		l = slices.DeleteFunc(l, func(o api.Order) bool {
			return o.Verb == api.Raise && (o.Arg == api.Tower || o.Arg == api.Mule)
		})
		want, _, err := elder.Step(e, likeOrders(s, l))
		if err != nil {
			t.Fatal(err)
		}
		next, err := Step(s, l)
		got, _ := like(next)
		if err != nil || got.Tick != want.Tick || got.Gold != want.Gold || got.Next != want.Next || !slices.Equal(got.Ents, want.Ents) {
			t.Fatalf("%v, %v:\n got %v, %v\nwant %v", s, l, got, err, want)
		}
		there += len(next.Units)
	}
	if there < 10000 {
		t.Errorf("only %d were there in all", there)
	}
}

// behind: the same state, with room behind its list that is not its own.
func behind(s api.Newer) api.Newer {
	units := append(slices.Clone(s.Units), api.Unit{ID: 77}, api.Unit{ID: 78}, api.Unit{ID: 79})
	s.Units = units[:len(s.Units)]
	return s
}

func overwrite(s api.Newer) {
	for i := range s.Units[:cap(s.Units)] {
		s.Units[:cap(s.Units)][i] = api.Unit{ID: -5}
	}
}

// Z2: what comes out is the caller's, and what stands behind a list is left alone.
func TestMemory(t *testing.T) {
	from := right(one(2, 0, api.Worker, 3, 3), fights(one(4, 1, api.Worker, 9, 9), 6), hurt(one(6, 0, api.Soldier, 8, 8), 1))
	l := orders(raise(0, 2, 1, 3, 4), raise(1, 4, 1, 9, 8), raise(0, 2, 1, 3, 2), walk(0, 2, 9, 9))
	want, _ := Step(from, l)
	s := behind(from)
	tail := s.Units[:cap(s.Units)]
	got, err := Step(s, append(slices.Clone(l), walk(1, 4, 0, 0))[:len(l)])
	if err != nil || !same(got, want) {
		t.Fatalf("%v, %v; want %v", got, err, want)
	}
	if !same(s, from) || tail[len(s.Units)].ID != 77 || tail[len(s.Units)+1].ID != 78 {
		t.Errorf("handed in: %v, now %v", from, tail)
	}
	reel := api.Reel{Start: s, Ticks: [][]api.Order{l}}
	still, err := Play(reel, 0)
	if err != nil || !same(still, from) {
		t.Fatalf("%v, %v; want %v", still, err, from)
	}
	overwrite(still)
	first, _ := Play(reel, 1)
	if !same(first, want) {
		t.Errorf("%v; want %v", first, want)
	}
	overwrite(first)
	overwrite(s)
	if !same(got, want) {
		t.Errorf("shared: %v; want %v", got, want)
	}
}

// Z2: two plays of one reel share no memory, nor does one with the reel.
func TestMemoryOfPlay(t *testing.T) {
	reel := session()
	a, err := Play(reel, 6)
	if err != nil {
		t.Fatal(err)
	}
	want := copied(a)
	b, _ := Play(reel, 6)
	overwrite(b)
	if c, _ := Play(reel, 6); !same(a, want) || !same(c, want) {
		t.Errorf("%v, %v; want %v", a, c, want)
	}
	still, _ := Play(reel, 0)
	overwrite(still)
	if !same(reel.Start, session().Start) {
		t.Errorf("the start of the reel is now %v", reel.Start)
	}
}
