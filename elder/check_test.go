package elder

import (
	"math"
	"testing"

	"ferryman/api"
)

// camp: of each kind one, of each doing one; IDs 2 and 6 are free.
func camp() api.Elder {
	return api.Elder{
		Tick: 7, Gold: [2]int{3, 40}, Next: 9, Free: []int{6, 2},
		Ents: []api.Ent{
			{ID: 1, Owner: 0, Kind: api.Worker, X: 0, Y: 0, HP: 5, Does: api.Mines, Target: 4},
			{ID: 3, Owner: 1, Kind: api.Soldier, X: 11, Y: 11, HP: 8, Does: api.Fights, Target: 5},
			{ID: 4, Owner: api.Nobody, Kind: api.Mine, X: 5, Y: 5, HP: 100},
			{ID: 5, Owner: 0, Kind: api.Tower, X: 6, Y: 5, HP: 20},
			{ID: 7, Owner: 1, Kind: api.Mule, X: 5, Y: 6, HP: 6, Does: api.Going, GX: 11, GY: 0},
			{ID: 8, Owner: 1, Kind: api.Worker, X: 0, Y: 11, HP: 1, Does: api.Going, GX: 0, GY: 11},
		},
	}
}

// full: as many as may be, with the IDs behind first.
func full(first int) api.Elder {
	s := api.Elder{Next: first + api.MaxEnts}
	for id := 1; id < first; id++ {
		s.Free = append(s.Free, id)
	}
	for i := range api.MaxEnts {
		s.Ents = append(s.Ents, api.Ent{ID: first + i, Kind: api.Worker, X: i % 10, Y: i / 10, HP: 5})
	}
	return s
}

func allFree() api.Elder {
	s := api.Elder{Next: api.MaxID + 1}
	for id := api.MaxID; id > 0; id-- {
		s.Free = append(s.Free, id)
	}
	return s
}

// C1: states that are right, up to the bounds.
func TestCheckRight(t *testing.T) {
	for name, s := range map[string]api.Elder{
		"nobody":          {Next: 1},
		"camp":            camp(),
		"as many as may":  full(1),
		"the last IDs":    full(api.MaxID + 1 - api.MaxEnts),
		"all IDs free":    allFree(),
		"last tick":       {Tick: api.MaxTicks, Next: 1},
		"most gold":       {Gold: [2]int{api.MaxGold, api.MaxGold}, Next: 1},
		"free, no matter": {Next: 4, Free: []int{2, 3, 1}},
	} {
		if err := Check(s); err != nil {
			t.Errorf("%s: %v; want none", name, err)
		}
	}
}

type broken struct {
	name string
	edit func(s *api.Elder)
	want error
}

func testBroken(t *testing.T, l []broken) {
	t.Helper()
	for _, c := range l {
		s := camp()
		c.edit(&s)
		if got := Check(s); got != c.want {
			t.Errorf("%s: %v; want %v", c.name, got, c.want)
		}
	}
}

// C1: what is said of the state as a whole.
func TestCheckState(t *testing.T) {
	testBroken(t, []broken{
		{"tick below 0", func(s *api.Elder) { s.Tick = -1 }, api.ErrBound},
		{"tick above", func(s *api.Elder) { s.Tick = 61 }, api.ErrBound},
		{"next 0", func(s *api.Elder) { s.Next = 0 }, api.ErrBound},
		{"next below 0", func(s *api.Elder) { s.Next = math.MinInt }, api.ErrBound},
		{"next above", func(s *api.Elder) { s.Next = 202 }, api.ErrBound},
		{"first gold below 0", func(s *api.Elder) { s.Gold[0] = -1 }, api.ErrBound},
		{"second gold below 0", func(s *api.Elder) { s.Gold[1] = -1 }, api.ErrBound},
		{"first gold above", func(s *api.Elder) { s.Gold[0] = 41 }, api.ErrBound},
		{"second gold above", func(s *api.Elder) { s.Gold[1] = math.MaxInt }, api.ErrBound},
		{"too many ents", func(s *api.Elder) { s.Ents = make([]api.Ent, 21) }, api.ErrMany},
		{"ents not too many, but wrong", func(s *api.Elder) { s.Ents = make([]api.Ent, 20) }, api.ErrBound},
		{"too many free", func(s *api.Elder) { s.Free = make([]int, 201) }, api.ErrMany},
		{"free not too many, but wrong", func(s *api.Elder) { s.Free = make([]int, 200) }, api.ErrShape},
		{"bound ahead of many", func(s *api.Elder) { s.Gold[1], s.Ents = 41, make([]api.Ent, 21) }, api.ErrBound},
		{"many ahead of an ent's bound", func(s *api.Elder) { s.Ents[0].HP, s.Free = 0, make([]int, 201) }, api.ErrMany},
	})
}

// C1: ErrBound of each.
func TestCheckBound(t *testing.T) {
	var l []broken
	add := func(name string, i int, field func(e *api.Ent) *int, values ...int) {
		for _, v := range append(values, math.MinInt, math.MaxInt) {
			l = append(l, broken{name, func(s *api.Elder) { *field(&s.Ents[i]) = v }, api.ErrBound})
		}
	}
	for i := range camp().Ents {
		add("kind", i, func(e *api.Ent) *int { return &e.Kind }, 0, -1, 6)
		add("ID", i, func(e *api.Ent) *int { return &e.ID }, 0, -1, 201)
		add("x", i, func(e *api.Ent) *int { return &e.X }, -1, 12)
		add("y", i, func(e *api.Ent) *int { return &e.Y }, -1, 12)
		add("HP", i, func(e *api.Ent) *int { return &e.HP }, 0, -1, []int{6, 9, 101, 21, 7, 6}[i])
		add("does", i, func(e *api.Ent) *int { return &e.Does }, -1, 4)
		add("target", i, func(e *api.Ent) *int { return &e.Target }, -1, 201)
	}
	testBroken(t, l)
}

// C1: ErrShape of each by itself.
func TestCheckShape(t *testing.T) {
	going := func(x, y int) func(s *api.Elder) {
		return func(s *api.Elder) { s.Ents[4].GX, s.Ents[4].GY = x, y }
	}
	l := []broken{
		{"soldier of nobody", func(s *api.Elder) { s.Ents[1].Owner = api.Nobody }, api.ErrShape},
		{"mule of nobody", func(s *api.Elder) { s.Ents[4].Owner = api.Nobody }, api.ErrShape},
		{"mine of the first", func(s *api.Elder) { s.Ents[2].Owner = 0 }, api.ErrShape},
		{"mine of the second", func(s *api.Elder) { s.Ents[2].Owner = 1 }, api.ErrShape},
		{"a place of one that mines", func(s *api.Elder) { s.Ents[0].GX = 1 }, api.ErrShape},
		{"a place of one that fights", func(s *api.Elder) { s.Ents[1].GY = 1 }, api.ErrShape},
		{"a place of one that is idle", func(s *api.Elder) { s.Ents[3].GY = -1 }, api.ErrShape},
		{"a column of one that is idle", func(s *api.Elder) { s.Ents[3].GX = 3 }, api.ErrShape},
		{"going left of the board", going(-1, 0), api.ErrShape},
		{"going right of it", going(12, 0), api.ErrShape},
		{"going above it", going(0, -1), api.ErrShape},
		{"going below it", going(0, 12), api.ErrShape},
		{"a tower goes", func(s *api.Elder) { s.Ents[3].Does = api.Going }, api.ErrShape},
		{"a mine goes", func(s *api.Elder) { s.Ents[2].Does = api.Going }, api.ErrShape},
		{"a target of one that is idle", func(s *api.Elder) { s.Ents[3].Target = 3 }, api.ErrShape},
		{"a target of one that goes", func(s *api.Elder) { s.Ents[5].Target = 5 }, api.ErrShape},
		{"no target of one that mines", func(s *api.Elder) { s.Ents[0].Target = 0 }, api.ErrShape},
		{"no target of one that fights", func(s *api.Elder) { s.Ents[1].Target = 0 }, api.ErrShape},
	}
	for i := range camp().Ents {
		for _, owner := range []int{-1, 3, math.MinInt, math.MaxInt} {
			l = append(l, broken{"owner", func(s *api.Elder) { s.Ents[i].Owner = owner }, api.ErrShape})
		}
	}
	testBroken(t, l)
}

// C1: ErrShape of each beside others, of targets, and of Free.
func TestCheckTogether(t *testing.T) {
	testBroken(t, []broken{
		{"an ID twice", func(s *api.Elder) { s.Ents[4].ID = 5 }, api.ErrShape},
		{"IDs fall", func(s *api.Elder) {
			s.Ents[3], s.Ents[4] = s.Ents[4], s.Ents[3]
		}, api.ErrShape},
		{"an ID is Next", func(s *api.Elder) { s.Ents[5].ID, s.Free = 9, []int{2, 6, 8} }, api.ErrShape},
		{"an ID above Next", func(s *api.Elder) { s.Ents[5].ID, s.Free = 200, []int{2, 6, 8} }, api.ErrShape},
		{"two at a place", func(s *api.Elder) { s.Ents[5].X, s.Ents[5].Y = 0, 0 }, api.ErrShape},
		{"two next to each other at a place", func(s *api.Elder) { s.Ents[3].X = 5 }, api.ErrShape},
		{"a target is not there", func(s *api.Elder) { s.Ents[0].Target = 2 }, api.ErrShape},
		{"a target is Next", func(s *api.Elder) { s.Ents[0].Target = 9 }, api.ErrShape},
		{"itself as a target", func(s *api.Elder) { s.Ents[1].Target = 3 }, api.ErrShape},
		{"one is not free", func(s *api.Elder) { s.Free = []int{6} }, api.ErrShape},
		{"none is free", func(s *api.Elder) { s.Free = nil }, api.ErrShape},
		{"one is free twice", func(s *api.Elder) { s.Free = []int{6, 2, 2} }, api.ErrShape},
		{"one is free twice, another one not", func(s *api.Elder) { s.Free = []int{6, 6} }, api.ErrShape},
		{"who is there is free", func(s *api.Elder) { s.Free = []int{6, 2, 1} }, api.ErrShape},
		{"who is there is free, another one not", func(s *api.Elder) { s.Free = []int{6, 1} }, api.ErrShape},
		{"Next is free", func(s *api.Elder) { s.Free = []int{6, 2, 9} }, api.ErrShape},
		{"0 is free", func(s *api.Elder) { s.Free = []int{0, 6, 2} }, api.ErrShape},
		{"0 is free for another one", func(s *api.Elder) { s.Free = []int{6, 0} }, api.ErrShape},
		{"one below 0 is free", func(s *api.Elder) { s.Free = []int{6, 2, -1} }, api.ErrShape},
		{"Next skips one", func(s *api.Elder) { s.Next = 10 }, api.ErrShape},
	})
	for _, s := range []api.Elder{
		{Next: 3, Ents: []api.Ent{{ID: 2, Kind: api.Worker, HP: 5}}},
		{Next: 2},
		{Next: 2, Free: []int{0}},
		{Next: 2, Free: []int{2}},
		{Next: 1, Free: []int{1}},
	} {
		if got := Check(s); got != api.ErrShape {
			t.Errorf("%v: %v; want %v", s, got, api.ErrShape)
		}
	}
}

// C1, Z3: the first one's error is told, and of one the first that is named.
func TestCheckOrder(t *testing.T) {
	testBroken(t, []broken{
		{"bound, shape of one", func(s *api.Elder) { s.Ents[1].Owner, s.Ents[1].Target = 7, 201 }, api.ErrBound},
		{"bound, ID of one", func(s *api.Elder) { s.Ents[1].ID, s.Ents[1].HP = 1, 0 }, api.ErrBound},
		{"bound, then shape", func(s *api.Elder) { s.Ents[1].HP, s.Ents[2].Owner = 0, 0 }, api.ErrBound},
		{"shape, then bound", func(s *api.Elder) { s.Ents[1].Owner, s.Ents[2].HP = 2, 0 }, api.ErrShape},
		{"ID again, then bound", func(s *api.Elder) { s.Ents[1].ID, s.Ents[2].HP = 1, 0 }, api.ErrShape},
		{"place again, then bound", func(s *api.Elder) { s.Ents[3].X, s.Ents[5].Does = 5, 4 }, api.ErrShape},
		{"ID is Next, then bound", func(s *api.Elder) { s.Ents[1].ID, s.Ents[5].Y = 9, 12 }, api.ErrShape},
		{"ID is Next, then bound of the last one", func(s *api.Elder) {
			s.Ents[4].ID, s.Ents[5].ID, s.Ents[5].HP = 9, 10, 0
		}, api.ErrShape},
		{"bound behind a wrong target", func(s *api.Elder) { s.Ents[0].Target, s.Ents[5].HP = 2, 0 }, api.ErrBound},
		{"bound ahead of wrong Free", func(s *api.Elder) { s.Free, s.Ents[5].HP = nil, 0 }, api.ErrBound},
	})
}

// kinds, and of which kinds one may mine, or fight.
var (
	kinds    = []int{api.Worker, api.Soldier, api.Tower, api.Mine, api.Mule}
	miners   = map[int]bool{api.Worker: true, api.Mule: true}
	fighters = map[int]bool{api.Worker: true, api.Soldier: true, api.Tower: true}
	hps      = map[int]int{api.Worker: 5, api.Soldier: 8, api.Tower: 20, api.Mine: 100, api.Mule: 6}
)

// pair of which the first one would do something to the second one.
func pair(kind, other int, ally bool) api.Elder {
	s := api.Elder{Next: 3, Ents: []api.Ent{
		{ID: 1, Owner: 0, Kind: kind, X: 0, Y: 0, HP: 1},
		{ID: 2, Owner: 1, Kind: other, X: 9, Y: 0, HP: 1},
	}}
	if ally {
		s.Ents[1].Owner = 0
	}
	for i := range s.Ents {
		if s.Ents[i].Kind == api.Mine {
			s.Ents[i].Owner = api.Nobody
		}
	}
	return s
}

// pairs: each pair, with whether the first one may do that to the second one.
func pairs(visit func(s api.Elder, does int, may bool)) {
	for _, kind := range kinds {
		for _, other := range kinds {
			for _, ally := range []bool{false, true} {
				s := pair(kind, other, ally)
				foe := other != api.Mine && !ally
				visit(s, api.Fights, fighters[kind] && foe)
				visit(s, api.Mines, miners[kind] && other == api.Mine)
			}
		}
	}
}

// C2, asked by C1.
func TestCheckMay(t *testing.T) {
	pairs(func(s api.Elder, does int, may bool) {
		s.Ents[0].Does, s.Ents[0].Target = does, 2
		want := error(api.ErrShape)
		if may {
			want = nil
		}
		if got := Check(s); got != want {
			t.Errorf("%v: %v; want %v", s, got, want)
		}
	})
}

// C2, asked by a command of C3: of the side of who is told, whoever that is.
func TestStepMay(t *testing.T) {
	ops := map[int]int{api.Fights: api.CmdAttack, api.Mines: api.CmdMine}
	pairs(func(s api.Elder, does int, may bool) {
		e := s.Ents[0]
		got, _, err := Step(s, []api.Cmd{{Player: e.Owner, Op: ops[does], ID: 1, Target: 2}})
		want := api.Ent{}
		if may {
			want = api.Ent{Does: does, Target: 2}
		}
		g := got.Ents[0]
		if err != nil || g.Does != want.Does || g.Target != want.Target {
			t.Errorf("%v, %d: %v, %v; want it to do %d to %d", s, does, g, err, want.Does, want.Target)
		}
	})
}
