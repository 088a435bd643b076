package newer

import (
	"math"
	"testing"

	"ferryman/api"
)

// camp: of each kind one, of each doing one, with gaps between the IDs, and Since from 0 to Tick.
func camp() api.Newer {
	return api.Newer{
		Tick: 7, Gold: [2]int{3, 1000}, Next: 900,
		Units: []api.Unit{
			{ID: 1, Owner: 0, Kind: api.Worker, X: 0, Y: 0, HP: 5, Does: api.Mines, Target: 4},
			{ID: 3, Owner: 1, Kind: api.Soldier, X: 11, Y: 11, HP: 8, Does: api.Fights, Target: 5, Since: 7},
			{ID: 4, Owner: api.Nobody, Kind: api.Mine, X: 5, Y: 5, HP: 100, Since: 1},
			{ID: 5, Owner: 0, Kind: api.Tower, X: 6, Y: 5, HP: 20, Since: 6},
			{ID: 201, Owner: 1, Kind: api.Soldier, X: 5, Y: 6, HP: 6, Does: api.Going, GX: 11, GY: 0, Since: 3},
			{ID: 898, Owner: 1, Kind: api.Worker, X: 0, Y: 11, HP: 1, Does: api.Going, GX: 0, GY: 11, Since: 7},
		},
	}
}

// full: as many as may be, with the IDs from first on.
func full(first int) api.Newer {
	s := api.Newer{Next: first + api.MaxEnts}
	for i := range api.MaxEnts {
		s.Units = append(s.Units, api.Unit{ID: first + i, Kind: api.Worker, X: i % 10, Y: i / 10, HP: 5})
	}
	return s
}

// D1: states that are right, up to the bounds.
func TestCheckRight(t *testing.T) {
	far := camp()
	far.Next = 2001
	for name, s := range map[string]api.Newer{
		"nobody":                {Next: 1},
		"nobody is left":        {Next: 700},
		"no ID is left":         {Next: 2001},
		"camp":                  camp(),
		"far below Next":        far,
		"as many as may":        full(1),
		"the last IDs":          full(2001 - api.MaxEnts),
		"last tick":             {Tick: 60, Next: 1},
		"most gold":             {Gold: [2]int{1000, 1000}, Next: 1},
		"the last one a target": {Next: 2001, Units: []api.Unit{fights(one(1, 0, api.Tower, 0, 0), 2000), one(2000, 1, api.Worker, 9, 9)}},
	} {
		if err := Check(s); err != nil {
			t.Errorf("%s: %v; want none", name, err)
		}
	}
}

type broken struct {
	name string
	edit func(s *api.Newer)
	want error
}

func testBroken(t *testing.T, l []broken) {
	t.Helper()
	for _, c := range l {
		s := camp()
		c.edit(&s)
		if got := Check(s); got != c.want {
			t.Errorf("%s: %v: %v; want %v", c.name, s, got, c.want)
		}
	}
}

// D1: what is said of the state as a whole.
func TestCheckState(t *testing.T) {
	testBroken(t, []broken{
		{"tick below 0", func(s *api.Newer) { s.Tick = -1 }, api.ErrBound},
		{"tick above", func(s *api.Newer) { s.Tick = 61 }, api.ErrBound},
		{"next 0", func(s *api.Newer) { s.Next = 0 }, api.ErrBound},
		{"next below 0", func(s *api.Newer) { s.Next = math.MinInt }, api.ErrBound},
		{"next above", func(s *api.Newer) { s.Next = 2002 }, api.ErrBound},
		{"next not below an ID", func(s *api.Newer) { s.Next = 898 }, api.ErrShape},
		{"next just above all IDs", func(s *api.Newer) { s.Next = 899 }, nil},
		{"first gold below 0", func(s *api.Newer) { s.Gold[0] = -1 }, api.ErrBound},
		{"second gold below 0", func(s *api.Newer) { s.Gold[1] = -1 }, api.ErrBound},
		{"first gold above", func(s *api.Newer) { s.Gold[0] = 1001 }, api.ErrBound},
		{"second gold above", func(s *api.Newer) { s.Gold[1] = math.MaxInt }, api.ErrBound},
		{"too many units", func(s *api.Newer) { s.Units = make([]api.Unit, 21) }, api.ErrMany},
		{"units not too many, but wrong", func(s *api.Newer) { s.Units = make([]api.Unit, 20) }, api.ErrBound},
		{"bound ahead of many", func(s *api.Newer) { s.Gold[1], s.Units = 1001, make([]api.Unit, 21) }, api.ErrBound},
	})
	many := full(1)
	many.Units = append(many.Units, one(21, 0, api.Worker, 11, 11))
	many.Next = 22
	if got := Check(many); got != api.ErrMany {
		t.Errorf("one too many, each right by itself: %v; want %v", got, api.ErrMany)
	}
}

// D1: ErrBound of each; a Mule has no rule, and nobody came behind the state's tick.
func TestCheckBound(t *testing.T) {
	var l []broken
	add := func(name string, i int, field func(u *api.Unit) *int, values ...int) {
		for _, v := range append(values, math.MinInt, math.MaxInt) {
			l = append(l, broken{name, func(s *api.Newer) { *field(&s.Units[i]) = v }, api.ErrBound})
		}
	}
	for i := range camp().Units {
		add("kind", i, func(u *api.Unit) *int { return &u.Kind }, 0, -1, api.Mule, 6)
		add("ID", i, func(u *api.Unit) *int { return &u.ID }, 0, -1, 2001)
		add("x", i, func(u *api.Unit) *int { return &u.X }, -1, 12)
		add("y", i, func(u *api.Unit) *int { return &u.Y }, -1, 12)
		add("HP", i, func(u *api.Unit) *int { return &u.HP }, 0, -1, []int{6, 9, 101, 21, 9, 6}[i])
		add("does", i, func(u *api.Unit) *int { return &u.Does }, -1, 4)
		add("target", i, func(u *api.Unit) *int { return &u.Target }, -1, 2001)
		add("since", i, func(u *api.Unit) *int { return &u.Since }, -1, 8, 60)
	}
	testBroken(t, l)
}

// D1: Since is from 0 to Tick, whatever the tick is.
func TestCheckSince(t *testing.T) {
	for tick := 0; tick <= api.MaxTicks; tick++ {
		for since := -2; since <= api.MaxTicks+2; since++ {
			u := one(1, 0, api.Worker, 3, 3)
			u.Since = since
			var want error
			if since < 0 || since > tick {
				want = api.ErrBound
			}
			if got := Check(api.Newer{Tick: tick, Next: 2, Units: []api.Unit{u}}); got != want {
				t.Errorf("tick %d, since %d: %v; want %v", tick, since, got, want)
			}
		}
	}
}

// D1: ErrShape of each by itself.
func TestCheckShape(t *testing.T) {
	to := func(x, y int) func(s *api.Newer) {
		return func(s *api.Newer) { s.Units[4].GX, s.Units[4].GY = x, y }
	}
	l := []broken{
		{"soldier of nobody", func(s *api.Newer) { s.Units[1].Owner = api.Nobody }, api.ErrShape},
		{"tower of nobody", func(s *api.Newer) { s.Units[3].Owner = api.Nobody }, api.ErrShape},
		{"mine of the first", func(s *api.Newer) { s.Units[2].Owner = 0 }, api.ErrShape},
		{"mine of the second", func(s *api.Newer) { s.Units[2].Owner = 1 }, api.ErrShape},
		{"a place of one that mines", func(s *api.Newer) { s.Units[0].GX = 1 }, api.ErrShape},
		{"a place of one that fights", func(s *api.Newer) { s.Units[1].GY = 1 }, api.ErrShape},
		{"a place of one that is idle", func(s *api.Newer) { s.Units[3].GY = -1 }, api.ErrShape},
		{"a column of one that is idle", func(s *api.Newer) { s.Units[3].GX = 3 }, api.ErrShape},
		{"going left of the board", to(-1, 0), api.ErrShape},
		{"going right of it", to(12, 0), api.ErrShape},
		{"going above it", to(0, -1), api.ErrShape},
		{"going below it", to(0, 12), api.ErrShape},
		{"a tower goes", func(s *api.Newer) { s.Units[3].Does = api.Going }, api.ErrShape},
		{"a mine goes", func(s *api.Newer) { s.Units[2].Does = api.Going }, api.ErrShape},
		{"a target of one that is idle", func(s *api.Newer) { s.Units[3].Target = 3 }, api.ErrShape},
		{"a target of one that goes", func(s *api.Newer) { s.Units[5].Target = 5 }, api.ErrShape},
		{"no target of one that mines", func(s *api.Newer) { s.Units[0].Target = 0 }, api.ErrShape},
		{"no target of one that fights", func(s *api.Newer) { s.Units[1].Target = 0 }, api.ErrShape},
	}
	for i := range camp().Units {
		for _, owner := range []int{-1, 3, math.MinInt, math.MaxInt} {
			l = append(l, broken{"owner", func(s *api.Newer) { s.Units[i].Owner = owner }, api.ErrShape})
		}
	}
	testBroken(t, l)
}

// D1: ErrShape of each beside others, and of targets.
func TestCheckTogether(t *testing.T) {
	testBroken(t, []broken{
		{"an ID twice", func(s *api.Newer) { s.Units[4].ID = 5 }, api.ErrShape},
		{"IDs fall", func(s *api.Newer) { s.Units[3], s.Units[4] = s.Units[4], s.Units[3] }, api.ErrShape},
		{"an ID is Next", func(s *api.Newer) { s.Units[5].ID = 900 }, api.ErrShape},
		{"an ID above Next", func(s *api.Newer) { s.Units[5].ID = 2000 }, api.ErrShape},
		{"another ID in a gap", func(s *api.Newer) { s.Units[5].ID = 202 }, nil},
		{"two at a place", func(s *api.Newer) { s.Units[5].X, s.Units[5].Y = 0, 0 }, api.ErrShape},
		{"two next to each other at a place", func(s *api.Newer) { s.Units[3].X = 5 }, api.ErrShape},
		{"column and row the other way round", func(s *api.Newer) { s.Units[0].X, s.Units[0].Y = 5, 6; s.Units[4].X, s.Units[4].Y = 6, 6 }, nil},
		{"a target is not there", func(s *api.Newer) { s.Units[0].Target = 2 }, api.ErrShape},
		{"a target is Next", func(s *api.Newer) { s.Units[0].Target = 900 }, api.ErrShape},
		{"itself as a target", func(s *api.Newer) { s.Units[1].Target = 3 }, api.ErrShape},
		{"a mine is fought", func(s *api.Newer) { s.Units[1].Target = 4 }, api.ErrShape},
		{"an ally is fought", func(s *api.Newer) { s.Units[1].Target = 898 }, api.ErrShape},
		{"a tower is mined", func(s *api.Newer) { s.Units[0].Target = 5 }, api.ErrShape},
	})
}

// D1, Z3: the first one's error is told, and of one the first that is named.
func TestCheckOrder(t *testing.T) {
	testBroken(t, []broken{
		{"bound, shape of one", func(s *api.Newer) { s.Units[1].Owner, s.Units[1].Target = 7, 2001 }, api.ErrBound},
		{"since, shape of one", func(s *api.Newer) { s.Units[1].Owner, s.Units[1].Since = 7, 8 }, api.ErrBound},
		{"bound, ID of one", func(s *api.Newer) { s.Units[1].ID, s.Units[1].HP = 1, 0 }, api.ErrBound},
		{"since, ID of one", func(s *api.Newer) { s.Units[1].ID, s.Units[1].Since = 1, -1 }, api.ErrBound},
		{"bound, then shape", func(s *api.Newer) { s.Units[1].HP, s.Units[2].Owner = 0, 0 }, api.ErrBound},
		{"since, then shape", func(s *api.Newer) { s.Units[1].Since, s.Units[2].Owner = 8, 0 }, api.ErrBound},
		{"shape, then bound", func(s *api.Newer) { s.Units[1].Owner, s.Units[2].HP = 2, 0 }, api.ErrShape},
		{"shape, then since", func(s *api.Newer) { s.Units[1].Owner, s.Units[2].Since = 2, 8 }, api.ErrShape},
		{"ID again, then bound", func(s *api.Newer) { s.Units[1].ID, s.Units[2].HP = 1, 0 }, api.ErrShape},
		{"place again, then bound", func(s *api.Newer) { s.Units[1].X, s.Units[1].Y, s.Units[2].Since = 0, 0, 9 }, api.ErrShape},
		{"ID is Next, then bound", func(s *api.Newer) { s.Units[1].ID, s.Units[5].Y = 900, 12 }, api.ErrShape},
		{"bound behind a wrong target", func(s *api.Newer) { s.Units[0].Target, s.Units[5].HP = 2, 0 }, api.ErrBound},
		{"since behind a wrong target", func(s *api.Newer) { s.Units[0].Target, s.Units[5].Since = 2, 8 }, api.ErrBound},
		{"gold ahead of an earlier shape", func(s *api.Newer) { s.Gold[0], s.Units[0].Owner = -1, 2 }, api.ErrBound},
	})
}

// kinds, and of which kinds one may mine, or fight.
var (
	kinds    = []int{api.Worker, api.Soldier, api.Tower, api.Mine}
	fighters = map[int]bool{api.Worker: true, api.Soldier: true, api.Tower: true}
	hps      = map[int]int{api.Worker: 5, api.Soldier: 8, api.Tower: 20, api.Mine: 100}
)

// pair of which the first one would do something to the second one.
func pair(kind, other int, ally bool) api.Newer {
	s := api.Newer{Next: 3, Units: []api.Unit{
		{ID: 1, Owner: 0, Kind: kind, X: 0, Y: 0, HP: 1},
		{ID: 2, Owner: 1, Kind: other, X: 9, Y: 0, HP: 1},
	}}
	if ally {
		s.Units[1].Owner = 0
	}
	for i := range s.Units {
		if s.Units[i].Kind == api.Mine {
			s.Units[i].Owner = api.Nobody
		}
	}
	return s
}

// pairs: each pair, with whether the first one may fight, and whether it may mine, the second one.
func pairs(visit func(s api.Newer, fight, mine bool)) {
	for _, kind := range kinds {
		for _, other := range kinds {
			for _, ally := range []bool{false, true} {
				foe := other != api.Mine && !ally
				visit(pair(kind, other, ally), fighters[kind] && foe, kind == api.Worker && other == api.Mine)
			}
		}
	}
}

// D1, with C2.
func TestCheckMay(t *testing.T) {
	pairs(func(s api.Newer, fight, mine bool) {
		for does, may := range map[int]bool{api.Fights: fight, api.Mines: mine} {
			s.Units[0].Does, s.Units[0].Target = does, 2
			want := error(api.ErrShape)
			if may {
				want = nil
			}
			if got := Check(s); got != want {
				t.Errorf("%v: %v; want %v", s, got, want)
			}
		}
	})
}

// D2, with C2: Aim mines a Mine, and fights any other one, or is passed over.
func TestStepMay(t *testing.T) {
	pairs(func(s api.Newer, fight, mine bool) {
		got, err := Step(s, []api.Order{{Player: s.Units[0].Owner, Verb: api.Aim, ID: 1, Arg: 2}})
		want := api.Unit{}
		if fight {
			want = api.Unit{Does: api.Fights, Target: 2}
		}
		if mine {
			want = api.Unit{Does: api.Mines, Target: 2}
		}
		if err != nil || got.Units[0].Does != want.Does || got.Units[0].Target != want.Target {
			t.Errorf("%v: %v, %v; want it to do %d to %d", s, got, err, want.Does, want.Target)
		}
	})
}
