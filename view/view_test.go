package view

import (
	"math"
	"math/rand"
	"slices"
	"testing"

	"ferryman/api"
	"ferryman/elder"
	"ferryman/newer"
)

// camp: of each kind of the elder game one, of each doing one, and neither by rows nor by columns.
func camp() api.Elder {
	return api.Elder{
		Tick: 7, Gold: [2]int{3, 40}, Next: 11, Free: []int{9, 2, 7},
		Ents: []api.Ent{
			{ID: 1, Owner: 0, Kind: api.Worker, X: 11, Y: 5, HP: 4, Does: api.Mines, Target: 6},
			{ID: 3, Owner: 1, Kind: api.Soldier, X: 2, Y: 10, HP: 8, Does: api.Fights, Target: 10},
			{ID: 4, Owner: 1, Kind: api.Tower, X: 10, Y: 2, HP: 20, Does: api.Fights, Target: 1},
			{ID: 5, Owner: 0, Kind: api.Mule, X: 9, Y: 5, HP: 6, Does: api.Going, GX: 11, GY: 3},
			{ID: 6, Owner: api.Nobody, Kind: api.Mine, X: 2, Y: 2, HP: 100},
			{ID: 8, Owner: 1, Kind: api.Soldier, X: 10, Y: 5, HP: 1, Does: api.Going},
			{ID: 10, Owner: 0, Kind: api.Worker, X: 0, Y: 0, HP: 5},
		},
	}
}

// campSeen: the same by rows, in each from left to right.
func campSeen() api.View {
	return api.View{
		Tick: 7, Gold: [2]int{3, 40},
		All: []api.Seen{
			{X: 0, Y: 0, Owner: 0, Kind: 1, HP: 5, TX: -1, TY: -1},
			{X: 2, Y: 2, Owner: 2, Kind: 4, HP: 100, TX: -1, TY: -1},
			{X: 10, Y: 2, Owner: 1, Kind: 3, HP: 20, Does: 2, TX: 11, TY: 5},
			{X: 9, Y: 5, Owner: 0, Kind: 5, HP: 6, Does: 1, GX: 11, GY: 3, TX: -1, TY: -1},
			{X: 10, Y: 5, Owner: 1, Kind: 2, HP: 1, Does: 1, TX: -1, TY: -1},
			{X: 11, Y: 5, Owner: 0, Kind: 1, HP: 4, Does: 3, TX: 2, TY: 2},
			{X: 2, Y: 10, Owner: 1, Kind: 2, HP: 8, Does: 2, TX: 0, TY: 0},
		},
	}
}

// units of the newer game that do the same, with IDs further apart.
func units(l []api.Ent, apart int) []api.Unit {
	var out []api.Unit
	for i, e := range l {
		out = append(out, api.Unit{ID: e.ID * apart, Owner: e.Owner, Kind: e.Kind, X: e.X, Y: e.Y, HP: e.HP,
			Does: e.Does, GX: e.GX, GY: e.GY, Target: e.Target * apart, Since: i})
	}
	return out
}

// newerCamp: camp in the newer game, which has no mules.
func newerCamp() api.Newer {
	e := camp()
	e.Ents[3].Kind, e.Ents[3].HP = api.Worker, 5
	return api.Newer{Tick: e.Tick, Gold: [2]int{1000, 41}, Next: 2001, Units: units(e.Ents, 200)}
}

func newerCampSeen() api.View {
	v := campSeen()
	v.Gold = [2]int{1000, 41}
	v.All[3].Kind, v.All[3].HP = api.Worker, 5
	return v
}

// alike: the tests' own measure, without Same.
func alike(a, b api.View) bool {
	if a.Tick != b.Tick || a.Gold != b.Gold || len(a.All) != len(b.All) {
		return false
	}
	for i := range a.All {
		if a.All[i] != b.All[i] {
			return false
		}
	}
	return true
}

// E1: by rows, in each from left to right; where the target stands, and who has none.
func TestElder(t *testing.T) {
	for name, c := range map[string]struct {
		s    api.Elder
		want api.View
	}{
		"nobody":         {api.Elder{Next: 1}, api.View{}},
		"nobody is left": {api.Elder{Tick: 60, Gold: [2]int{40, 0}, Next: 3, Free: []int{2, 1}}, api.View{Tick: 60, Gold: [2]int{40, 0}}},
		"camp":           {camp(), campSeen()},
	} {
		if got, err := Elder(c.s); err != nil || !alike(got, c.want) {
			t.Errorf("%s: %v, %v; want %v", name, got, err, c.want)
		}
	}
}

// E1: the newer game's in the same way.
func TestNewer(t *testing.T) {
	for name, c := range map[string]struct {
		s    api.Newer
		want api.View
	}{
		"nobody":         {api.Newer{Next: 1}, api.View{}},
		"nobody is left": {api.Newer{Tick: 60, Gold: [2]int{0, 1000}, Next: 2001}, api.View{Tick: 60, Gold: [2]int{0, 1000}}},
		"camp":           {newerCamp(), newerCampSeen()},
	} {
		if got, err := Newer(c.s); err != nil || !alike(got, c.want) {
			t.Errorf("%s: %v, %v; want %v", name, got, err, c.want)
		}
	}
}

// E1: IDs, which of them are free and in which order, Next, and Since are not to be seen.
func TestWithoutNumbers(t *testing.T) {
	s := camp()
	s.Free, s.Next = []int{11, 2, 7, 9, 12}, 13
	if got, err := Elder(s); err != nil || !alike(got, campSeen()) {
		t.Errorf("%v, %v; want %v", got, err, campSeen())
	}
	for _, apart := range []int{1, 2, 199} {
		n := newerCamp()
		n.Units = units(camp().Ents, apart)
		n.Units[3].Kind, n.Units[3].HP = api.Worker, 5
		for i := range n.Units {
			n.Units[i].Since = (3 * i) % 8
		}
		if got, err := Newer(n); err != nil || !alike(got, newerCampSeen()) {
			t.Errorf("%d apart: %v, %v; want %v", apart, got, err, newerCampSeen())
		}
	}
}

// session: the document's example in the elder game.
func session() api.Tape {
	return api.Tape{
		Start: api.Elder{Gold: [2]int{12, 0}, Next: 5, Ents: []api.Ent{
			{ID: 1, Owner: 0, Kind: api.Worker, X: 3, Y: 3, HP: 5},
			{ID: 2, Owner: 2, Kind: api.Mine, X: 6, Y: 3, HP: 9},
			{ID: 3, Owner: 1, Kind: api.Soldier, X: 8, Y: 5, HP: 8},
			{ID: 4, Owner: 0, Kind: api.Soldier, X: 2, Y: 2, HP: 8},
		}},
		Ticks: [][]api.Cmd{
			{
				{Player: 0, Op: api.CmdMine, ID: 1, Target: 2},
				{Player: 1, Op: api.CmdMove, ID: 3, X: 6, Y: 5},
				{Player: 0, Op: api.CmdBuild, ID: 1, Kind: api.Worker, X: 3, Y: 4},
			},
			{
				{Player: 1, Op: api.CmdAttack, ID: 3, Target: 1},
				{Player: 0, Op: api.CmdAttack, ID: 4, Target: 3},
			},
			nil, nil, nil, nil,
		},
	}
}

// E1: the document's example, as it shows it.
func TestSession(t *testing.T) {
	type row struct{ x, y, owner, kind, hp, does int }
	for _, c := range []struct {
		n, gold int
		want    []row
	}{
		{0, 12, []row{{2, 2, 0, 2, 8, 0}, {3, 3, 0, 1, 5, 0}, {6, 3, 2, 4, 9, 0}, {8, 5, 1, 2, 8, 0}}},
		{1, 7, []row{{2, 2, 0, 2, 8, 0}, {4, 3, 0, 1, 5, 3}, {6, 3, 2, 4, 9, 0}, {3, 4, 0, 1, 5, 0}, {7, 5, 1, 2, 8, 1}}},
		{4, 10, []row{{6, 3, 2, 4, 6, 0}, {3, 4, 0, 1, 5, 0}, {4, 4, 0, 2, 8, 2}, {6, 4, 1, 2, 4, 0}}},
		{6, 10, []row{{6, 3, 2, 4, 6, 0}, {3, 4, 0, 1, 5, 0}, {4, 4, 0, 2, 8, 0}}},
	} {
		s, err := elder.Play(session(), c.n)
		if err != nil {
			t.Fatal(err)
		}
		v, err := Elder(s)
		var got []row
		for _, o := range v.All {
			got = append(got, row{o.X, o.Y, o.Owner, o.Kind, o.HP, o.Does})
		}
		if err != nil || v.Tick != c.n || v.Gold != [2]int{c.gold, 0} || !slices.Equal(got, c.want) {
			t.Errorf("behind %d: %v, %v; want gold %d, %v", c.n, v, err, c.gold, c.want)
		}
	}
}

// E1, Z3: Check's error, and nothing beside it.
func TestElderErrors(t *testing.T) {
	for _, c := range []struct {
		name string
		edit func(s *api.Elder)
		want error
	}{
		{"all zero", func(s *api.Elder) { *s = api.Elder{} }, api.ErrBound},
		{"the document's example", func(s *api.Elder) {
			*s = api.Elder{Next: 3, Ents: []api.Ent{{ID: 2, Kind: api.Worker, HP: 5}}}
		}, api.ErrShape},
		{"too much gold", func(s *api.Elder) { s.Gold[1] = 41 }, api.ErrBound},
		{"too many", func(s *api.Elder) { s.Ents = make([]api.Ent, 21) }, api.ErrMany},
		{"too many free", func(s *api.Elder) { s.Free = make([]int, 201) }, api.ErrMany},
		{"off the board", func(s *api.Elder) { s.Ents[2].X = 12 }, api.ErrBound},
		{"two at one place", func(s *api.Elder) { s.Ents[2].X = 2 }, api.ErrShape},
		{"a target that is gone", func(s *api.Elder) { s.Ents[1].Target = 9 }, api.ErrShape},
		{"a target of who is idle", func(s *api.Elder) { s.Ents[6].Target = 1 }, api.ErrShape},
		{"not free", func(s *api.Elder) { s.Free[0] = 1 }, api.ErrShape},
		{"many ahead of shape", func(s *api.Elder) { s.Ents[1].Target = 9; s.Free = make([]int, 201) }, api.ErrMany},
	} {
		s := camp()
		c.edit(&s)
		if got, err := Elder(s); err != c.want || !alike(got, api.View{}) {
			t.Errorf("%s: %v, %v; want %v", c.name, got, err, c.want)
		}
	}
}

// E1, Z3: Check's error, and nothing beside it.
func TestNewerErrors(t *testing.T) {
	for _, c := range []struct {
		name string
		edit func(s *api.Newer)
		want error
	}{
		{"all zero", func(s *api.Newer) { *s = api.Newer{} }, api.ErrBound},
		{"too much gold", func(s *api.Newer) { s.Gold[0] = 1001 }, api.ErrBound},
		{"too many", func(s *api.Newer) { s.Units = make([]api.Unit, 21) }, api.ErrMany},
		{"a mule", func(s *api.Newer) { s.Units[0].Kind = api.Mule }, api.ErrBound},
		{"still to come", func(s *api.Newer) { s.Units[5].Since = 8 }, api.ErrBound},
		{"two at one place", func(s *api.Newer) { s.Units[2].X = 2 }, api.ErrShape},
		{"a target that is gone", func(s *api.Newer) { s.Units[1].Target = 1999 }, api.ErrShape},
		{"a target of its own side", func(s *api.Newer) { s.Units[1].Target = 800 }, api.ErrShape},
		{"bound ahead of shape", func(s *api.Newer) { s.Units[1].Target = 1999; s.Units[6].HP = 6 }, api.ErrBound},
	} {
		s := newerCamp()
		c.edit(&s)
		if got, err := Newer(s); err != c.want || !alike(got, api.View{}) {
			t.Errorf("%s: %v, %v; want %v", c.name, got, err, c.want)
		}
	}
}

// drawn: a state that is right, with one doing or another; without mules, so that both games have it.
func drawn(r *rand.Rand) api.Elder {
	most := []int{0, 5, 8, 20, 100}
	s := api.Elder{Tick: 20 + r.Intn(41), Gold: [2]int{r.Intn(41), r.Intn(41)}, Next: 1}
	for _, p := range r.Perm(144)[:r.Intn(21)] {
		for ; r.Intn(5) == 0; s.Next++ {
			s.Free = append(s.Free, s.Next)
		}
		e := api.Ent{ID: s.Next, Owner: r.Intn(2), Kind: 1 + r.Intn(4), X: p % 12, Y: p / 12}
		if e.Kind == api.Mine {
			e.Owner = api.Nobody
		}
		e.HP = 1 + r.Intn(most[e.Kind])
		s.Ents = append(s.Ents, e)
		s.Next++
	}
	for i := range s.Ents {
		was := s.Ents[i]
		e := &s.Ents[i]
		e.Does = r.Intn(4)
		if e.Does == api.Going {
			e.GX, e.GY = r.Intn(12), r.Intn(12)
		} else if e.Does != api.Idle {
			e.Target = s.Ents[r.Intn(len(s.Ents))].ID
		}
		if elder.Check(s) != nil {
			*e = was
		}
	}
	return s
}

// walked: the view as it is found by going over the board, place by place.
func walked(s api.Elder) api.View {
	v := api.View{Tick: s.Tick, Gold: s.Gold}
	for y := range api.Side {
		for x := range api.Side {
			for _, e := range s.Ents {
				if e.X != x || e.Y != y {
					continue
				}
				o := api.Seen{X: x, Y: y, Owner: e.Owner, Kind: e.Kind, HP: e.HP, Does: e.Does, GX: e.GX, GY: e.GY, TX: -1, TY: -1}
				for _, target := range s.Ents {
					if target.ID == e.Target {
						o.TX, o.TY = target.X, target.Y
					}
				}
				v.All = append(v.All, o)
			}
		}
	}
	return v
}

// E1, Z2: of any state that is right, in both games, the same at each call; and the state stays as it was.
func TestDrawn(t *testing.T) {
	r := rand.New(rand.NewSource(7))
	there, aiming := 0, 0
	for range 3000 {
		s := drawn(r)
		n := api.Newer{Tick: s.Tick, Gold: s.Gold, Next: 2001, Units: units(s.Ents, 1+r.Intn(30))}
		want := walked(s)
		ents, free, list := slices.Clone(s.Ents), slices.Clone(s.Free), slices.Clone(n.Units)
		for range 2 {
			a, err := Elder(s)
			b, err2 := Newer(n)
			if err != nil || err2 != nil || !alike(a, want) || !alike(b, want) || !Same(a, b) {
				t.Fatalf("%v: %v, %v; %v, %v; want %v", s, a, err, b, err2, want)
			}
		}
		if !slices.Equal(s.Ents, ents) || !slices.Equal(s.Free, free) || !slices.Equal(n.Units, list) {
			t.Fatalf("handed in: %v, %v; now %v, %v", ents, list, s, n)
		}
		for _, o := range want.All {
			there++
			if o.TX >= 0 {
				aiming++
			}
		}
	}
	if there < 10000 || aiming < 2000 {
		t.Errorf("only %d were there in all, and %d with a target", there, aiming)
	}
}

func wild(r *rand.Rand) int {
	return []int{-1, 0, 1, 2, 3, 4, 5, 6, 11, 12, 40, 41, 60, 61, 200, 201, 1000, 2000, 2001, math.MinInt, math.MaxInt}[r.Intn(21)]
}

// E1, Z1: whatever the state, Check's error is told, or the state is right; none panics.
func TestWildStates(t *testing.T) {
	r := rand.New(rand.NewSource(8))
	for range 20000 {
		s := drawn(r)
		n := api.Newer{Tick: s.Tick, Gold: s.Gold, Next: s.Next, Units: units(s.Ents, 1)}
		fields := []*int{&s.Tick, &s.Next, &s.Gold[0], &s.Gold[1], &n.Tick, &n.Next, &n.Gold[0], &n.Gold[1]}
		for i := range s.Ents {
			e, u := &s.Ents[i], &n.Units[i]
			fields = append(fields, &e.ID, &e.Owner, &e.Kind, &e.X, &e.Y, &e.HP, &e.Does, &e.GX, &e.GY, &e.Target)
			fields = append(fields, &u.ID, &u.Owner, &u.Kind, &u.X, &u.Y, &u.HP, &u.Does, &u.GX, &u.GY, &u.Target, &u.Since)
		}
		for range 1 + r.Intn(3) {
			*fields[r.Intn(len(fields))] = wild(r)
		}
		a, err := Elder(s)
		b, err2 := Newer(n)
		if err != elder.Check(s) || err2 != newer.Check(n) {
			t.Fatalf("%v, %v: %v, %v", s, n, err, err2)
		}
		if err != nil && !alike(a, api.View{}) || err2 != nil && !alike(b, api.View{}) {
			t.Fatalf("%v, %v: %v, %v beside an error", s, n, a, b)
		}
	}
}

// Z2: a view is the caller's, and what stands behind a list is neither read nor written.
func TestMemory(t *testing.T) {
	s, n := camp(), newerCamp()
	ents := append(s.Ents, api.Ent{ID: 77})
	list := append(n.Units, api.Unit{ID: 77})
	s.Ents, n.Units = ents[:len(s.Ents)], list[:len(n.Units)]
	a, _ := Elder(s)
	b, _ := Newer(n)
	c, _ := Elder(s)
	if ents[len(s.Ents)] != (api.Ent{ID: 77}) || list[len(n.Units)] != (api.Unit{ID: 77}) {
		t.Errorf("behind the lists: %v, %v", ents, list)
	}
	for i := range c.All[:cap(c.All)] {
		c.All[:cap(c.All)][i] = api.Seen{X: -5}
	}
	if !slices.Equal(s.Ents, camp().Ents) || !slices.Equal(n.Units, newerCamp().Units) {
		t.Errorf("handed in: now %v, %v", s, n)
	}
	clear(ents)
	clear(list)
	clear(s.Free)
	if !alike(a, campSeen()) || !alike(b, newerCampSeen()) {
		t.Errorf("%v, %v; want %v, %v", a, b, campSeen(), newerCampSeen())
	}
}
