package ferry

import (
	"math/rand"
	"testing"

	"ferryman/api"
	"ferryman/elder"
	"ferryman/view"
)

// camp: all doings and kinds that fit, with free IDs between theirs.
func camp() api.Elder {
	return api.Elder{
		Tick: 7, Gold: [2]int{3, 39}, Next: 12, Free: []int{9, 2, 7, 11},
		Ents: []api.Ent{
			{ID: 1, Owner: 0, Kind: api.Worker, X: 11, Y: 5, HP: 4, Does: api.Mines, Target: 6},
			{ID: 3, Owner: 1, Kind: api.Soldier, X: 2, Y: 10, HP: 8, Does: api.Fights, Target: 10},
			{ID: 4, Owner: 1, Kind: api.Soldier, X: 10, Y: 2, HP: 7, Does: api.Fights, Target: 1},
			{ID: 5, Owner: 0, Kind: api.Worker, X: 9, Y: 5, HP: 5, Does: api.Going, GX: 11, GY: 3},
			{ID: 6, Owner: api.Nobody, Kind: api.Mine, X: 2, Y: 2, HP: 100},
			{ID: 8, Owner: 1, Kind: api.Soldier, X: 10, Y: 5, HP: 1, Does: api.Going},
			{ID: 10, Owner: 0, Kind: api.Worker, X: 0, Y: 0, HP: 5},
		},
	}
}

// G1: written out by hand.
func TestCarry(t *testing.T) {
	for name, c := range map[string]struct {
		s    api.Elder
		want api.Newer
	}{
		"nobody":         {api.Elder{Next: 1}, api.Newer{Next: 1}},
		"nobody is left": {api.Elder{Tick: 60, Gold: [2]int{39, 0}, Next: 3, Free: []int{2, 1}}, api.Newer{Tick: 60, Gold: [2]int{39, 0}, Next: 1}},
		"camp": {camp(), api.Newer{Tick: 7, Gold: [2]int{3, 39}, Next: 8, Units: []api.Unit{
			{ID: 1, Owner: 0, Kind: api.Worker, X: 11, Y: 5, HP: 4, Does: api.Mines, Target: 5, Since: 7},
			{ID: 2, Owner: 1, Kind: api.Soldier, X: 2, Y: 10, HP: 8, Does: api.Fights, Target: 7, Since: 7},
			{ID: 3, Owner: 1, Kind: api.Soldier, X: 10, Y: 2, HP: 7, Does: api.Fights, Target: 1, Since: 7},
			{ID: 4, Owner: 0, Kind: api.Worker, X: 9, Y: 5, HP: 5, Does: api.Going, GX: 11, GY: 3, Since: 7},
			{ID: 5, Owner: api.Nobody, Kind: api.Mine, X: 2, Y: 2, HP: 100, Since: 7},
			{ID: 6, Owner: 1, Kind: api.Soldier, X: 10, Y: 5, HP: 1, Does: api.Going, Since: 7},
			{ID: 7, Owner: 0, Kind: api.Worker, X: 0, Y: 0, HP: 5, Since: 7},
		}}},
		"the greatest ID": {from(0, one(200, 1, api.Worker, 3, 4)), api.Newer{Next: 2, Units: []api.Unit{
			{ID: 1, Owner: 1, Kind: api.Worker, X: 3, Y: 4, HP: 5},
		}}},
	} {
		if got, err := Carry(c.s); err != nil || !sameNewer(got, c.want) {
			t.Errorf("%s: %v, %v; want %v", name, got, err, c.want)
		}
	}
}

// G1, Z3: what is refused, and with which error; nothing stands beside it.
func TestCarryErrors(t *testing.T) {
	for _, c := range []struct {
		name string
		edit func(s *api.Elder)
		want error
	}{
		{"all zero", func(s *api.Elder) { *s = api.Elder{} }, api.ErrBound},
		{"more gold than there may be", func(s *api.Elder) { s.Gold[0] = 41 }, api.ErrBound},
		{"too many", func(s *api.Elder) { s.Ents = make([]api.Ent, 21) }, api.ErrMany},
		{"off the board", func(s *api.Elder) { s.Ents[6].X = 12 }, api.ErrBound},
		{"a target that is not there", func(s *api.Elder) { s.Ents[0].Target = 7 }, api.ErrShape},
		{"none free", func(s *api.Elder) { s.Free = nil }, api.ErrShape},
		{"a mule first", func(s *api.Elder) { s.Ents[0].Kind = api.Mule }, api.ErrCompat},
		{"a mule last", func(s *api.Elder) { s.Ents[6].Kind = api.Mule }, api.ErrCompat},
		{"a tower first", func(s *api.Elder) { s.Ents[0] = one(1, 0, api.Tower, 11, 5) }, api.ErrCompat},
		{"a tower last", func(s *api.Elder) { s.Ents[6].Kind = api.Tower }, api.ErrCompat},
		{"the first one's gold", func(s *api.Elder) { s.Gold[0] = 40 }, api.ErrCompat},
		{"the second one's gold", func(s *api.Elder) { s.Gold[1] = 40 }, api.ErrCompat},
		{"gold just below", func(s *api.Elder) { s.Gold = [2]int{39, 39} }, nil},
		{"bound ahead of a mule", func(s *api.Elder) { s.Ents[0].Kind, s.Tick = api.Mule, 61 }, api.ErrBound},
		{"shape ahead of gold", func(s *api.Elder) { s.Gold[0], s.Free[0] = 40, 1 }, api.ErrShape},
		{"shape ahead of a tower", func(s *api.Elder) { s.Ents[6].Kind, s.Ents[6].Owner = api.Tower, 2 }, api.ErrShape},
		{"a mule that fights", func(s *api.Elder) { s.Ents[1].Kind, s.Ents[1].HP = api.Mule, 6 }, api.ErrShape},
	} {
		s := camp()
		c.edit(&s)
		got, err := Carry(s)
		if err != c.want || err != nil && !sameNewer(got, api.Newer{}) {
			t.Errorf("%s: %v, %v; want %v", c.name, got, err, c.want)
		}
	}
}

// G1, Z1: of whatever is right, or wrong: the same view, IDs one by one in the same order, and all that came did so now.
func TestCarryDrawn(t *testing.T) {
	r := rand.New(rand.NewSource(21))
	told := map[error]int{}
	for range 20000 {
		s := drawn(r, []int{2, 5}[r.Intn(2)])
		if r.Intn(6) == 0 {
			fields := []*int{&s.Tick, &s.Next, &s.Gold[0], &s.Gold[1]}
			for i := range s.Ents {
				e := &s.Ents[i]
				fields = append(fields, &e.ID, &e.Owner, &e.Kind, &e.X, &e.Y, &e.HP, &e.Does, &e.GX, &e.GY, &e.Target)
			}
			*fields[r.Intn(len(fields))] = r.Intn(43) - 2
		}
		n, err := Carry(s)
		told[err]++
		want := elder.Check(s)
		if want == nil && !fitting(s) {
			want = api.ErrCompat
		}
		if err != want || err != nil && !sameNewer(n, api.Newer{}) {
			t.Fatalf("%v: %v, %v; want %v", s, n, err, want)
		}
		if err != nil {
			continue
		}
		if !view.Same(newerView(t, n, nil), elderView(t, s, nil)) || n.Next != len(s.Ents)+1 {
			t.Fatalf("%v: %v", s, n)
		}
		for i, u := range n.Units {
			if u.ID != i+1 || u.Since != s.Tick || u.X != s.Ents[i].X || u.Y != s.Ents[i].Y {
				t.Fatalf("%v: %v", s, n)
			}
		}
	}
	if told[nil] < 1000 || told[api.ErrCompat] < 1000 || told[api.ErrBound] < 100 || told[api.ErrShape] < 100 {
		t.Errorf("%v", told)
	}
}

// fitting: the chapter's own words.
func fitting(s api.Elder) bool {
	for _, e := range s.Ents {
		if e.Kind == api.Mule || e.Kind == api.Tower {
			return false
		}
	}
	return s.Gold[0] != api.MaxGold && s.Gold[1] != api.MaxGold
}
