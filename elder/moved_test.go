package elder

import (
	"math/rand"
	"slices"
	"testing"

	"ferryman/api"
)

// C3: as far as the blows all have done what they are told, and have moved; nobody has lost HP, or is gone.
func TestMoved(t *testing.T) {
	s := api.Elder{Tick: 3, Gold: [2]int{9, 9}, Next: 6, Ents: []api.Ent{
		{ID: 1, Kind: api.Worker, X: 3, Y: 3, HP: 5},
		{ID: 2, Owner: api.Nobody, Kind: api.Mine, X: 5, Y: 3, HP: 1},
		{ID: 3, Owner: 1, Kind: api.Soldier, X: 3, Y: 5, HP: 8, Does: api.Fights, Target: 5},
		{ID: 4, Owner: 1, Kind: api.Soldier, X: 8, Y: 8, HP: 8, Does: api.Going, GX: 9, GY: 9},
		{ID: 5, Kind: api.Worker, X: 2, Y: 4, HP: 1},
	}}
	l := []api.Cmd{{Player: 0, Op: api.CmdBuild, ID: 1, Kind: api.Mule, X: 2, Y: 2}, {Player: 0, Op: api.CmdMine, ID: 1, Target: 2}}
	want := []api.Ent{
		{ID: 1, Kind: api.Worker, X: 4, Y: 3, HP: 5, Does: api.Mines, Target: 2},
		s.Ents[1], s.Ents[2],
		{ID: 4, Owner: 1, Kind: api.Soldier, X: 9, Y: 9, HP: 8},
		s.Ents[4],
		{ID: 6, Kind: api.Mule, X: 2, Y: 2, HP: 6},
	}
	got, err := Moved(s, l)
	if err != nil || got.Tick != 3 || got.Gold != [2]int{2, 9} || got.Next != 7 || len(got.Free) > 0 || !slices.Equal(got.Ents, want) {
		t.Errorf("%v, %v; want %v", got, err, want)
	}
}

// C3, Z1, Z2: with Moved's state, in which whoever lives on stands, Step ends; errors are the same, and nothing is written into.
func TestMovedDrawn(t *testing.T) {
	r := rand.New(rand.NewSource(17))
	for range 3000 {
		s := drawn(r)
		l := drawnCmds(r, s)
		switch r.Intn(20) {
		case 0:
			l = make([]api.Cmd, 9)
		case 1:
			s.Tick = 60 + r.Intn(2)
		}
		was := fresh(s)
		mid, err := Moved(s, l)
		end, born, want := Step(s, l)
		if err != want || err != nil && (mid.Next != 0 || mid.Ents != nil || mid.Free != nil) {
			t.Fatalf("%v, %v: %v, %v; want %v", s, l, mid, err, want)
		}
		if !slices.Equal(s.Ents, was.Ents) || !slices.Equal(s.Free, was.Free) {
			t.Fatalf("%v was %v", s, was)
		}
		if err != nil {
			continue
		}
		if len(mid.Ents) != len(s.Ents)+len(born) || mid.Next != end.Next {
			t.Fatalf("%v, %v: %v, %v", s, l, mid, born)
		}
		for _, e := range end.Ents {
			if i := index(mid.Ents, e.ID); i < 0 || mid.Ents[i].X != e.X || mid.Ents[i].Y != e.Y || mid.Ents[i].HP < e.HP {
				t.Fatalf("%v, %v: %v ended as %v", s, l, mid, end)
			}
		}
	}
}

// C2, C3: who may be fought or mined, from where, and where one goes to do so; who is not there is no reason to go.
func TestWishNearMay(t *testing.T) {
	soldier := api.Ent{ID: 1, Kind: api.Soldier, X: 3, Y: 3, HP: 8, Does: api.Fights, Target: 2}
	worker := api.Ent{ID: 3, Kind: api.Worker, X: 3, Y: 3, HP: 5, Does: api.Mines, Target: 4}
	tower := api.Ent{ID: 5, Kind: api.Tower, X: 3, Y: 3, HP: 20, Does: api.Fights, Target: 2}
	foe := api.Ent{ID: 2, Owner: 1, Kind: api.Worker, X: 6, Y: 1, HP: 5}
	ore := api.Ent{ID: 4, Owner: api.Nobody, Kind: api.Mine, X: 5, Y: 3, HP: 9}
	goes := api.Ent{ID: 1, Kind: api.Soldier, X: 3, Y: 3, HP: 8, Does: api.Going, GX: 0, GY: 9}
	for _, c := range []struct {
		name string
		l    []api.Ent
		e    api.Ent
		x, y int
	}{
		{"to one that is fought", []api.Ent{foe, soldier}, soldier, 4, 2},
		{"to one that is mined", []api.Ent{ore, worker}, worker, 4, 3},
		{"to a place", nil, goes, 2, 4},
		{"a tower does not go", []api.Ent{foe, tower}, tower, 3, 3},
		{"to nobody", []api.Ent{ore, soldier}, soldier, 3, 3},
		{"nothing is done", []api.Ent{foe, ore}, api.Ent{ID: 1, Kind: api.Soldier, X: 3, Y: 3, HP: 8}, 3, 3},
	} {
		if x, y := Wish(c.l, c.e); x != c.x || y != c.y {
			t.Errorf("%s: %d, %d; want %d, %d", c.name, x, y, c.x, c.y)
		}
	}
	for x, want := range []bool{false, true, true, true, true, true, false} {
		if got := Near(soldier, api.Ent{X: x, Y: 4}); got != want {
			t.Errorf("a soldier is near to %d, 4: %v", x, got)
		}
		if got := Near(worker, api.Ent{X: x, Y: 4}); got != (x >= 2 && x <= 4) {
			t.Errorf("a worker is near to %d, 4: %v", x, got)
		}
	}
	if May(soldier, api.Mines, ore) || May(soldier, api.Fights, ore) || !May(soldier, api.Fights, foe) || May(soldier, api.Fights, worker) ||
		!May(worker, api.Mines, ore) || May(worker, api.Mines, foe) {
		t.Error("who may what")
	}
}
