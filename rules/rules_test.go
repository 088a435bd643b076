package rules

import (
	"math"
	"testing"

	"ferryman/api"
)

// B1: Cost, HP, Speed, Harm, Range, Load.
var (
	worker     = Rule{5, 5, 1, 1, 1, 1}
	soldier    = Rule{8, 8, 1, 2, 2, 0}
	elderTower = Rule{15, 20, 0, 3, 3, 0}
	newerTower = Rule{15, 20, 0, 3, 4, 0}
	mine       = Rule{}
	mule       = Rule{7, 6, 1, 0, 1, 2}
)

func TestElder(t *testing.T) {
	checkRules(t, "Elder", Elder, map[int]Rule{
		api.Worker: worker, api.Soldier: soldier, api.Tower: elderTower, api.Mine: mine, api.Mule: mule,
	})
}

func TestNewer(t *testing.T) {
	checkRules(t, "Newer", Newer, map[int]Rule{
		api.Worker: worker, api.Soldier: soldier, api.Tower: newerTower, api.Mine: mine,
	})
}

func checkRules(t *testing.T, name string, rule func(int) (Rule, bool), want map[int]Rule) {
	t.Helper()
	kinds := []int{math.MinInt, -1 << 32, 1<<32 + 1, 1<<32 + 5, math.MaxInt}
	for kind := -300; kind <= 300; kind++ {
		kinds = append(kinds, kind)
	}
	for _, kind := range kinds {
		r, has := want[kind]
		if got, is := rule(kind); got != r || is != has {
			t.Errorf("%s(%d): %v, %v; want %v, %v", name, kind, got, is, r, has)
		}
	}
}

// B2: of all places about the board.
func TestOn(t *testing.T) {
	count := 0
	for x := -20; x <= 40; x++ {
		for y := -20; y <= 40; y++ {
			if On(x, y) {
				count++
			}
		}
	}
	if count != api.Side*api.Side {
		t.Errorf("%d places are on the board; want %d", count, api.Side*api.Side)
	}
}

func TestOnEdges(t *testing.T) {
	cases := []struct {
		x, y int
		want bool
	}{
		{0, 0, true},
		{11, 0, true},
		{0, 11, true},
		{11, 11, true},
		{5, 6, true},
		{12, 0, false},
		{0, 12, false},
		{-1, 0, false},
		{0, -1, false},
		{12, 12, false},
		{-1, -1, false},
		{math.MinInt, 0, false},
		{0, math.MinInt, false},
		{math.MaxInt, 0, false},
		{0, math.MaxInt, false},
		{1 << 32, 1 << 32, false},
	}
	for _, c := range cases {
		if got := On(c.x, c.y); got != c.want {
			t.Errorf("On(%d, %d): %v", c.x, c.y, got)
		}
	}
}

func TestFar(t *testing.T) {
	cases := []struct{ x, y, tx, ty, want int }{
		{3, 4, 3, 4, 0},
		{3, 4, 4, 5, 1},
		{3, 4, 2, 3, 1},
		{3, 4, 3, 9, 5},
		{3, 4, 9, 4, 6},
		{3, 4, 0, 9, 5},
		{3, 4, 9, 0, 6},
		{0, 0, 11, 11, 11},
		{11, 0, 0, 1, 11},
		{0, 11, 1, 0, 11},
	}
	for _, c := range cases {
		if got := Far(c.x, c.y, c.tx, c.ty); got != c.want {
			t.Errorf("Far(%d, %d, %d, %d): %d; want %d", c.x, c.y, c.tx, c.ty, got, c.want)
		}
	}
}

func TestToward(t *testing.T) {
	cases := []struct{ x, y, tx, ty, wantX, wantY int }{
		{3, 4, 3, 4, 3, 4},
		{3, 4, 3, 9, 3, 5},
		{3, 4, 3, 0, 3, 3},
		{3, 4, 9, 4, 4, 4},
		{3, 4, 0, 4, 2, 4},
		{3, 4, 9, 9, 4, 5},
		{3, 4, 0, 0, 2, 3},
		{3, 4, 9, 0, 4, 3},
		{3, 4, 0, 9, 2, 5},
		{3, 4, 4, 3, 4, 3},
		{0, 0, 11, 11, 1, 1},
		{11, 11, 0, 0, 10, 10},
	}
	for _, c := range cases {
		if x, y := Toward(c.x, c.y, c.tx, c.ty); x != c.wantX || y != c.wantY {
			t.Errorf("Toward(%d, %d, %d, %d): %d, %d; want %d, %d", c.x, c.y, c.tx, c.ty, x, y, c.wantX, c.wantY)
		}
	}
}

// Of all places: it is as far as one has to go, a step at a time, without leaving the board, and as far back.
func TestFarIsHowManySteps(t *testing.T) {
	forEachPair(func(x, y, tx, ty int) {
		far := Far(x, y, tx, ty)
		if back := Far(tx, ty, x, y); back != far {
			t.Fatalf("from %d, %d to %d, %d: %d, and back: %d", x, y, tx, ty, far, back)
		}
		px, py := x, y
		for step := range far {
			if px == tx && py == ty {
				t.Fatalf("from %d, %d to %d, %d: there after %d steps of %d", x, y, tx, ty, step, far)
			}
			px, py = Toward(px, py, tx, ty)
			if !On(px, py) || Far(x, y, px, py) > step+1 {
				t.Fatalf("from %d, %d to %d, %d: at %d, %d after %d steps", x, y, tx, ty, px, py, step+1)
			}
		}
		if px != tx || py != ty {
			t.Fatalf("from %d, %d to %d, %d: at %d, %d after %d steps", x, y, tx, ty, px, py, far)
		}
	})
}

func forEachPair(do func(x, y, tx, ty int)) {
	for x := range api.Side {
		for y := range api.Side {
			for tx := range api.Side {
				for ty := range api.Side {
					do(x, y, tx, ty)
				}
			}
		}
	}
}
