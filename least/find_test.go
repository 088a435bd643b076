package least

import (
	"math"
	"math/rand"
	"testing"
)

// most: how often may be asked of n places of which the last one differs, by the chapter's own words.
func most(n int) int {
	times := 2
	for ; n > 1; n = n/2 + n%2 {
		times++
	}
	return times
}

// asking: says of a place whether it differs, and counts; to ask of a place that is none is a fault.
func asking(t *testing.T, n int, times *int, differs func(int) bool) func(int) bool {
	return func(i int) bool {
		if i < 0 || i >= n {
			t.Fatalf("of %d places it asked of %d", n, i)
		}
		*times++
		return differs(i)
	}
}

// find: asked is how often it asked.
func find(t *testing.T, n int, differs func(int) bool) (int, int, bool) {
	t.Helper()
	times := 0
	at, asked, found := Find(n, asking(t, n, &times, differs))
	if asked != times {
		t.Fatalf("of %d places: it asked %d times, and told of %d", n, times, asked)
	}
	return at, asked, found
}

// H1: none, one, the first, the last.
func TestFindByHand(t *testing.T) {
	for _, c := range []struct {
		name    string
		differs []bool
		at      int
		found   bool
	}{
		{"no places", nil, 0, false},
		{"one that is the same", []bool{false}, 0, false},
		{"one that differs", []bool{true}, 0, true},
		{"all the same", []bool{false, false, false, false, false}, 0, false},
		{"all differ", []bool{true, true, true, true, true}, 0, true},
		{"the last alone", []bool{false, false, false, false, true}, 4, true},
		{"the last of two", []bool{false, true}, 1, true},
		{"both of two", []bool{true, true}, 0, true},
		{"all but the first", []bool{false, true, true, true}, 1, true},
		{"the last two", []bool{false, false, false, false, true, true}, 4, true},
		{"all but the last", []bool{true, true, true, false}, 0, false},
		{"the first alone", []bool{true, false, false}, 0, false},
	} {
		at, asked, found := find(t, len(c.differs), func(i int) bool { return c.differs[i] })
		if at != c.at || found != c.found || asked > most(len(c.differs)) || !found && asked != min(1, len(c.differs)) {
			t.Errorf("%s: %d, %d, %v; want %d, %v", c.name, at, asked, found, c.at, c.found)
		}
	}
}

// H1: of n below 1 nothing is asked.
func TestFindBelowOne(t *testing.T) {
	for _, n := range []int{0, -1, -2, math.MinInt + 1, math.MinInt} {
		at, asked, found := Find(n, func(i int) bool {
			t.Errorf("of %d places it asked of %d", n, i)
			return true
		})
		if at != 0 || asked != 0 || found {
			t.Errorf("of %d places: %d, %d, %v", n, at, asked, found)
		}
	}
}

// H1, W5: whatever the number of places, and whichever the first that differs: it is found, and few are asked.
func TestFindEach(t *testing.T) {
	for n := 1; n <= 260; n++ {
		for first := range n {
			at, asked, found := find(t, n, func(i int) bool { return i >= first })
			if at != first || !found || asked > most(n) {
				t.Fatalf("of %d places, from %d on: %d, %d, %v; at most %d may be asked", n, first, at, asked, found, most(n))
			}
		}
		if at, asked, found := find(t, n, func(i int) bool { return false }); at != 0 || asked != 1 || found {
			t.Fatalf("of %d places that are the same: %d, %d, %v", n, at, asked, found)
		}
	}
}

// H1: plays that part and come together, again and again: any place will do that differs, while the one ahead does not.
func TestFindDrawn(t *testing.T) {
	r := rand.New(rand.NewSource(31))
	told := map[bool]int{}
	for range 20000 {
		l := make([]bool, r.Intn(70))
		odds := 1 + r.Intn(8)
		for i := range l {
			l[i] = r.Intn(9) < odds
		}
		at, asked, found := find(t, len(l), func(i int) bool { return l[i] })
		told[found]++
		if found != (len(l) > 0 && l[len(l)-1]) || asked > most(len(l)) {
			t.Fatalf("%v: %d, %d, %v", l, at, asked, found)
		}
		if !found && (at != 0 || asked != min(1, len(l))) || found && (!l[at] || at > 0 && l[at-1]) {
			t.Fatalf("%v: %d, %d, %v", l, at, asked, found)
		}
	}
	if told[true] < 5000 || told[false] < 5000 {
		t.Errorf("%v", told)
	}
}

// H1, Z1: as many places as there may be.
func TestFindGreat(t *testing.T) {
	for _, n := range []int{math.MaxInt, math.MaxInt - 1, math.MaxInt/2 + 1, math.MaxInt / 2, 1<<40 + 1, 1 << 40, 1<<40 - 1} {
		for _, first := range []int{0, 1, 2, n/2 - 1, n / 2, n/2 + 1, n - 3, n - 2, n - 1} {
			at, asked, found := find(t, n, func(i int) bool { return i >= first })
			if at != first || !found || asked > most(n) {
				t.Errorf("of %d places, from %d on: %d, %d, %v", n, first, at, asked, found)
			}
		}
	}
}

// Z1: it ends, whatever is said, and does not ask more often for that; who can't be asked tells of no difference.
func TestFindEnds(t *testing.T) {
	r := rand.New(rand.NewSource(32))
	for range 2000 {
		n := r.Intn(1000)
		if _, asked, _ := find(t, n, func(int) bool { return r.Intn(2) == 0 }); asked > most(n) {
			t.Fatalf("of %d places: %d", n, asked)
		}
	}
	if at, asked, found := Find(5, nil); at != 0 || asked != 0 || found {
		t.Errorf("%d, %d, %v", at, asked, found)
	}
}
