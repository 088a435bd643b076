package least

import (
	"math"
	"math/rand"
	"slices"
	"testing"
)

// H2: by hand.
func TestFirstByHand(t *testing.T) {
	for _, c := range []struct {
		name string
		a, b []uint64
		at   int
		is   bool
	}{
		{"none", nil, nil, 0, false},
		{"none, and an empty list", nil, []uint64{}, 0, false},
		{"only one of them has a place", []uint64{5}, nil, 0, true},
		{"the same one", []uint64{5}, []uint64{5}, 1, false},
		{"another one", []uint64{5}, []uint64{6}, 0, true},
		{"the same", []uint64{5, 0, 7}, []uint64{5, 0, 7}, 3, false},
		{"the first", []uint64{4, 0, 7}, []uint64{5, 0, 7}, 0, true},
		{"the last", []uint64{5, 0, 7}, []uint64{5, 0, 8}, 2, true},
		{"the first of several", []uint64{5, 1, 7, 1}, []uint64{5, 2, 7, 2}, 1, true},
		{"the one in the middle", []uint64{5, 1, 7}, []uint64{5, 2, 7}, 1, true},
		{"one goes on", []uint64{5, 1}, []uint64{5, 1, 0}, 2, true},
		{"one goes on, and they differ", []uint64{5, 1}, []uint64{6, 1, 0}, 0, true},
		{"one goes on behind the last that differs", []uint64{5, 1}, []uint64{5, 2, 0, 0}, 1, true},
		{"the highest bit", []uint64{0}, []uint64{1 << 63}, 0, true},
		{"the greatest", []uint64{math.MaxUint64}, []uint64{math.MaxUint64}, 1, false},
		{"each other's", []uint64{1, 2}, []uint64{2, 1}, 0, true},
	} {
		for range 2 {
			if at, is := First(c.a, c.b); at != c.at || is != c.is {
				t.Errorf("%s: %v, %v: %d, %v; want %d, %v", c.name, c.a, c.b, at, is, c.at, c.is)
			}
			c.a, c.b = c.b, c.a
		}
	}
}

// H2, Z2: lists that differ at one place or none, in room where what stands behind them differs, or doesn't; nothing is written into them.
func TestFirstDrawn(t *testing.T) {
	r := rand.New(rand.NewSource(33))
	for range 20000 {
		whole := make([]uint64, 1+r.Intn(40))
		for i := range whole {
			whole[i] = uint64(r.Intn(3))
		}
		other := slices.Clone(whole)
		change := r.Intn(len(whole))
		other[change] += 1 << r.Intn(64)
		n, m := r.Intn(len(whole)+1), r.Intn(len(whole)+1)
		if r.Intn(2) == 0 {
			m = n
		}
		want := min(change, n, m)
		differ := n != m || change < n
		wasA, wasB := slices.Clone(whole), slices.Clone(other)
		if at, is := First(whole[:n], other[:m]); at != want || is != differ {
			t.Fatalf("%v, %v: %d, %v; want %d, %v", whole[:n], other[:m], at, is, want, differ)
		}
		if !slices.Equal(whole, wasA) || !slices.Equal(other, wasB) {
			t.Fatalf("%v became %v, %v became %v", wasA, whole, wasB, other)
		}
	}
}

// H2, Z2: a list, and the same one again.
func TestFirstOfItself(t *testing.T) {
	l := []uint64{3, 1, 4, 1, 5}
	for n := range len(l) + 1 {
		if at, is := First(l[:n], l[:n]); at != n || is {
			t.Errorf("%v: %d, %v", l[:n], at, is)
		}
		if at, is := First(l[:n], l); at != n || is != (n < len(l)) {
			t.Errorf("%v, %v: %d, %v", l[:n], l, at, is)
		}
	}
}
