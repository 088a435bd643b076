package view

import (
	"math"
	"math/big"
	"math/rand"
	"slices"
	"testing"

	"ferryman/api"
)

func copied(v api.View) api.View {
	v.All = slices.Clone(v.All)
	return v
}

// fields of one, in the document's order.
func fields(o *api.Seen) []*int {
	return []*int{&o.X, &o.Y, &o.Owner, &o.Kind, &o.HP, &o.Does, &o.GX, &o.GY, &o.TX, &o.TY}
}

// edits: each of them changes one thing alone.
func edits(v *api.View) []*int {
	l := []*int{&v.Tick, &v.Gold[0], &v.Gold[1]}
	for i := range v.All {
		l = append(l, fields(&v.All[i])...)
	}
	return l
}

// E1, E2: views that differ in one thing alone are not the same, nor are their marks.
func TestOneThing(t *testing.T) {
	want := campSeen()
	if v := campSeen(); !Same(v, want) || !Same(want, v) || Mark(v) != Mark(want) {
		t.Errorf("%v is not the same as itself", v)
	}
	v := campSeen()
	for i, p := range edits(&v) {
		for _, by := range []int{1, -1, 256, math.MinInt} {
			was := *p
			*p += by
			if Same(v, want) || Same(want, v) || Mark(v) == Mark(want) {
				t.Errorf("number %d, by %d: %v is taken for %v", i, by, v, want)
			}
			*p = was
		}
	}
}

// E1: views that differ in who is there, or in the order.
func TestSameAll(t *testing.T) {
	one := api.Seen{X: 3, Y: 4, Kind: 1, HP: 5, TX: -1, TY: -1}
	other := api.Seen{X: 4, Y: 4, Kind: 1, HP: 5, TX: -1, TY: -1}
	for _, c := range []struct {
		name string
		a, b []api.Seen
		want bool
	}{
		{"nobody", nil, nil, true},
		{"an empty list", nil, []api.Seen{}, true},
		{"one", []api.Seen{one}, []api.Seen{one}, true},
		{"more room", []api.Seen{one}, append(make([]api.Seen, 0, 9), one), true},
		{"nobody and one", nil, []api.Seen{one}, false},
		{"nobody and one of noughts", []api.Seen{}, []api.Seen{{}}, false},
		{"the first alone", []api.Seen{one, other}, []api.Seen{one}, false},
		{"the second alone", []api.Seen{one, other}, []api.Seen{other}, false},
		{"twice", []api.Seen{one}, []api.Seen{one, one}, false},
		{"the other way round", []api.Seen{one, other}, []api.Seen{other, one}, false},
		{"both", []api.Seen{one, other}, []api.Seen{one, other}, true},
	} {
		a, b := api.View{Tick: 2, All: c.a}, api.View{Tick: 2, All: c.b}
		if Same(a, b) != c.want || Same(b, a) != c.want {
			t.Errorf("%s: %v, %v; want %v", c.name, Same(a, b), Same(b, a), c.want)
		}
		if (Mark(a) == Mark(b)) != c.want {
			t.Errorf("%s: marks %d, %d", c.name, Mark(a), Mark(b))
		}
	}
	if Same(api.View{Gold: [2]int{1, 2}}, api.View{Gold: [2]int{2, 1}}) {
		t.Errorf("the gold of the first one is taken for that of the second")
	}
}

// slowMark: the same number by numbers of any length.
func slowMark(v api.View) uint64 {
	v = copied(v)
	l := []int{v.Tick, v.Gold[0], v.Gold[1], len(v.All)}
	for i := range v.All {
		for _, p := range fields(&v.All[i]) {
			l = append(l, *p)
		}
	}
	all := new(big.Int).Lsh(big.NewInt(1), 64)
	h, _ := new(big.Int).SetString("14695981039346656037", 10)
	for _, n := range l {
		b := new(big.Int).Mod(big.NewInt(int64(n)), all)
		h.Xor(h, b).Mul(h, big.NewInt(1099511628211)).Mod(h, all)
	}
	return h.Uint64()
}

// E2: the document's example, and others written out.
func TestMark(t *testing.T) {
	s := api.Elder{Next: 2, Ents: []api.Ent{{ID: 1, Kind: api.Worker, X: 3, Y: 4, HP: 5}}}
	n := api.Newer{Next: 9, Units: []api.Unit{{ID: 8, Kind: api.Worker, X: 3, Y: 4, HP: 5}}}
	a, err := Elder(s)
	b, err2 := Newer(n)
	if err != nil || err2 != nil || Mark(a) != 2008328099108985997 || Mark(b) != 2008328099108985997 {
		t.Errorf("the document's example: %d, %v, %d, %v; want 2008328099108985997", Mark(a), err, Mark(b), err2)
	}
	for name, v := range map[string]api.View{
		"nobody":     {},
		"empty":      {All: []api.Seen{}},
		"a nought":   {All: []api.Seen{{}}},
		"camp":       campSeen(),
		"newer camp": newerCampSeen(),
		"below 0":    {Tick: -1, Gold: [2]int{-2, math.MinInt}, All: []api.Seen{{X: -1, TY: math.MinInt}}},
		"far":        {Tick: math.MaxInt, Gold: [2]int{math.MaxInt, 1 << 32}, All: []api.Seen{{HP: math.MaxInt}}},
		"many":       {All: make([]api.Seen, 1000)},
	} {
		if got := Mark(v); got != slowMark(v) {
			t.Errorf("%s: %d; want %d", name, got, slowMark(v))
		}
	}
}

// drawnView: of any numbers, as no state has them.
func drawnView(r *rand.Rand) api.View {
	v := api.View{All: make([]api.Seen, r.Intn(30))}
	for _, p := range edits(&v) {
		*p = wild(r)
		if r.Intn(2) == 0 {
			*p = int(r.Uint64())
		}
	}
	return v
}

// E1, E2, Z1, Z2: any numbers, as 64 bits; neither call panics, or changes what it was given.
func TestWildViews(t *testing.T) {
	r := rand.New(rand.NewSource(9))
	for range 3000 {
		v := drawnView(r)
		was := copied(v)
		if got := Mark(v); got != slowMark(v) || got != Mark(was) {
			t.Fatalf("%v: %d; want %d", v, got, slowMark(v))
		}
		if !Same(v, was) || !alike(v, was) {
			t.Fatalf("%v; was %v", v, was)
		}
		other := drawnView(r)
		if Same(v, other) != alike(v, other) {
			t.Fatalf("%v, %v: %v", v, other, Same(v, other))
		}
		l := edits(&v)
		p := l[r.Intn(len(l))]
		*p ^= 1 << r.Intn(64)
		if Same(v, was) || Same(was, v) {
			t.Fatalf("%v is taken for %v", v, was)
		}
	}
}

// Z2: what stands behind a list is not read.
func TestBehind(t *testing.T) {
	v := campSeen()
	short := copied(v)
	short.All = short.All[:3]
	cut := copied(v)
	cut.All = slices.Clone(cut.All[:3])
	if !Same(short, cut) || Mark(short) != Mark(cut) || Same(short, v) {
		t.Errorf("%v, %v: marks %d, %d", short, cut, Mark(short), Mark(cut))
	}
}
