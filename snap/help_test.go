package snap

import (
	"encoding/binary"
	"fmt"
	"hash/crc32"
	"math"
	"math/rand"
	"slices"

	"ferryman/api"
	"ferryman/elder"
)

// camp: a state of the elder game with all doings and kinds, and numbers of two bytes.
func camp() api.Elder {
	free := []int{}
	for id := 7; id < 150; id++ {
		free = append(free, id)
	}
	slices.Reverse(free)
	return api.Elder{
		Tick: 9, Gold: [2]int{3, 40}, Next: 151, Free: free,
		Ents: []api.Ent{
			{ID: 1, Owner: 0, Kind: api.Worker, X: 11, Y: 5, HP: 4, Does: api.Mines, Target: 2},
			{ID: 2, Owner: 2, Kind: api.Mine, X: 2, Y: 2, HP: 100},
			{ID: 3, Owner: 1, Kind: api.Tower, X: 10, Y: 2, HP: 20, Does: api.Fights, Target: 150},
			{ID: 4, Owner: 0, Kind: api.Mule, X: 9, Y: 5, HP: 6, Does: api.Going, GX: 11, GY: 3},
			{ID: 5, Owner: 1, Kind: api.Soldier, X: 10, Y: 5, HP: 1, Does: api.Going},
			{ID: 6, Owner: 1, Kind: api.Soldier, X: 2, Y: 10, HP: 8, Does: api.Fights, Target: 1},
			{ID: 150, Owner: 0, Kind: api.Worker, X: 0, Y: 0, HP: 5},
		},
	}
}

// newerCamp: a state of the newer game, likewise.
func newerCamp() api.Newer {
	return api.Newer{
		Tick: 9, Gold: [2]int{1000, 41}, Next: 2001,
		Units: []api.Unit{
			{ID: 7, Owner: 0, Kind: api.Worker, X: 11, Y: 5, HP: 4, Does: api.Mines, Target: 127},
			{ID: 127, Owner: 2, Kind: api.Mine, X: 2, Y: 2, HP: 100, Since: 9},
			{ID: 128, Owner: 1, Kind: api.Tower, X: 10, Y: 2, HP: 20, Does: api.Fights, Target: 2000, Since: 3},
			{ID: 300, Owner: 1, Kind: api.Soldier, X: 10, Y: 5, HP: 1, Does: api.Going, GX: 11, GY: 3, Since: 1},
			{ID: 2000, Owner: 0, Kind: api.Worker, X: 0, Y: 0, HP: 5, Since: 8},
		},
	}
}

// session: the document's example, ahead of its line 'bytes'.
func session() api.Tape {
	return api.Tape{
		Start: api.Elder{Gold: [2]int{12, 0}, Next: 5, Ents: []api.Ent{
			{ID: 1, Owner: 0, Kind: api.Worker, X: 3, Y: 3, HP: 5},
			{ID: 2, Owner: 2, Kind: api.Mine, X: 6, Y: 3, HP: 9},
			{ID: 3, Owner: 1, Kind: api.Soldier, X: 8, Y: 5, HP: 8},
			{ID: 4, Owner: 0, Kind: api.Soldier, X: 2, Y: 2, HP: 8},
		}},
		Ticks: [][]api.Cmd{
			{
				{Player: 0, Op: api.CmdMine, ID: 1, Target: 2},
				{Player: 1, Op: api.CmdMove, ID: 3, X: 6, Y: 5},
				{Player: 0, Op: api.CmdBuild, ID: 1, Kind: api.Worker, X: 3, Y: 4},
			},
			{
				{Player: 1, Op: api.CmdAttack, ID: 3, Target: 1},
				{Player: 0, Op: api.CmdAttack, ID: 4, Target: 3},
			},
			nil, {}, nil, nil,
		},
	}
}

// campTape: camp, and commands of any numbers.
func campTape() api.Tape {
	return api.Tape{Start: camp(), Ticks: [][]api.Cmd{
		{{Player: 1, Op: 2, ID: 3, Kind: 4, X: 5, Y: 6, Target: 7}},
		nil,
		{{}, {Player: math.MaxInt, Op: 128, ID: 16384, Kind: 127, X: 300, Y: 1 << 40, Target: math.MaxInt - 1}},
	}}
}

// campReel: newerCamp, and orders of any numbers.
func campReel() api.Reel {
	return api.Reel{Start: newerCamp(), Ticks: [][]api.Order{
		nil,
		{{Player: 1, Verb: 2, ID: 3, Arg: 4, X: 5, Y: 6}, {}},
		{{Player: math.MaxInt, Verb: 128, ID: 16384, Arg: 127, X: 300, Y: 1 << 40}},
	}}
}

// body of numbers, by the library's own way of writing them.
func body(l []int) string {
	var b []byte
	for _, n := range l {
		b = binary.AppendUvarint(b, uint64(n))
	}
	return string(b)
}

// framed: a body in its frame, by the library's own sum.
func framed(kind byte, body string) string {
	s := []byte("FY1" + string(kind) + body)
	return string(binary.LittleEndian.AppendUint32(s, crc32.ChecksumIEEE(s)))
}

// elderList: the numbers of a state, in the document's order.
func elderList(s api.Elder) []int {
	l := []int{s.Tick, s.Gold[0], s.Gold[1], s.Next, len(s.Free)}
	l = append(l, s.Free...)
	l = append(l, len(s.Ents))
	for _, e := range s.Ents {
		l = append(l, e.ID, e.Owner, e.Kind, e.X, e.Y, e.HP, e.Does, e.GX, e.GY, e.Target)
	}
	return l
}

func newerList(s api.Newer) []int {
	l := []int{s.Tick, s.Gold[0], s.Gold[1], s.Next, len(s.Units)}
	for _, u := range s.Units {
		l = append(l, u.ID, u.Owner, u.Kind, u.X, u.Y, u.HP, u.Does, u.GX, u.GY, u.Target, u.Since)
	}
	return l
}

func tapeList(t api.Tape) []int {
	l := append(elderList(t.Start), len(t.Ticks))
	for _, tick := range t.Ticks {
		l = append(l, len(tick))
		for _, c := range tick {
			l = append(l, c.Player, c.Op, c.ID, c.Kind, c.X, c.Y, c.Target)
		}
	}
	return l
}

func reelList(t api.Reel) []int {
	l := append(newerList(t.Start), len(t.Ticks))
	for _, tick := range t.Ticks {
		l = append(l, len(tick))
		for _, o := range tick {
			l = append(l, o.Player, o.Verb, o.ID, o.Arg, o.X, o.Y)
		}
	}
	return l
}

// face: what the package does with one of its four kinds, told as texts (a nil list and an empty one are told alike).
type face struct {
	name string
	kind byte
	zero string
	of   func(b string) (told, again string, err error)
}

// reading: what was read, and its bytes.
func reading[T any](of func(string) (T, error), bytes func(T) (string, error)) func(string) (string, string, error) {
	return func(b string) (string, string, error) {
		v, err := of(b)
		again, _ := bytes(v)
		return fmt.Sprint(v), again, err
	}
}

func faces() []face {
	return []face{
		{name: "ElderOf", kind: 'E', zero: fmt.Sprint(api.Elder{}), of: reading(ElderOf, ElderBytes)},
		{name: "NewerOf", kind: 'N', zero: fmt.Sprint(api.Newer{}), of: reading(NewerOf, NewerBytes)},
		{name: "TapeOf", kind: 'T', zero: fmt.Sprint(api.Tape{}), of: reading(TapeOf, TapeBytes)},
		{name: "ReelOf", kind: 'R', zero: fmt.Sprint(api.Reel{}), of: reading(ReelOf, ReelBytes)},
	}
}

// drawn: a state that is right, with one doing or another; without mules, so that both games have it.
func drawn(r *rand.Rand) api.Elder {
	most := []int{0, 5, 8, 20, 100}
	s := api.Elder{Tick: 20 + r.Intn(41), Gold: [2]int{r.Intn(41), r.Intn(41)}, Next: 1}
	for _, p := range r.Perm(144)[:r.Intn(21)] {
		for ; r.Intn(5) > 2 && s.Next < 170; s.Next++ {
			s.Free = append(s.Free, s.Next)
		}
		e := api.Ent{ID: s.Next, Owner: r.Intn(2), Kind: 1 + r.Intn(4), X: p % 12, Y: p / 12}
		if e.Kind == api.Mine {
			e.Owner = api.Nobody
		}
		e.HP = 1 + r.Intn(most[e.Kind])
		s.Ents = append(s.Ents, e)
		s.Next++
	}
	r.Shuffle(len(s.Free), func(i, j int) { s.Free[i], s.Free[j] = s.Free[j], s.Free[i] })
	for i := range s.Ents {
		was := s.Ents[i]
		e := &s.Ents[i]
		e.Does = r.Intn(4)
		if e.Does == api.Going {
			e.GX, e.GY = r.Intn(12), r.Intn(12)
		} else if e.Does != api.Idle {
			e.Target = s.Ents[r.Intn(len(s.Ents))].ID
		}
		if elder.Check(s) != nil {
			*e = was
		}
	}
	return s
}

// drawnNewer: a state of the newer game in which the same is done, with IDs further apart.
func drawnNewer(r *rand.Rand) api.Newer {
	e := drawn(r)
	apart := 1 + r.Intn(9)
	s := api.Newer{Tick: e.Tick, Gold: [2]int{r.Intn(1001), r.Intn(1001)}, Next: apart*200 + 1}
	for _, o := range e.Ents {
		s.Units = append(s.Units, api.Unit{ID: o.ID * apart, Owner: o.Owner, Kind: o.Kind, X: o.X, Y: o.Y, HP: o.HP,
			Does: o.Does, GX: o.GX, GY: o.GY, Target: o.Target * apart, Since: r.Intn(s.Tick + 1)})
	}
	return s
}

// drawnNumber: of any size, not below 0.
func drawnNumber(r *rand.Rand) int {
	return int(r.Uint64() >> (1 + r.Intn(63)))
}

func drawnTape(r *rand.Rand) api.Tape {
	t := api.Tape{Start: drawn(r)}
	for range r.Intn(api.MaxTicks - t.Start.Tick + 1) {
		var l []api.Cmd
		for range r.Intn(api.MaxCmds + 1) {
			l = append(l, api.Cmd{Player: drawnNumber(r), Op: drawnNumber(r), ID: drawnNumber(r), Kind: drawnNumber(r),
				X: drawnNumber(r), Y: drawnNumber(r), Target: drawnNumber(r)})
		}
		t.Ticks = append(t.Ticks, l)
	}
	return t
}

func drawnReel(r *rand.Rand) api.Reel {
	t := api.Reel{Start: drawnNewer(r)}
	for range r.Intn(api.MaxTicks - t.Start.Tick + 1) {
		var l []api.Order
		for range r.Intn(api.MaxCmds + 1) {
			l = append(l, api.Order{Player: drawnNumber(r), Verb: drawnNumber(r), ID: drawnNumber(r), Arg: drawnNumber(r),
				X: drawnNumber(r), Y: drawnNumber(r)})
		}
		t.Ticks = append(t.Ticks, l)
	}
	return t
}
