package snap

import (
	"ferryman/api"
	"ferryman/wire"
)

// enough bytes for Take to tell a number, or what is wrong with it.
const enough = 10

// reader of a body, number by number. The first error stays, and all numbers behind it are 0.
type reader struct {
	rest string
	err  error
}

// num: Take is shown no more than it may need, for it copies what stands behind a number.
func (r *reader) num() int {
	if r.err != nil {
		return 0
	}
	shown := r.rest[:min(enough, len(r.rest))]
	n, behind, err := wire.Take(shown)
	r.rest, r.err = r.rest[len(shown)-len(behind):], err
	return n
}

// count: how many there are; none, if they are more than there may be.
func (r *reader) count(most int) int {
	n := r.num()
	if n > most {
		r.err = api.ErrMany
		return 0
	}
	return n
}

// end: the first error, or that something stands behind.
func (r *reader) end() error {
	if r.err == nil && r.rest != "" {
		return api.ErrForm
	}
	return r.err
}

func readElder(r *reader) api.Elder {
	var s api.Elder
	s.Tick, s.Gold, s.Next = readHead(r)
	for range r.count(api.MaxID) {
		s.Free = append(s.Free, r.num())
	}
	for range r.count(api.MaxEnts) {
		s.Ents = append(s.Ents, readEnt(r))
	}
	return s
}

func readNewer(r *reader) api.Newer {
	var s api.Newer
	s.Tick, s.Gold, s.Next = readHead(r)
	for range r.count(api.MaxEnts) {
		s.Units = append(s.Units, readUnit(r))
	}
	return s
}

// readHead: a state's tick, gold and next ID.
func readHead(r *reader) (int, [api.Players]int, int) {
	tick := r.num()
	var gold [api.Players]int
	for i := range api.Players {
		gold[i] = r.num()
	}
	return tick, gold, r.num()
}

func readEnt(r *reader) api.Ent {
	return api.Ent{
		ID: r.num(), Owner: r.num(), Kind: r.num(), X: r.num(), Y: r.num(), HP: r.num(),
		Does: r.num(), GX: r.num(), GY: r.num(), Target: r.num(),
	}
}

func readUnit(r *reader) api.Unit {
	return api.Unit{
		ID: r.num(), Owner: r.num(), Kind: r.num(), X: r.num(), Y: r.num(), HP: r.num(),
		Does: r.num(), GX: r.num(), GY: r.num(), Target: r.num(), Since: r.num(),
	}
}

func readTape(r *reader) api.Tape {
	var t api.Tape
	t.Start = readElder(r)
	t.Ticks = readTicks(r, readCmd)
	return t
}

func readReel(r *reader) api.Reel {
	var t api.Reel
	t.Start = readNewer(r)
	t.Ticks = readTicks(r, readOrder)
	return t
}

func readTicks[C any](r *reader, read func(*reader) C) [][]C {
	var ticks [][]C
	for range r.count(api.MaxTicks) {
		var l []C
		for range r.count(api.MaxCmds) {
			l = append(l, read(r))
		}
		ticks = append(ticks, l)
	}
	return ticks
}

func readCmd(r *reader) api.Cmd {
	return api.Cmd{
		Player: r.num(), Op: r.num(), ID: r.num(), Kind: r.num(), X: r.num(), Y: r.num(), Target: r.num(),
	}
}

func readOrder(r *reader) api.Order {
	return api.Order{
		Player: r.num(), Verb: r.num(), ID: r.num(), Arg: r.num(), X: r.num(), Y: r.num(),
	}
}
