package snap

import (
	"strings"

	"ferryman/api"
	"ferryman/wire"
)

// writer of a body, number by number.
type writer struct {
	body strings.Builder
}

// put numbers. What is written was checked: none of them is below 0, so that Num has no error to tell.
func (w *writer) put(l ...int) {
	for _, n := range l {
		b, _ := wire.Num(n)
		w.body.WriteString(b)
	}
}

func writeElder(w *writer, s api.Elder) {
	w.put(s.Tick, s.Gold[0], s.Gold[1], s.Next)
	w.put(len(s.Free))
	w.put(s.Free...)
	w.put(len(s.Ents))
	for _, e := range s.Ents {
		w.put(e.ID, e.Owner, e.Kind, e.X, e.Y, e.HP, e.Does, e.GX, e.GY, e.Target)
	}
}

func writeNewer(w *writer, s api.Newer) {
	w.put(s.Tick, s.Gold[0], s.Gold[1], s.Next)
	w.put(len(s.Units))
	for _, u := range s.Units {
		w.put(u.ID, u.Owner, u.Kind, u.X, u.Y, u.HP, u.Does, u.GX, u.GY, u.Target, u.Since)
	}
}

func writeTape(w *writer, t api.Tape) {
	writeElder(w, t.Start)
	writeTicks(w, t.Ticks, cmdNumbers)
}

func writeReel(w *writer, t api.Reel) {
	writeNewer(w, t.Start)
	writeTicks(w, t.Ticks, orderNumbers)
}

func writeTicks[C any](w *writer, ticks [][]C, numbers func(C) []int) {
	w.put(len(ticks))
	for _, l := range ticks {
		w.put(len(l))
		for _, c := range l {
			w.put(numbers(c)...)
		}
	}
}
