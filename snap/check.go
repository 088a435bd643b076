package snap

import (
	"slices"

	"ferryman/api"
	"ferryman/elder"
	"ferryman/newer"
)

// CheckTape checks a tape.
func CheckTape(t api.Tape) error {
	if err := elder.Check(t.Start); err != nil {
		return err
	}
	return checkTicks(t.Ticks, t.Start.Tick, cmdNumbers)
}

// CheckReel checks a reel.
func CheckReel(t api.Reel) error {
	if err := newer.Check(t.Start); err != nil {
		return err
	}
	return checkTicks(t.Ticks, t.Start.Tick, orderNumbers)
}

// checkTicks: what is commanded from that tick on. All are counted ahead of looking into any.
func checkTicks[C any](ticks [][]C, from int, numbers func(C) []int) error {
	if tooMany(ticks, api.MaxTicks-from) {
		return api.ErrMany
	}
	for _, l := range ticks {
		for _, c := range l {
			if slices.Min(numbers(c)) < 0 {
				return api.ErrBound
			}
		}
	}
	return nil
}

func tooMany[C any](ticks [][]C, left int) bool {
	return len(ticks) > left || slices.ContainsFunc(ticks, func(l []C) bool { return len(l) > api.MaxCmds })
}

func cmdNumbers(c api.Cmd) []int {
	return []int{c.Player, c.Op, c.ID, c.Kind, c.X, c.Y, c.Target}
}

func orderNumbers(o api.Order) []int {
	return []int{o.Player, o.Verb, o.ID, o.Arg, o.X, o.Y}
}
