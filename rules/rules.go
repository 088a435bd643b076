// Package rules: what kinds are like, and how far it is.
package rules

import "ferryman/api"

// Rule of a kind.
type Rule struct{ Cost, HP, Speed, Harm, Range, Load int }

// Elder game's rule of a kind.
func Elder(kind int) (Rule, bool) {
	switch kind {
	case api.Worker:
		return Rule{Cost: 5, HP: 5, Speed: 1, Harm: 1, Range: 1, Load: 1}, true
	case api.Soldier:
		return Rule{Cost: 8, HP: 8, Speed: 1, Harm: 2, Range: 2}, true
	case api.Tower:
		return Rule{Cost: 15, HP: 20, Harm: 3, Range: 3}, true
	case api.Mine:
		return Rule{}, true
	case api.Mule:
		return Rule{Cost: 7, HP: 6, Speed: 1, Range: 1, Load: 2}, true
	}
	return Rule{}, false
}

// Newer game's rule of a kind.
func Newer(kind int) (Rule, bool) {
	if kind == api.Mule {
		return Rule{}, false
	}
	r, ok := Elder(kind)
	if kind == api.Tower {
		r.Range = 4
	}
	return r, ok
}

// On: is it on the board?
func On(x, y int) bool {
	return onLine(x) && onLine(y)
}

// Far: how many steps it is, of places on the board.
func Far(x, y, tx, ty int) int {
	return max(apart(x, tx), apart(y, ty))
}

// Toward: the place one step nearer.
func Toward(x, y, tx, ty int) (int, int) {
	return nearer(x, tx), nearer(y, ty)
}

func onLine(a int) bool {
	return 0 <= a && a < api.Side
}

func apart(a, b int) int {
	return max(a-b, b-a)
}

func nearer(a, b int) int {
	switch {
	case a < b:
		return a + 1
	case a > b:
		return a - 1
	}
	return a
}
