package console

import (
	"strconv"
	"strings"

	"ferryman/api"
)

// greatest number that has no more than six digits.
const greatest = 999999

// counts: how many numbers each command has.
func counts() map[string]int {
	return map[string]int{
		"gold": 2, "ent": 5, "cmd": 7, "tick": 0,
		"show": 1, "carry": 1, "cross": 2, "bytes": 0,
	}
}

// parse a line: its command, and just as many numbers as that has; false: it is none.
func parse(line string) (string, []int, bool) {
	if len(line) > api.MaxLine {
		return "", nil, false
	}
	words := strings.Split(line, " ")
	count, ok := counts()[words[0]]
	if !ok || count != len(words)-1 {
		return "", nil, false
	}
	var numbers []int
	for _, word := range words[1:] {
		n, ok := number(word)
		if !ok {
			return "", nil, false
		}
		numbers = append(numbers, n)
	}
	return words[0], numbers, true
}

// number: a word that would be told otherwise (with a sign, or noughts ahead) is none.
func number(word string) (int, bool) {
	n, err := strconv.Atoi(word)
	if err != nil || n < 0 || n > greatest || strconv.Itoa(n) != word {
		return 0, false
	}
	return n, true
}

// viewText: the gold of both, and all who are seen.
func viewText(v api.View) string {
	parts := []string{spaced(v.Gold[:]...)}
	for _, o := range v.All {
		parts = append(parts, spaced(o.X, o.Y, o.Owner, o.Kind, o.HP, o.Does))
	}
	return strings.Join(parts, ", ")
}

// errorText: every layer's errors are bare ones of package api, so each has a number.
func errorText(err error) string {
	n, _ := err.(api.Errno)
	return "error " + strconv.Itoa(int(n))
}

// spaced: numbers with one blank between.
func spaced(numbers ...int) string {
	var words []string
	for _, n := range numbers {
		words = append(words, strconv.Itoa(n))
	}
	return strings.Join(words, " ")
}
