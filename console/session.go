package console

import (
	"strconv"

	"ferryman/api"
	"ferryman/elder"
	"ferryman/ferry"
	"ferryman/newer"
	"ferryman/snap"
	"ferryman/view"
)

// session: a tape that is made line by line.
type session struct {
	tape api.Tape
	cmds []api.Cmd // of the tick that goes on: the tape does not have it yet
}

// done is told of a line that changes the tape.
const done = "ok"

func (s *session) answer(line string) string {
	command, numbers, ok := parse(line)
	if !ok {
		return errorText(api.ErrText)
	}
	text, err := s.do(command, numbers)
	if err != nil {
		return errorText(err)
	}
	return text
}

// do a command, which has just as many numbers as it should.
func (s *session) do(command string, n []int) (string, error) {
	switch command {
	case "gold":
		return s.gold(n[0], n[1])
	case "ent":
		return s.ent(api.Ent{Owner: n[0], Kind: n[1], X: n[2], Y: n[3], HP: n[4]})
	case "cmd":
		s.cmds = append(s.cmds, api.Cmd{Player: n[0], Op: n[1], ID: n[2], Kind: n[3], X: n[4], Y: n[5], Target: n[6]})
		return done, nil
	case "tick":
		s.tape.Ticks = append(s.tape.Ticks, s.cmds)
		s.cmds = nil
		return done, nil
	case "show":
		return s.show(n[0])
	case "carry":
		return s.carry(n[0])
	case "cross":
		return s.cross(n[0], n[1])
	case "bytes":
		return s.bytes()
	}
	return "", api.ErrText
}

// gold: how much it may be is not asked here, but by those who play the tape.
func (s *session) gold(player, amount int) (string, error) {
	if player >= api.Players {
		return "", api.ErrBound
	}
	s.tape.Start.Gold[player] = amount
	return done, nil
}

func (s *session) ent(e api.Ent) (string, error) {
	start := &s.tape.Start
	e.ID = start.Next
	start.Next++
	start.Ents = append(start.Ents, e)
	return done, nil
}

func (s *session) show(ticks int) (string, error) {
	state, err := elder.Play(s.tape, ticks)
	if err != nil {
		return "", err
	}
	v, err := view.Elder(state)
	if err != nil {
		return "", err
	}
	return viewText(v), nil
}

// carry: that it does not fit is told with the tick, so that it is an answer of its own.
func (s *session) carry(from int) (string, error) {
	reel, tick, err := ferry.Translate(s.tape, from)
	if err == api.ErrCompat {
		return errorText(err) + " at " + strconv.Itoa(tick), nil
	}
	if err != nil {
		return "", err
	}
	orders := 0
	for _, l := range reel.Ticks {
		orders += len(l)
	}
	return spaced(len(reel.Ticks), orders), nil
}

func (s *session) cross(from, ticks int) (string, error) {
	reel, _, err := ferry.Translate(s.tape, from)
	if err != nil {
		return "", err
	}
	state, err := newer.Play(reel, ticks)
	if err != nil {
		return "", err
	}
	v, err := view.Newer(state)
	if err != nil {
		return "", err
	}
	return viewText(v), nil
}

func (s *session) bytes() (string, error) {
	b, err := snap.TapeBytes(s.tape)
	if err != nil {
		return "", err
	}
	return strconv.Itoa(len(b)), nil
}
