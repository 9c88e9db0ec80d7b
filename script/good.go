package script

import (
	"slices"

	"lighter/world"
)

// The bounds of what a step has.
const (
	noFuse    = -1
	mostN     = 65535
	mostFate  = 3
	mostFates = 64
	mostText  = 512
)

// Good: has a step a line?
func Good(s world.Step) bool {
	switch s.Kind {
	case world.Tick, world.Inject, world.Round:
		if s.Way != 0 {
			return false
		}
		fallthrough // but for the way, they have what all others have
	case world.Deliver, world.Lose, world.Twice, world.Turn, world.Spoil, world.Crash, world.Fuse:
		return goodWay(s.Way) && goodN(s.Kind, s.N) &&
			(s.Bits == 0 || s.Kind == world.Spoil) &&
			goodFates(s.Kind, s.Fates) && goodText(s.Kind, s.Text)
	}
	return false
}

func goodWay(way int) bool { return way >= 0 && way < len(ways) }

// goodN of a kind: just two of them have one.
func goodN(kind, n int) bool {
	switch kind {
	case world.Spoil:
		return n >= 0 && n <= mostN
	case world.Fuse:
		return n >= noFuse && n <= mostN
	}
	return n == 0
}

func goodFates(kind int, fates []int) bool {
	if kind != world.Crash {
		return len(fates) == 0
	}
	return len(fates) <= mostFates && !slices.ContainsFunc(fates, func(fate int) bool {
		return fate < 0 || fate > mostFate
	})
}

func goodText(kind int, text string) bool {
	if kind != world.Inject {
		return text == ""
	}
	return len(text) <= mostText
}
