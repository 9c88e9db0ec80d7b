package world

import "lighter/link"

// The kinds of steps.
const (
	Tick = 1 + iota
	Deliver
	Lose
	Twice
	Turn
	Spoil
	Crash
	Fuse
	Inject
	Round
)

// Step of a world.
type Step struct {
	Kind, Way, N int
	Bits         uint32
	Fates        []int
	Text         string
}

// Do a step.
func (w *World) Do(s Step) bool {
	if w == nil || !isWay(s.Way) {
		return false
	}
	switch s.Kind {
	case Tick:
		return w.tick()
	case Deliver:
		return w.deliver(s.Way)
	case Lose:
		_, ok := w.link.Take(s.Way)
		return ok
	case Twice:
		return w.link.Twice(s.Way)
	case Turn:
		return w.link.Turn(s.Way)
	case Spoil:
		return w.link.Spoil(s.Way, s.N, s.Bits)
	case Crash:
		return w.crash(s.Way, s.Fates)
	case Fuse:
		return w.fuse(s.Way, s.N)
	case Inject:
		return w.link.Put(link.There, s.Text)
	case Round:
		return w.round()
	}
	return false
}

// tick of the sender: what it sends is put on its way.
func (w *World) tick() bool {
	if !w.On(link.There) {
		return false
	}
	w.put(link.There, w.sender.Tick())
	return true
}

// put texts on a way: those for which there is no room are lost.
func (w *World) put(way int, texts []string) {
	for _, text := range texts {
		w.link.Put(way, text)
	}
}

// deliver what comes first on a way: a side that is off takes nothing, and it is gone.
func (w *World) deliver(way int) bool {
	text, ok := w.link.Take(way)
	switch {
	case !ok:
		return false
	case way == link.Back:
		if w.On(link.There) {
			w.sender.Take(text)
		}
	case w.On(link.Back):
		answers, _ := w.taker.Take(text) // an error leaves it off, which its disk tells
		w.put(link.Back, answers)
	}
	return true
}

// crash a side: its power fails, where it is on, and it is made anew.
func (w *World) crash(side int, fates []int) bool {
	w.disks[side].Crash(fates)
	w.start(side) // no error: the fuse is gone, and of what lasts the side was made before
	return true
}

// fuse of a side's disk.
func (w *World) fuse(side, n int) bool {
	if !w.On(side) {
		return false
	}
	w.disks[side].Fuse(n)
	return true
}

// round in which nothing fails but what has a fuse.
func (w *World) round() bool {
	for side := range w.disks {
		if !w.On(side) {
			w.crash(side, nil)
		}
	}
	w.flow()
	w.tick()
	w.flow()
	return true
}

// flow of what is on its way, first all that is There, then all that is Back, as long as there is something.
func (w *World) flow() {
flowing:
	for {
		switch {
		case w.deliver(link.There):
		case w.deliver(link.Back):
		default:
			break flowing
		}
	}
}
