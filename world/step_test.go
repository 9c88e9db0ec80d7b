package world_test

import (
	"math"
	"strings"
	"testing"

	"lighter/api"
	"lighter/dgram"
	"lighter/world"
)

// The steps that have nothing but a kind and a way.
var (
	tick         = world.Step{Kind: world.Tick}
	deliverThere = world.Step{Kind: world.Deliver, Way: there}
	deliverBack  = world.Step{Kind: world.Deliver, Way: back}
	crashThere   = world.Step{Kind: world.Crash, Way: there}
	crashBack    = world.Step{Kind: world.Crash, Way: back}
	fuseBack     = world.Step{Kind: world.Fuse, Way: back} // it burns at once
)

// P29.1: step by step up to the committed archive.
func TestStepByStep(t *testing.T) {
	p := planOf(4, filesOf(300)...)
	segments := segmentsOf(t, p)
	if len(segments) != 3 {
		t.Fatal(len(segments))
	}
	all := strings.Join(segments, "")
	w := newWorld(t, p)
	do(t, w, tick) // a Hello
	expect(t, w, open(1, "", 0))
	doNot(t, w, deliverBack)
	do(t, w, deliverThere) // it is answered
	expect(t, w, open(1, "", 0))
	doNot(t, w, deliverThere)
	do(t, w, deliverBack)
	expect(t, w, open(2, "", 0))
	doNot(t, w, deliverThere, deliverBack)
	do(t, w, tick, // all segments: the first one comes last
		world.Step{Kind: world.Turn, Way: there}, deliverThere)
	expect(t, w, open(2, "", 0)) // not in step: a welcome
	do(t, w, world.Step{Kind: world.Lose, Way: there}, deliverThere)
	expect(t, w, open(2, segments[0], 0))
	do(t, w, deliverBack, deliverBack) // the welcome, the ack
	doNot(t, w, deliverThere, deliverBack)
	do(t, w, tick, world.Step{Kind: world.Turn, Way: there}, deliverThere)
	expect(t, w, open(2, segments[0], len(segments[2])))
	do(t, w, deliverThere)
	expect(t, w, stand{phase: 2, staged: all, committed: all, done: true, on: [2]bool{true, true}})
	do(t, w, deliverBack, deliverBack)
	expect(t, w, stand{phase: 3, staged: all, committed: all, done: true, on: [2]bool{true, true}})
	do(t, w, tick) // one, though nothing is sent
	doNot(t, w, deliverThere, deliverBack)
}

// P29.1: what has no kind, or no way, is no step.
func TestNoSteps(t *testing.T) {
	w := newWorld(t, planOf(4, filesOf(300)...))
	do(t, w, tick, deliverThere, tick) // something is on both ways
	for _, kind := range []int{math.MinInt, -1, 0, 11, 12, 257, math.MaxInt} {
		for way := range 2 {
			doNot(t, w, world.Step{Kind: kind, Way: way, Text: "a"})
		}
	}
	for kind := world.Tick; kind <= world.Round; kind++ {
		for _, way := range []int{math.MinInt, -1, 2, 256, 1 << 32, math.MaxInt} {
			doNot(t, w, world.Step{Kind: kind, Way: way, Text: "a"})
		}
	}
	do(t, w, deliverBack)
	expect(t, w, open(2, "", 0)) // the Welcome was there still
}

// P29.1: on ways on which there is nothing.
func TestNothingOnWays(t *testing.T) {
	w := newWorld(t, planOf(4, filesOf(300)...))
	for kind := world.Deliver; kind <= world.Spoil; kind++ {
		for way := range 2 {
			doNot(t, w, world.Step{Kind: kind, Way: way, Bits: 1})
		}
	}
	do(t, w, tick)
	for kind := world.Deliver; kind <= world.Spoil; kind++ {
		doNot(t, w, world.Step{Kind: kind, Way: back, Bits: 1})
	}
	do(t, w, deliverThere)
	for kind := world.Deliver; kind <= world.Spoil; kind++ {
		doNot(t, w, world.Step{Kind: kind, Way: there, Bits: 1})
	}
}

// fill a way with what comes first on it; how many there were room for?
func fill(t *testing.T, w *world.World, way int) int {
	t.Helper()
	n := 0
	for w.Do(world.Step{Kind: world.Twice, Way: way}) {
		n++
	}
	doNot(t, w, world.Step{Kind: world.Twice, Way: way})
	return n
}

// P29.1: what there is no room for.
func TestFullWays(t *testing.T) {
	w := newWorld(t, planOf(4, filesOf(300)...))
	for n := range queue {
		do(t, w, world.Step{Kind: world.Inject, Way: n % 2, Text: strings.Repeat("a", n)}) // There, whatever Way is
	}
	doNot(t, w, world.Step{Kind: world.Inject, Text: "a"}, world.Step{Kind: world.Inject},
		world.Step{Kind: world.Inject, Way: back, Text: "a"}, world.Step{Kind: world.Twice, Way: there})
	do(t, w, tick) // the Hello is lost
	for range queue {
		do(t, w, deliverThere)
	}
	doNot(t, w, deliverThere, deliverBack)
	do(t, w, tick) // another Hello
	if n := fill(t, w, there); n != queue-1 {
		t.Error(n)
	}
	for range queue {
		do(t, w, deliverThere)
	}
	doNot(t, w, deliverThere, world.Step{Kind: world.Twice, Way: back})
	do(t, w, tick, tick) // a third Hello, whose Welcome is lost
	do(t, w, deliverThere)
	for range queue {
		do(t, w, world.Step{Kind: world.Lose, Way: back})
	}
	doNot(t, w, world.Step{Kind: world.Lose, Way: back})
	expect(t, w, open(1, "", 0))
}

// P29.1: what comes twice, or last.
func TestOrder(t *testing.T) {
	p := planOf(4, filesOf(900)...)
	segments := segmentsOf(t, p)
	w := newWorld(t, p)
	do(t, w, round, tick) // four segments
	do(t, w, world.Step{Kind: world.Twice, Way: there}, deliverThere,
		world.Step{Kind: world.Turn, Way: there}, deliverThere, deliverThere)
	expect(t, w, open(2, segments[0], len(segments[2])+len(segments[3])))
	do(t, w, deliverThere) // the first one again
	expect(t, w, open(2, segments[0], len(segments[2])+len(segments[3])))
	do(t, w, deliverThere)
	expect(t, w, open(2, strings.Join(segments[:4], ""), 0))
	doNot(t, w, deliverThere)
}

// P29.1: one that was spoilt can be made good again; by places in its bits.
func TestSpoil(t *testing.T) {
	for _, x := range []struct {
		n    int
		bits uint32
		good bool
	}{
		{0, 0, true}, {0, 1, false}, {303, 1, false}, {304, 1, true}, {272, math.MaxUint32, false}, {303, 2, true},
		{-1, 1, true}, {-1, 2, false}, {-32, math.MaxUint32, true}, {-31, 1 << 31, false},
		{math.MaxInt, math.MaxUint32, true}, {math.MinInt, math.MaxUint32, true}, {100, 0x80000001, false},
	} {
		spoil := world.Step{Kind: world.Spoil, Way: there, N: x.n, Bits: x.bits}
		w := newWorld(t, planOf(1))
		do(t, w, tick, spoil, deliverThere)
		if got := w.Do(deliverBack); got != x.good {
			t.Error(x.n, x.bits, got)
		}
		w = newWorld(t, planOf(1))
		do(t, w, tick, spoil, spoil, deliverThere, deliverBack)
		expect(t, w, open(2, "", 0))
		spoil.Way = back
		w = newWorld(t, planOf(1))
		do(t, w, tick, deliverThere, spoil, deliverBack)
		if got := w.Phase() == 2; got != x.good {
			t.Error(x.n, x.bits, got)
		}
	}
}

// P29.1: a side whose power fails is made anew: the sender greets again, the taker goes on.
func TestCrash(t *testing.T) {
	p := planOf(2, filesOf(900)...)
	segments := segmentsOf(t, p)
	w := newWorld(t, p)
	do(t, w, round, tick, deliverThere, deliverThere)
	staged := segments[0] + segments[1]
	expect(t, w, open(2, staged, 0))
	do(t, w, world.Step{Kind: world.Crash, Way: back, Fates: []int{0, 1, 2, 3, -7}})
	expect(t, w, open(2, staged, 0))
	do(t, w, deliverBack, deliverBack) // they are on their way still
	do(t, w, tick, world.Step{Kind: world.Lose, Way: there}, deliverThere)
	expect(t, w, open(2, staged, 0)) // in no step
	do(t, w, crashThere)
	expect(t, w, open(1, staged, 0))
	doNot(t, w, deliverThere)
	do(t, w, deliverBack) // of another epoch
	expect(t, w, open(1, staged, 0))
	do(t, w, round)
	expect(t, w, open(2, staged, 0))
	do(t, w, tick, world.Step{Kind: world.Turn, Way: there}, deliverThere)
	doNot(t, w, world.Step{Kind: world.Crash, Way: 2})
	do(t, w, crashBack, deliverThere)
	expect(t, w, open(2, staged+segments[2], 0))
}

// P29.1: what is held is gone with the power.
func TestCrashDropsHeld(t *testing.T) {
	p := planOf(3, filesOf(900)...)
	segments := segmentsOf(t, p)
	w := newWorld(t, p)
	do(t, w, round, tick, deliverThere, world.Step{Kind: world.Lose, Way: there}, deliverThere)
	expect(t, w, open(2, segments[0], len(segments[2])))
	do(t, w, crashThere)
	expect(t, w, open(1, segments[0], len(segments[2])))
	do(t, w, crashBack)
	expect(t, w, open(1, segments[0], 0))
}

// P29.1: a side that is off takes and tells nothing, and stands as of its last time on.
func TestOff(t *testing.T) {
	p := planOf(3, filesOf(900)...)
	segments := segmentsOf(t, p)
	w := newWorld(t, p)
	do(t, w, round, tick, deliverThere, world.Step{Kind: world.Turn, Way: there}, deliverThere)
	off := open(2, segments[0], len(segments[2]))
	expect(t, w, off)
	do(t, w, fuseBack)
	expect(t, w, off)
	do(t, w, world.Step{Kind: world.Twice, Way: there}, deliverThere) // at the next segment the power fails
	off.on[back] = false
	expect(t, w, off)
	do(t, w, deliverBack, deliverBack) // what was told ahead of that
	doNot(t, w, deliverBack)
	do(t, w, deliverThere) // it is gone
	expect(t, w, off)
	doNot(t, w, deliverBack, deliverThere, fuseBack, world.Step{Kind: world.Fuse, Way: back, N: -1})
	do(t, w, tick, world.Step{Kind: world.Fuse, Way: there, N: 3}) // the sender is on
	do(t, w, crashBack)
	expect(t, w, open(2, segments[0], 0))
	for range 4 {
		do(t, w, round)
	}
	if s, ok := w.Committed(); s != strings.Join(segments, "") || !ok {
		t.Error(len(s), ok)
	}
}

// P29.1: a fuse counts the disk's writes, another one stands in its place, and a crash takes it away.
func TestFuse(t *testing.T) {
	p := planOf(1, filesOf(300)...)
	p.Session = 0 // so that just segments are written
	segments := segmentsOf(t, p)
	writes := len(segments[0]) / api.Sector
	for n := -2; n < 2*writes; n++ {
		w := newWorld(t, p)
		do(t, w, world.Step{Kind: world.Fuse, Way: back, N: 0}, world.Step{Kind: world.Fuse, Way: back, N: n}, round, tick, deliverThere)
		want := open(2, segments[0], 0)
		if n >= 0 && n <= writes+1 { // as many Writes, a Sync, a Write of the log, a Sync
			want.staged = ""
			want.on[back] = false
		}
		expect(t, w, want)
	}
	w := newWorld(t, p)
	do(t, w, fuseBack, world.Step{Kind: world.Fuse, Way: there}, crashBack, crashThere, round, round)
	expect(t, w, open(2, segments[0], 0))
}

// P29.1: where the power fails at the last write, the taker commits when it is made anew.
func TestOffAtCommit(t *testing.T) {
	p := planOf(1)
	p.Session = 0
	all := archiveOf(t, p)
	w := newWorld(t, p)
	do(t, w, round, world.Step{Kind: world.Fuse, Way: back, N: 3}, tick, deliverThere) // the bytes, their note, the commit's
	expect(t, w, stand{phase: 2, staged: all, on: [2]bool{true, false}})
	do(t, w, crashBack)
	done := stand{phase: 2, staged: all, committed: all, done: true, on: [2]bool{true, true}}
	expect(t, w, done)
	doNot(t, w, deliverBack)
	do(t, w, round) // the timer waits for one more
	expect(t, w, done)
	do(t, w, round)
	done.phase = 3
	expect(t, w, done)
}

// P29.1: what is put There by hand is taken as what the sender sends; of another session it is no welcome.
func TestInject(t *testing.T) {
	p := planOf(2, filesOf(300)...)
	segments := segmentsOf(t, p)
	d := dgram.Datagram{Kind: dgram.Hello, Session: 9, Epoch: 4}
	w := newWorld(t, p)
	do(t, w, inject(t, d), inject(t, dataOf(segments, 0, d)), inject(t, dataOf(segments, 2, d)))
	do(t, w, deliverThere, deliverThere)
	expect(t, w, open(1, segments[0], 0))
	do(t, w, deliverThere)
	expect(t, w, open(1, segments[0], len(segments[2])))
	do(t, w, round) // the sender's Hello begins its own session
	expect(t, w, open(2, "", 0))
	do(t, w, inject(t, dgram.Datagram{Kind: dgram.Abort, Session: session, Epoch: 1}), deliverThere)
	do(t, w, world.Step{Kind: world.Inject}, world.Step{Kind: world.Inject, Text: strings.Repeat("a", 100000)})
	do(t, w, deliverThere, deliverThere)
	expect(t, w, open(2, "", 0))
	junk := dataOf([]string{"junk"}, 0, dgram.Datagram{Session: session, Epoch: 1})
	do(t, w, inject(t, junk), round)
	expect(t, w, stand{phase: 4, aborted: api.ErrForm, on: [2]bool{true, true}})
	do(t, w, crashBack)
	expect(t, w, open(4, "", 0))
	do(t, w, crashThere, round, round, round)
	if s, ok := w.Committed(); s != strings.Join(segments, "") || !ok {
		t.Error(len(s), ok)
	}
}
