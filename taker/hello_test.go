package taker_test

import (
	"math"
	"strings"
	"testing"

	"lighter/api"
	"lighter/dgram"
)

// P28.2: a Hello of the state's session, with bytes and without.
func TestHello(t *testing.T) {
	s := strings.Join(segmentsOf(t, filesOf(500)), "")
	for _, size := range []int{0, 1, 256, 500} {
		b := newBench(t, 4, diskWith(t, s[:size], false))
		for range 3 {
			b.take(hello(), welcome(s[:size]))
			b.expect(s[:size], 0, api.OK)
		}
	}
}

// P28.2: a new disk's session is 0, so that one doesn't begin.
func TestSessionNought(t *testing.T) {
	b := newBench(t, 4, newDisk(t, 9))
	lasted := b.d.Image()
	b.take(with(hello(), 0, 9), with(welcome(""), 0, 9))
	if b.d.Image() != lasted {
		t.Error("a session has begun")
	}
	b = newBench(t, 4, newDisk(t, 9))
	b.take(with(dataOf(3, "", "P"), 0, 9), with(ack("P", 4, 0), 0, 9)) // without a Hello
	b.expect("P", 0, api.OK)
}

// P28.2: a Hello of another session: its bytes are gone, and what was heard, and what waits.
func TestNewSession(t *testing.T) {
	segments := segmentsOf(t, filesOf(900))
	for _, epoch := range []uint32{0, epoch - 3, epoch, epoch + 1} { // some ahead of the one that was heard
		l := datasOf(7, segments)
		b := newTaker(t, 4)
		b.take(l[0], ack(segments[0], 8, 0))
		b.take(l[2], ack(segments[0], 8, 1))
		b.expect(segments[0], len(segments[2]), api.OK)
		ahead := openKeep(t, b.d).State()
		other := func(d dgram.Datagram) dgram.Datagram { return with(d, 3, epoch) }
		b.take(other(hello()), other(welcome("")))
		b.expect("", 0, api.OK)
		if state := openKeep(t, b.d).State(); state.Session != 3 || state.Epoch != ahead.Epoch {
			t.Errorf("%+v", state)
		}
		b.take(l[1])                                                   // not of this session any more
		b.take(other(l[1]), other(welcome("")))                        // not in step
		b.take(other(l[0]), other(ack(segments[0], 8, 0)))             // and a parser of which nothing has come
		b.take(other(l[1]), other(ack(segments[0]+segments[1], 9, 0))) // 2 was of the other session
		b.expect(segments[0]+segments[1], 0, api.OK)
		b.take(hello(), welcome(""))
		b.expect("", 0, api.OK)
	}
}

// P28.2: a Hello of an epoch ahead of the one that was heard isn't answered; a later one is heard, and breaks the step.
func TestHelloEpochs(t *testing.T) {
	for _, heard := range []uint32{0, 5, 1 << 31, math.MaxUint32 - 1, math.MaxUint32} {
		for _, gap := range []uint32{0, 1, 2, 1<<31 - 1, 1 << 31, 1<<31 + 1, math.MaxUint32 - 1, math.MaxUint32} {
			segments := segmentsOf(t, filesOf(900))
			l := datasOf(7, segments)
			b := newBench(t, 4, newDisk(t, 100))
			b.take(with(hello(), session, heard), with(welcome(""), session, heard))
			b.take(with(l[0], session, heard), with(ack(segments[0], 8, 0), session, heard))
			b.take(with(l[2], session, heard), with(ack(segments[0], 8, 1), session, heard))
			next := heard + gap
			held := len(segments[2])
			answers := []dgram.Datagram{with(welcome(segments[0]), session, next)}
			if gap > 1<<31 {
				next = heard
				answers = nil
			} else if gap > 0 {
				held = 0
			}
			b.take(with(hello(), session, heard+gap), answers...)
			b.expect(segments[0], held, api.OK)
			if held > 0 {
				b.take(with(l[1], session, next), with(ack(strings.Join(segments[:3], ""), 10, 0), session, next))
				continue
			}
			b.take(with(l[2], session, next), with(welcome(segments[0]), session, next)) // not in step
			b.take(with(l[1], session, next), with(ack(strings.Join(segments[:2], ""), 9, 0), session, next))
		}
	}
}

// P28.2: what is done answers each Hello, whatever its epoch: of its session by a welcome, of another one by an Abort.
func TestHelloOfDone(t *testing.T) {
	s := strings.Join(segmentsOf(t, filesOf(10)), "")
	b := newBench(t, 4, diskWith(t, s, true))
	for _, epoch := range []uint32{5, 4, 5, 1 << 31, 0} {
		b.take(with(hello(), session, epoch), with(lastWelcome(s), session, epoch))
		for _, session := range []uint32{0, session + 1, session ^ 1<<31} {
			b.take(with(hello(), session, epoch), with(abort(), session, epoch))
		}
		b.expectDone(s, 0)
	}
}

// P28.2: what has aborted answers each Hello by an Abort, whatever its session and its epoch, till it is made anew.
func TestHelloOfAborted(t *testing.T) {
	b := newTaker(t, 4)
	b.take(dataOf(0, "", "junk"), abort())
	b.expect("", 0, api.ErrForm)
	for _, epoch := range []uint32{5, 4, 5, 1 << 31, 0} {
		for _, session := range []uint32{session, 0, session + 1} {
			b.take(with(hello(), session, epoch), with(abort(), session, epoch))
		}
		b.expect("", 0, api.ErrForm)
	}
	if state := openKeep(t, b.d).State(); state.Session != session {
		t.Errorf("%+v", state)
	}
	b = newBench(t, 4, b.d)
	b.take(with(hello(), session, epoch-1), with(welcome(""), session, epoch-1))
}

// P28.2: the error of a Begin is answered; nothing else changes.
func TestBeginErrors(t *testing.T) {
	for fuse := range 2 {
		segments := segmentsOf(t, filesOf(900))
		l := datasOf(7, segments)
		b := newTaker(t, 4)
		b.take(l[0], ack(segments[0], 8, 0))
		b.take(l[2], ack(segments[0], 8, 1))
		b.d.Fuse(fuse)
		b.fail(with(hello(), 3, 9), api.ErrPower)
		b.expect(segments[0], len(segments[2]), api.OK)
		b.d.Start()
		b.fail(with(hello(), 3, 9), api.ErrState)
		b.expect(segments[0], len(segments[2]), api.OK)
		b.take(hello(), welcome(segments[0]))
		b.take(with(hello(), session, epoch-1))
		b = newBench(t, 4, b.d)
		b.expect(segments[0], 0, api.OK)
	}
}

// P28.2: where as many notes were put as can be, no session begins.
func TestBeginFull(t *testing.T) {
	b := newBench(t, 4, diskOf(t, math.MaxUint64-1, noteOf("P"), "P"))
	b.fail(hello(), api.ErrFull)
	b.expect("P", 0, api.OK)
	b.take(with(hello(), 0, 9), with(welcome("P"), 0, 9))
	b.fail(hello(), api.ErrFull)
}
