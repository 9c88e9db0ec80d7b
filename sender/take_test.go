package sender_test

import (
	"math"
	"testing"

	"lighter/dgram"
	"lighter/sender"
)

// P27.3: a Welcome at each place, ahead of any other one: sending begins there.
func TestFirstWelcome(t *testing.T) {
	for _, l := range [][]int{{}, {0}, {3000, 0, 300}} {
		n := len(newPair(t, filesOf(l...), 3).segments)
		for at := range n + 1 {
			p := newPair(t, filesOf(l...), 3)
			p.tick(p.hello())
			p.tick(p.hello())
			p.take(p.welcome(at))
			p.expect(sender.Sending, len(p.ahead(at)))
			if at == n {
				p.tick(p.hello())
			} else {
				p.tick(p.datas(numbers(at, min(at+3, n))...)...)
			}
		}
	}
}

// P27.3: At must be a segment's place, or all bytes, and Sum the sum of the bytes ahead.
func TestWrongWelcomes(t *testing.T) {
	all := newPair(t, filesOf(600, 100), 3)
	n := len(all.segments)
	places := map[uint64]bool{}
	for at := range n + 1 {
		places[uint64(len(all.ahead(at)))] = true
	}
	bytes := all.ahead(n)
	for _, sending := range []bool{false, true} {
		take := func(d dgram.Datagram, phase, base int) {
			t.Helper()
			p := newPair(t, filesOf(600, 100), 3)
			if sending {
				p.take(p.welcome(1))
			}
			d.Kind, d.Session, d.Epoch = dgram.Welcome, session, 1
			p.take(d)
			p.expect(phase, base)
		}
		had := 0
		if sending {
			had = len(all.ahead(1))
		}
		for at := range len(bytes) + 1 {
			near := places[uint64(at)] || places[uint64(at)+1] || places[uint64(at)-1]
			if !near && at%31 > 0 {
				continue
			}
			d := dgram.Datagram{At: uint64(at), Sum: sum(bytes[:at])}
			if places[d.At] {
				take(d, sender.Sending, max(at, had))
			} else {
				take(d, sender.Aborted, had)
			}
			d.Sum ^= 1 << (at % 32)
			take(d, sender.Aborted, had)
		}
		for _, at := range []uint64{uint64(len(bytes)) + 1, 1 << 31, 1 << 32, 1<<32 + uint64(had), 1<<62 - 1} {
			take(dgram.Datagram{At: at, Sum: sum(bytes)}, sender.Aborted, had)
			take(dgram.Datagram{At: at}, sender.Aborted, had)
		}
	}
}

// P27.3: a Welcome that is the Last ends it, whatever else it tells, in either phase.
func TestLastWelcome(t *testing.T) {
	for _, sending := range []bool{false, true} {
		for at := range uint64(3) {
			p := newPair(t, filesOf(600), 3)
			if sending {
				p.take(p.welcome(1))
			}
			p.take(dgram.Datagram{Kind: dgram.Welcome, Session: session, Epoch: 1, At: at, Sum: 5, Last: true})
			p.expect(sender.Finished, len(p.ahead(len(p.segments))))
		}
	}
}

// P27.3: a Welcome above Base: a new window from there on, and the timer begins anew; one below it: nothing.
func TestLaterWelcome(t *testing.T) {
	for at := range 9 {
		p := newPair(t, filesOf(2600), 4)
		p.take(p.welcome(3))
		p.tick(p.datas(3, 4, 5, 6)...)
		p.take(p.ack(4, 1)) // 3 and 5
		p.tick(p.datas(7, 4, 6)...)
		p.tick()
		p.tick(p.datas(4, 6, 7)...) // it waits four rounds
		p.tick()
		p.take(p.welcome(at))
		switch {
		case at > 4:
			p.expect(sender.Sending, len(p.ahead(at)))
			p.tick(p.datas(numbers(at, at+4)...)...)
			p.tick()
			p.tick(p.datas(numbers(at, at+4)...)...)
		case at == 4: // what was acknowledged behind it is forgotten
			p.expect(sender.Sending, len(p.ahead(4)))
			p.tick()
			p.tick()
			p.tick(p.datas(4, 5, 6, 7)...)
		default:
			p.expect(sender.Sending, len(p.ahead(4)))
			p.tick()
			p.tick()
			p.tick(p.datas(4, 6, 7)...)
		}
	}
}

// P27.3: a Welcome at all bytes, where Base is there: nothing more; one at a place ahead: nothing.
func TestWelcomeOfDone(t *testing.T) {
	p := newPair(t, filesOf(600), 32)
	n := len(p.segments)
	p.take(p.welcome(n))
	p.tick(p.hello())
	for at := range n + 1 {
		p.take(p.welcome(at))
		p.expect(sender.Sending, len(p.ahead(n)))
	}
	p.tick()
	p.tick(p.hello())
}

// P27.3: an Ack counts while it is Sending, by the window's rules.
func TestAcks(t *testing.T) {
	p := newPair(t, filesOf(3000), 4)
	p.take(p.ack(0, 0))
	p.take(p.ack(1, 1))
	p.expect(sender.Greeting, 0)
	p.tick(p.hello())
	p.take(p.welcome(2))
	p.take(p.ack(3, 0)) // nothing is sent yet
	p.expect(sender.Sending, len(p.ahead(2)))
	p.tick(p.datas(2, 3, 4, 5)...)
	for _, upto := range []uint32{0, 1, 7, 8, 1 << 31, math.MaxUint32} {
		p.take(p.ack(upto, math.MaxUint32))
		p.expect(sender.Sending, len(p.ahead(2)))
	}
	for base := 3; base <= 6; base++ {
		p.take(p.ack(uint32(base), 0))
		p.expect(sender.Sending, len(p.ahead(base)))
	}
	p.tick(p.datas(6, 7, 8, 9)...)
	p.take(p.ack(6, 5)) // 7 and 9
	p.expect(sender.Sending, len(p.ahead(6)))
	p.tick(p.datas(6, 8)...)
	p.take(p.ack(8, 0)) // 6; 9 is still acknowledged
	p.expect(sender.Sending, len(p.ahead(8)))
	p.tick(p.datas(10, 11, 8)...)
}

// P27.3: an Ack's At and Sum tell nothing.
func TestAckAlone(t *testing.T) {
	p := newPair(t, filesOf(3000), 4)
	p.take(p.welcome(0))
	p.tick(p.datas(0, 1, 2, 3)...)
	d := p.ack(2, 0)
	d.At, d.Sum = 7, 8
	p.take(d)
	p.expect(sender.Sending, len(p.ahead(2)))
}

// P27.3: an Ack that tells something new begins the timer anew; another one doesn't.
func TestAckTimer(t *testing.T) {
	for _, isNew := range []bool{false, true} {
		p := newPair(t, filesOf(3000), 2)
		p.take(p.welcome(0))
		p.tick(p.datas(0, 1)...)
		p.tick()
		p.tick(p.datas(0, 1)...)
		p.tick()
		if !isNew {
			p.take(p.ack(0, 0))
			p.tick()
			p.tick()
			p.tick(p.datas(0, 1)...)
			continue
		}
		p.take(p.ack(0, 1))
		for _, sent := range []bool{true, false, true, false, false, false, true} {
			if sent {
				p.tick(p.datas(0)...)
			} else {
				p.tick()
			}
		}
	}
}

// P27.3: an Abort aborts, in either phase; the base stays.
func TestAbort(t *testing.T) {
	abort := dgram.Datagram{Kind: dgram.Abort, Session: session, Epoch: 1}
	p := newPair(t, filesOf(3000), 4)
	p.take(abort)
	p.expect(sender.Aborted, 0)
	p = newPair(t, filesOf(3000), 4)
	p.take(p.welcome(2))
	p.take(abort)
	p.expect(sender.Aborted, len(p.ahead(2)))
}

// P27.3: what is Finished or Aborted stays so.
func TestEndedStays(t *testing.T) {
	for _, kind := range []int{dgram.Welcome, dgram.Abort} {
		p := newPair(t, filesOf(3000), 4)
		p.take(p.welcome(1))
		p.take(dgram.Datagram{Kind: kind, Session: session, Epoch: 1, Last: kind == dgram.Welcome})
		phase, base := p.s.Phase(), p.s.Base()
		for at := range len(p.segments) + 1 {
			p.take(p.welcome(at))
			p.take(p.ack(uint32(at), 3))
			p.expect(phase, base)
		}
		for _, last := range []bool{false, true} {
			p.take(dgram.Datagram{Kind: dgram.Welcome, Session: session, Epoch: 1, At: 1, Last: last})
			p.expect(phase, base)
		}
		p.take(dgram.Datagram{Kind: dgram.Abort, Session: session, Epoch: 1})
		p.expect(phase, base)
	}
}

// P27.3: of another session, or another epoch, nothing counts; nor what is no datagram, a Hello, a Data.
func TestOthers(t *testing.T) {
	for _, sending := range []bool{false, true} {
		p := newPair(t, filesOf(3000), 4)
		phase, base := sender.Greeting, 0
		if sending {
			p.take(p.welcome(1))
			p.tick(p.datas(1, 2, 3, 4)...)
			phase, base = sender.Sending, len(p.ahead(1))
		}
		wrong := p.welcome(1)
		wrong.Sum++
		last := p.welcome(0)
		last.Last = true
		abort := dgram.Datagram{Kind: dgram.Abort, Session: session, Epoch: 1}
		for _, d := range []dgram.Datagram{p.welcome(2), wrong, last, p.ack(3, 1), abort, p.hello(), p.data(1)} {
			for _, session := range []uint32{0, 1, session - 1, session + 1, session ^ 1<<31} {
				e := d
				e.Session = session
				p.take(e)
				p.expect(phase, base)
			}
			for _, epoch := range []uint32{0, 2, 1 + 1<<31, math.MaxUint32} {
				e := d
				e.Epoch = epoch
				p.take(e)
				p.expect(phase, base)
			}
			text, _ := dgram.Encode(d)
			for i := range len(text) {
				p.s.Take(text[:i])
				spoilt := []byte(text)
				spoilt[i] ^= 1 << (i % 8)
				p.s.Take(string(spoilt))
				p.expect(phase, base)
			}
			p.s.Take(text + "\x00")
			p.expect(phase, base)
		}
		p.take(p.hello())
		p.take(p.data(1))
		p.expect(phase, base)
		if sending {
			p.tick()
			p.tick(p.datas(1, 2, 3, 4)...)
		} else {
			p.tick(p.hello())
		}
	}
}
