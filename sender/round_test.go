package sender_test

import (
	"slices"
	"testing"

	"lighter/dgram"
	"lighter/sender"
)

// off: does a timer that waits one round at first, at most 64, and was started ahead of the round 1, go off in this one?
func off(round int) bool {
	at, wait := 1, 1
	for at < round {
		wait = min(2*wait, 64)
		at += wait
	}
	return at == round
}

// P27.2: Greeting: a Hello at once, then each time the timer goes off: behind 1, 2, 4 to 64 rounds, then each 64.
func TestGreeting(t *testing.T) {
	p := newPair(t, filesOf(1000), 4)
	var hellos []int
	for round := range 400 {
		told := p.s.Tick()
		if len(told) > 0 {
			hellos = append(hellos, round)
			expectTold(t, told, []dgram.Datagram{p.hello()})
		}
		p.expect(sender.Greeting, 0)
	}
	if want := []int{0, 1, 3, 7, 15, 31, 63, 127, 191, 255, 319, 383}; !slices.Equal(hellos, want) {
		t.Error(hellos, "not", want)
	}
}

// P27.2: Sending: as many fresh numbers as the window has, in order, and none twice in a round;
// then what is open, each time the timer goes off.
func TestSending(t *testing.T) {
	for _, window := range []int{1, 2, 5, 31, 32} {
		for from := 0; from < 3; from++ {
			p := newPair(t, filesOf(9000, 0, 300), window)
			p.take(p.welcome(from))
			first := p.datas(numbers(from, min(from+window, len(p.segments)))...)
			p.tick(first...)
			for round := 2; round < 300; round++ {
				var want []dgram.Datagram
				if off(round) {
					want = first
				}
				p.tick(want...)
				p.expect(sender.Sending, len(p.ahead(from)))
			}
		}
	}
}

// P27.2: a Data has its number, its place, the sum of all bytes up to its end, and tells whether it is the last one.
func TestData(t *testing.T) {
	p := newPair(t, filesOf(255, 0, 1000, 256, 1), 32)
	if len(p.segments) > 32 {
		t.Fatal("more segments than a window has")
	}
	p.take(p.welcome(0))
	all, lasts := "", 0
	for i, text := range p.s.Tick() {
		d, _ := dgram.Decode(text)
		if d.Kind != dgram.Data || d.Session != session || d.Epoch != 1 || d.Seq != uint32(i) || d.Map != 0 {
			t.Errorf("%d: %+v", i, d)
		}
		if d.At != uint64(len(all)) {
			t.Error(i, "At", d.At, len(all))
		}
		all += d.Text
		if d.Sum != sum(all) || d.Text != p.segments[i] {
			t.Error(i, "its text, or the sum with it")
		}
		if d.Last {
			lasts++
		}
		if d.Last != (i == len(p.segments)-1) {
			t.Error(i, "Last", d.Last)
		}
	}
	if lasts != 1 || all != p.ahead(len(p.segments)) {
		t.Error("not all was sent")
	}
}

// P27.2: fresh numbers come first, then what was open ahead of them; by an Ack the timer goes off with the next round.
func TestFreshAndOpen(t *testing.T) {
	p := newPair(t, filesOf(5000), 4)
	p.take(p.welcome(0))
	p.tick(p.datas(0, 1, 2, 3)...) // the timer goes off: nothing was open
	p.take(p.ack(0, 2))            // 2
	p.tick(p.datas(0, 1, 3)...)
	p.take(p.ack(1, 1)) // 0 and 2
	p.tick(p.datas(4, 1, 3)...)
	p.tick() // it waits two rounds
	p.tick(p.datas(1, 3, 4)...)
	p.tick()
	p.take(p.ack(1, 1)) // nothing new
	p.tick()
	p.take(p.ack(3, 0))
	p.tick(p.datas(5, 6, 3, 4)...)
	p.take(p.ack(7, 0)) // all that was sent
	p.tick(p.datas(7, 8, 9, 10)...)
	p.tick()
	p.tick(p.datas(7, 8, 9, 10)...)
}

// P27.2: fresh numbers are sent also where the timer doesn't go off.
func TestFreshBetween(t *testing.T) {
	p := newPair(t, filesOf(5000), 2)
	p.take(p.welcome(0))
	p.tick(p.datas(0, 1)...)
	p.tick()
	p.tick(p.datas(0, 1)...)
	p.take(p.ack(1, 0))
	p.tick(p.datas(2, 1)...)
	p.take(p.ack(2, 0))
	p.take(p.ack(2, 0))
	p.tick(p.datas(3, 2)...)
}

// P27.2: where the window is Done, a Hello each time the timer goes off.
func TestDone(t *testing.T) {
	for _, byWelcome := range []bool{false, true} {
		p := newPair(t, filesOf(300), 32)
		n := len(p.segments)
		if byWelcome {
			p.take(p.welcome(n))
		} else {
			p.take(p.welcome(0))
			p.tick(p.datas(numbers(0, n)...)...)
			p.tick()
			p.take(p.ack(uint32(n), 0))
		}
		p.expect(sender.Sending, len(p.ahead(n)))
		for round := 1; round < 200; round++ {
			var want []dgram.Datagram
			if off(round) {
				want = []dgram.Datagram{p.hello()}
			}
			p.tick(want...)
			p.expect(sender.Sending, len(p.ahead(n)))
		}
	}
}

// P27.2: Finished and Aborted: nothing.
func TestEnded(t *testing.T) {
	for _, greeting := range []bool{false, true} {
		for _, kind := range []int{dgram.Welcome, dgram.Abort} {
			p := newPair(t, filesOf(3000), 4)
			p.tick(p.hello())
			if !greeting {
				p.take(p.welcome(1))
			}
			p.take(dgram.Datagram{Kind: kind, Session: session, Epoch: 1, Last: kind == dgram.Welcome})
			for range 200 {
				p.tick()
			}
		}
	}
}
