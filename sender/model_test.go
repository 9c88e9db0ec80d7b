package sender_test

import (
	"math/rand"
	"strings"
	"testing"

	"lighter/dgram"
	"lighter/sender"
)

// model of a sender by the document's words.
type model struct {
	pair
	size        int // of its window
	phase       int
	base        int // the first number that isn't acknowledged
	sent, acked map[int]bool
	wait, left  int // of its timer; none left: it isn't running
}

func newModel(p pair, size int) *model {
	return &model{pair: p, size: size, phase: sender.Greeting, wait: 1}
}

// goesOff: a round of the timer.
func (m *model) goesOff() bool {
	if m.left == 0 {
		return false
	}
	m.left--
	if m.left > 0 {
		return false
	}
	m.wait = min(2*m.wait, 64)
	m.left = m.wait
	return true
}

func (m *model) restart() { m.wait, m.left = 1, 1 }

// open numbers.
func (m *model) open() []int {
	var l []int
	for n := range m.segments {
		if m.sent[n] && !m.acked[n] && n >= m.base {
			l = append(l, n)
		}
	}
	return l
}

func (m *model) round() []dgram.Datagram {
	runs := m.left > 0
	off := m.goesOff()
	if !runs {
		m.left = m.wait
	}
	switch m.phase {
	case sender.Greeting:
		if !runs || off {
			return []dgram.Datagram{m.hello()}
		}
	case sender.Sending:
		open := m.open()
		var l []dgram.Datagram
		for n := m.base; n < min(m.base+m.size, len(m.segments)); n++ {
			if !m.sent[n] {
				m.sent[n] = true
				l = append(l, m.data(n))
			}
		}
		if off && m.base == len(m.segments) {
			return append(l, m.hello())
		}
		if off {
			l = append(l, m.datas(open...)...)
		}
		return l
	}
	return nil
}

func (m *model) hears(d dgram.Datagram) {
	if d.Session != session || d.Epoch != m.s.Epoch() || m.phase > sender.Sending {
		return
	}
	switch {
	case d.Kind == dgram.Abort:
		m.phase = sender.Aborted
	case d.Kind == dgram.Welcome && d.Last:
		m.phase = sender.Finished
	case d.Kind == dgram.Welcome:
		m.welcomed(d)
	case d.Kind == dgram.Ack && m.phase == sender.Sending:
		m.acks(d)
	}
}

func (m *model) welcomed(d dgram.Datagram) {
	at := -1
	for n := range len(m.segments) + 1 {
		if uint64(len(m.ahead(n))) == d.At {
			at = n
		}
	}
	switch {
	case at < 0 || sum(m.ahead(at)) != d.Sum:
		m.phase = sender.Aborted
	case m.phase == sender.Greeting || at > m.base:
		m.phase, m.base = sender.Sending, at
		m.sent, m.acked = map[int]bool{}, map[int]bool{}
		m.restart()
	case at == m.base:
		m.acked = map[int]bool{}
	}
}

func (m *model) acks(d dgram.Datagram) {
	upto := int(d.Seq)
	if upto < m.base || upto > m.base && !m.sent[upto-1] {
		return
	}
	isNew := upto > m.base
	delete(m.acked, upto)
	for k := range 32 {
		if n := upto + 1 + k; d.Map&(1<<k) != 0 && m.sent[n] {
			isNew = isNew || !m.acked[n]
			m.acked[n] = true
		}
	}
	m.base = upto
	if isNew {
		m.restart()
	}
}

// place of the model's base.
func (m *model) place() int {
	if m.phase == sender.Finished {
		return len(m.ahead(len(m.segments)))
	}
	return len(m.ahead(m.base))
}

// anyDatagram that may come; one that ends it seldom.
func (m *model) anyDatagram(r *rand.Rand) dgram.Datagram {
	d := m.ack(uint32(m.base+r.Intn(m.size+3)-1), r.Uint32()&r.Uint32()&r.Uint32())
	switch r.Intn(8) {
	case 0, 1:
		d = m.welcome(r.Intn(len(m.segments) + 1))
	case 2:
		d = m.welcome(m.base)
	case 3:
		d = m.hello()
	}
	switch r.Intn(100) {
	case 0:
		d.Session ^= 1 << r.Intn(32)
	case 1:
		d.Epoch += uint32(1 - 2*r.Intn(2))
	case 2:
		d = dgram.Datagram{Kind: dgram.Abort, Session: session, Epoch: d.Epoch}
	case 3:
		d.Last = d.Kind == dgram.Welcome
	case 4:
		d.Sum ^= 1 << r.Intn(32)
	case 5:
		d.At += uint64(r.Intn(5))
	}
	return d
}

// P27.1, P27.2, P27.3: random calls, held against the model.
func TestModel(t *testing.T) {
	r := rand.New(rand.NewSource(2))
	ended := map[int]int{}
	for range 400 {
		size := 1 + r.Intn(6)
		if r.Intn(4) == 0 {
			size = 32
		}
		p := newPair(t, filesOf(r.Intn(3000), r.Intn(2), r.Intn(1000)), size)
		m := newModel(p, size)
		for range 120 {
			if r.Intn(2) == 0 {
				p.tick(m.round()...)
			} else {
				d := m.anyDatagram(r)
				m.hears(d)
				p.take(d)
			}
			p.expect(m.phase, m.place())
		}
		ended[m.phase]++
	}
	for phase := sender.Sending; phase <= sender.Aborted; phase++ {
		if ended[phase] < 20 {
			t.Error("phases at the end", ended)
		}
	}
}

// P27.1, P27.3: random texts change nothing.
func TestRandomTexts(t *testing.T) {
	r := rand.New(rand.NewSource(3))
	p := newPair(t, filesOf(1000), 3)
	p.take(p.welcome(1))
	for range 3000 {
		text := make([]byte, r.Intn(60))
		r.Read(text)
		p.s.Take(string(text))
		p.s.Take(strings.Repeat("\x00", len(text)))
		p.expect(sender.Sending, len(p.ahead(1)))
	}
	p.tick(p.datas(1, 2, 3)...)
}
