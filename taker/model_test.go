package taker_test

import (
	"math/rand"
	"strings"
	"testing"

	"lighter/api"
	"lighter/dgram"
	"lighter/extract"
	"lighter/parse"
)

// model of a taker by the document's words.
type model struct {
	size    int // of its window
	room    int // bytes that its disk has room for
	session uint32
	bytes   string
	done    bool
	known   bool
	epoch   uint32
	inStep  bool
	next    uint32
	texts   map[uint32]dgram.Datagram
	aborted api.Errno
}

// parsed: what a parser tells of bytes.
func parsed(s string) (api.Errno, bool) {
	p := parse.New()
	_, err := p.Feed(s)
	return err, p.Whole()
}

// anew: the taker is made again.
func (m *model) anew() {
	_, whole := parsed(m.bytes)
	*m = model{size: m.size, room: m.room, session: m.session, bytes: m.bytes, done: m.done || whole}
}

func (m *model) held() int {
	n := 0
	for _, d := range m.texts {
		n += len(d.Text)
	}
	return n
}

func (m *model) welcome(d dgram.Datagram) []dgram.Datagram {
	return []dgram.Datagram{{
		Kind: dgram.Welcome, Session: d.Session, Epoch: d.Epoch, At: uint64(len(m.bytes)), Sum: sum(m.bytes), Last: m.done,
	}}
}

func (m *model) abort(d dgram.Datagram) []dgram.Datagram {
	return []dgram.Datagram{{Kind: dgram.Abort, Session: d.Session, Epoch: d.Epoch}}
}

func (m *model) ack(d dgram.Datagram) []dgram.Datagram {
	var there uint32
	for k := range uint32(32) {
		if _, ok := m.texts[m.next+1+k]; ok {
			there += 1 << k
		}
	}
	return []dgram.Datagram{{
		Kind: dgram.Ack, Session: d.Session, Epoch: d.Epoch, Seq: m.next, At: uint64(len(m.bytes)), Map: there,
	}}
}

func (m *model) hears(epoch uint32) bool {
	if gap := (int(m.epoch) - int(epoch) + 1<<32) % (1 << 32); m.known && gap > 0 && gap < 1<<31 {
		return false
	}
	if !m.known || m.epoch != epoch {
		m.inStep, m.texts = false, nil
	}
	m.known, m.epoch = true, epoch
	return true
}

func (m *model) take(d dgram.Datagram) []dgram.Datagram {
	switch {
	case d.Kind == dgram.Hello:
		return m.hello(d)
	case d.Kind != dgram.Data || d.Session != m.session:
		return nil
	case m.aborted != api.OK:
		return m.abort(d)
	case m.done:
		return m.welcome(d)
	case !m.hears(d.Epoch):
		return nil
	case !m.inStep && d.At != uint64(len(m.bytes)):
		return m.welcome(d)
	case !m.inStep:
		m.inStep, m.next, m.texts = true, d.Seq, map[uint32]dgram.Datagram{}
	}
	if far := (int(d.Seq) - int(m.next) + 1<<32) % (1 << 32); far < m.size {
		if _, ok := m.texts[d.Seq]; !ok {
			m.texts[d.Seq] = d
		}
	}
	for m.advance() {
	}
	switch {
	case m.aborted != api.OK:
		return m.abort(d)
	case m.done:
		return m.welcome(d)
	}
	return m.ack(d)
}

func (m *model) hello(d dgram.Datagram) []dgram.Datagram {
	switch {
	case m.aborted != api.OK, m.done && d.Session != m.session:
		return m.abort(d)
	case m.done:
		return m.welcome(d)
	case d.Session != m.session:
		*m = model{size: m.size, room: m.room, session: d.Session}
	}
	if !m.hears(d.Epoch) {
		return nil
	}
	return m.welcome(d)
}

// advance by one text: does it go on behind it?
func (m *model) advance() bool {
	d, ok := m.texts[m.next]
	if !ok {
		return false
	}
	delete(m.texts, m.next)
	m.next++
	all := m.bytes + d.Text
	err, whole := parsed(all)
	switch {
	case d.At != uint64(len(m.bytes)) || d.Sum != sum(all):
		m.aborted = api.ErrSum
	case err != api.OK:
		m.aborted = err
	case len(all) > m.room:
		m.aborted = api.ErrFull
	default:
		m.bytes = all
		m.done = d.Last && whole
		if d.Last != whole {
			m.aborted = api.ErrEnd
		}
	}
	return m.aborted == api.OK && !m.done
}

// source of datagrams of an archive, and of others.
type source struct {
	r        *rand.Rand
	segments []string
	epoch    uint32
	first    uint32 // the number of the first segment
}

// data of a segment near what is there; something of it is another one seldom.
func (s *source) data(m *model) dgram.Datagram {
	i, size := 0, 0
	for i < len(s.segments)-1 && size < len(m.bytes) {
		size += len(s.segments[i])
		i++
	}
	i = min(max(i+s.r.Intn(m.size+2)-1, 0), len(s.segments)-1)
	d := dataOf(s.first+uint32(i), strings.Join(s.segments[:i], ""), s.segments[i])
	d.Last = i == len(s.segments)-1
	switch s.r.Intn(60) {
	case 0:
		d.Sum ^= 1 << s.r.Intn(32)
	case 1:
		d.At ^= 1 << s.r.Intn(62)
	case 2:
		d.Last = !d.Last
	case 3:
		d.Text = "junk"
		d.Sum = sum(strings.Join(s.segments[:i], "") + d.Text)
	case 4:
		d.Seq += s.r.Uint32()
	}
	return d
}

// anyDatagram that may come.
func (s *source) anyDatagram(m *model) dgram.Datagram {
	if s.r.Intn(30) == 0 {
		s.epoch += uint32(s.r.Intn(3))
		s.first = s.r.Uint32()
	}
	d := s.data(m)
	switch s.r.Intn(12) {
	case 0, 1:
		d = hello()
	case 2:
		d = dgram.Datagram{Kind: []int{dgram.Welcome, dgram.Ack, dgram.Abort}[s.r.Intn(3)], At: d.At, Seq: d.Seq, Sum: d.Sum}
	}
	d.Session, d.Epoch = session, s.epoch
	switch s.r.Intn(150) {
	case 0:
		d.Session ^= 1 << s.r.Intn(32)
	case 1:
		d.Epoch += s.r.Uint32()
	case 2:
		d.Epoch--
	}
	return d
}

// P28.1, P28.2, P28.3, P28.4: random datagrams, held against the model.
func TestModel(t *testing.T) {
	r := rand.New(rand.NewSource(2))
	done, aborted := 0, map[api.Errno]int{}
	for range 1000 {
		sectors := 2 + r.Intn(40)
		m := &model{size: 1 + r.Intn(6), room: 64 * sectors}
		if r.Intn(5) == 0 {
			m.size = 32
		}
		l := filesOf(r.Intn(1200), 0, r.Intn(300))[r.Intn(3):]
		s := &source{r, segmentsOf(t, l), r.Uint32(), r.Uint32()}
		b := newBench(t, m.size, newDisk(t, 8+sectors))
		committed := ""
		for range 60 {
			if r.Intn(50) == 0 {
				m.anew()
				b.d.Crash([]int{r.Intn(4), r.Intn(4)})
				b.d.Start()
				b = newBench(t, m.size, b.d)
			} else {
				d := s.anyDatagram(m)
				b.take(d, m.take(d)...)
			}
			if b.k.Held() > m.size*api.Segment {
				t.Fatal("held", b.k.Held())
			}
			if !m.done {
				b.expect(m.bytes, m.held(), m.aborted)
				continue
			}
			b.expectDone(m.bytes, m.held())
			if _, err := extract.All(m.bytes); err != api.OK || committed != "" && committed != m.bytes {
				t.Fatal("no archive, or another one", err)
			}
			committed = m.bytes
		}
		aborted[m.aborted]++
		if m.done {
			done++
		}
	}
	if done < 50 || min(aborted[api.ErrSum], aborted[api.ErrFull], aborted[api.ErrEnd], aborted[api.ErrForm]) < 5 {
		t.Error("done", done, "aborted", aborted)
	}
}

// P28.4: what is no datagram, and what isn't the sender's, isn't answered, and changes nothing.
func TestNotAnswered(t *testing.T) {
	segments := segmentsOf(t, filesOf(900))
	all := strings.Join(segments, "")
	l := datasOf(0, segments)
	inStep := newTaker(t, 4)
	inStep.take(l[0], ack(segments[0], 1, 0))
	inStep.take(l[2], ack(segments[0], 1, 1))
	aborted := newTaker(t, 4)
	aborted.take(dataOf(0, "", "junk"), abort())
	for _, b := range []bench{newTaker(t, 4), inStep, aborted, newBench(t, 4, diskWith(t, all, true))} {
		lasted, staged, held, why := b.d.Image(), b.k.Staged(), b.k.Held(), b.k.Aborted()
		ignore := func(text string) {
			t.Helper()
			if l, err := b.k.Take(text); len(l) > 0 || err != api.OK {
				t.Fatal(len(l), err)
			}
		}
		for kind := dgram.Welcome; kind <= dgram.Abort; kind++ {
			for epoch := range uint32(9) {
				if kind != dgram.Data {
					ignore(encode(t, dgram.Datagram{Kind: kind, Session: session, Epoch: epoch, At: uint64(len(staged)), Sum: sum(staged)}))
					ignore(encode(t, dgram.Datagram{Kind: kind, Session: epoch, Epoch: epoch}))
				}
			}
		}
		for _, d := range []dgram.Datagram{hello(), with(hello(), 3, 9), l[1], with(l[1], session, 9)} {
			text := encode(t, d)
			for i := range len(text) {
				ignore(text[:i])
				spoilt := []byte(text)
				spoilt[i] ^= 1 << (i % 8)
				ignore(string(spoilt))
			}
			ignore(text + "\x00")
		}
		if b.d.Image() != lasted || b.k.Staged() != staged || b.k.Held() != held || b.k.Aborted() != why {
			t.Error("something has changed")
		}
	}
	inStep.take(l[1], ack(strings.Join(segments[:3], ""), 3, 0))
}

// P28.4: as many bytes are held as a window may have.
func TestHeld(t *testing.T) {
	for _, window := range []int{1, 2, 31, 32} {
		b := newTaker(t, window)
		b.take(dataOf(0, "", ""), ack("", 1, 0))
		for n := uint32(40); n > 1; n-- {
			text := strings.Repeat("a", 256)
			b.k.Take(encode(t, dataOf(n, "", text)))
			b.k.Take(encode(t, dataOf(n, "", text)))
		}
		b.expect("", 256*(window-1), api.OK)
	}
}

// What is told isn't what is kept, nor what was handed in.
func TestShared(t *testing.T) {
	b := newTaker(t, 4)
	for range 2 {
		l, _ := b.k.Take(encode(t, hello()))
		if len(l) != 1 || l[0] != encode(t, welcome("")) {
			t.Error(l)
		}
		clear(l)
	}
}
