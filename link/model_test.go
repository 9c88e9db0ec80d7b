package link_test

import (
	"slices"
	"testing"

	"lighter/link"
)

const (
	room     = 64 // texts that a way has at most
	spoilMap = 32 // bits that a Spoil turns at most
)

// model of a link by the document's words: a list for each way.
type model map[int][]string

func (m model) isWay(way int) bool { return way == 0 || way == 1 }

func (m model) put(way int, s string) bool {
	if !m.isWay(way) || len(m[way]) == room {
		return false
	}
	m[way] = append(slices.Clone(m[way]), s)
	return true
}

func (m model) take(way int) (string, bool) {
	if len(m[way]) == 0 {
		return "", false
	}
	s := m[way][0]
	m[way] = m[way][1:]
	return s, true
}

func (m model) turn(way int) bool {
	s, ok := m.take(way)
	return ok && m.put(way, s)
}

func (m model) twice(way int) bool { return len(m[way]) > 0 && m.put(way, m[way][0]) }

func (m model) spoil(way, at int, bits uint32) bool {
	if len(m[way]) == 0 {
		return false
	}
	m[way] = append([]string{spoilt(m[way][0], at, bits)}, m[way][1:]...)
	return true
}

// spoilt text, by a list of all its bits.
func spoilt(s string, at int, bits uint32) string {
	var all []int
	for i := range len(s) {
		for k := range 8 {
			all = append(all, int(s[i])>>k%2)
		}
	}
	for i := range all {
		for k := range spoilMap {
			if bits&(1<<k) != 0 && i-k == at { // no sum, so that none is beyond the greatest int
				all[i] = 1 - all[i]
			}
		}
	}
	told := make([]byte, len(s))
	for i, bit := range all {
		told[i/8] += byte(bit << (i % 8))
	}
	return string(told)
}

// pair of a link and its model.
type pair struct {
	t *testing.T
	l *link.Link
	m model
}

func newPair(t *testing.T) pair {
	t.Helper()
	l := link.New()
	if l == nil {
		t.Fatal("no link")
	}
	p := pair{t, l, model{}}
	p.check()
	return p
}

// check how much is on the ways; Len changes nothing.
func (p pair) check() {
	p.t.Helper()
	for range 2 {
		for way := -1; way < 3; way++ {
			if n := p.l.Len(way); n != len(p.m[way]) {
				p.t.Fatal("Len", way, n, "not", len(p.m[way]))
			}
		}
	}
}

// same answer? The call is told by its name and its way.
func (p pair) same(got, want bool, call string, way int) {
	p.t.Helper()
	if got != want {
		p.t.Fatal(call, way, got)
	}
	p.check()
}

func (p pair) put(way int, s string) {
	p.t.Helper()
	p.same(p.l.Put(way, s), p.m.put(way, s), "Put", way)
}

func (p pair) take(way int) {
	p.t.Helper()
	s, ok := p.l.Take(way)
	want, isThere := p.m.take(way)
	if s != want {
		p.t.Fatalf("Take %d: %q, not %q", way, s, want)
	}
	p.same(ok, isThere, "Take", way)
}

func (p pair) turn(way int) {
	p.t.Helper()
	p.same(p.l.Turn(way), p.m.turn(way), "Turn", way)
}

func (p pair) twice(way int) {
	p.t.Helper()
	p.same(p.l.Twice(way), p.m.twice(way), "Twice", way)
}

func (p pair) spoil(way, at int, bits uint32) {
	p.t.Helper()
	p.same(p.l.Spoil(way, at, bits), p.m.spoil(way, at, bits), "Spoil", way)
}

// empty both ways: all that is on them, in order.
func (p pair) empty() {
	p.t.Helper()
	for way := range 2 {
		for range len(p.m[way]) + 1 {
			p.take(way)
		}
	}
}
