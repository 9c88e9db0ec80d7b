package recv_test

import (
	"testing"

	"lighter/api"
	"lighter/recv"
)

// model of a window by the document's words: numbers are counted from 0 on, as if the first one that was next were 0.
type model struct {
	first uint32
	next  int
	size  int
	texts []*string // by their numbers, from 0 on; nil: none
}

func newModel(first uint32, size int) *model { return &model{first: first, size: size} }

// text of a number; nil: none.
func (m *model) text(i int) *string {
	if i < 0 || i >= len(m.texts) {
		return nil
	}
	return m.texts[i]
}

func (m *model) take(i int, text string) bool {
	if i < m.next || i >= m.next+m.size || m.text(i) != nil || len(text) > 256 {
		return false
	}
	for len(m.texts) <= i {
		m.texts = append(m.texts, nil)
	}
	m.texts[i] = &text
	return true
}

func (m *model) tell() (string, bool) {
	text := m.text(m.next)
	if text == nil {
		return "", false
	}
	m.texts[m.next] = nil
	m.next++
	return *text, true
}

func (m *model) ack() (uint32, uint32) {
	bits := uint32(0)
	for k := range 32 {
		if m.text(m.next+1+k) != nil {
			bits += 1 << k
		}
	}
	return uint32((int(m.first) + m.next) % (1 << 32)), bits
}

func (m *model) held() int {
	n := 0
	for _, text := range m.texts {
		if text != nil {
			n += len(*text)
		}
	}
	return n
}

// pair of a window and its model.
type pair struct {
	t *testing.T
	w *recv.Window
	m *model
}

func newPair(t *testing.T, first uint32, size int) pair {
	t.Helper()
	w, err := recv.New(first, size)
	if w == nil || err != api.OK {
		t.Fatal(first, size, err)
	}
	p := pair{t, w, newModel(first, size)}
	p.check()
	return p
}

// check what can be asked without a change, twice: asking changes nothing.
func (p pair) check() {
	p.t.Helper()
	for range 2 {
		next, bits := p.w.Ack()
		if wantNext, wantBits := p.m.ack(); next != wantNext || bits != wantBits {
			p.t.Fatal("Ack", next, bits, "not", wantNext, wantBits)
		}
		held := p.w.Held()
		if want := p.m.held(); held != want || held > p.m.size*256 {
			p.t.Fatal("Held", held, "not", want)
		}
	}
}

// take of the number that is so far from the first one.
func (p pair) take(i int, text string) {
	p.t.Helper()
	got, want := p.w.Take(p.m.first+uint32(i), text), p.m.take(i, text)
	if got != want {
		p.t.Fatal("Take", i, len(text), got)
	}
	p.check()
}

func (p pair) next() {
	p.t.Helper()
	text, ok := p.w.Next()
	if wantText, want := p.m.tell(); text != wantText || ok != want {
		p.t.Fatal("Next", text, ok, "not", wantText, want)
	}
	p.check()
}
