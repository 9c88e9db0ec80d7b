package send_test

import (
	"slices"
	"testing"

	"lighter/api"
	"lighter/send"
)

// model of a window by the document's words: numbers are counted from 0 on, as if the first one were 0.
type model struct {
	first       uint32
	count, size int
	sent, acked map[int]bool
}

func newModel(first uint32, count, size int) *model {
	return &model{first, count, size, map[int]bool{}, map[int]bool{}}
}

func (m *model) number(i int) uint32 { return uint32((int(m.first) + i) % (1 << 32)) }

// base: the first one that isn't acknowledged.
func (m *model) base() int {
	for i := range m.count {
		if !m.acked[i] {
			return i
		}
	}
	return m.count
}

// numbers of which something holds.
func (m *model) numbers(holds func(i int) bool) []uint32 {
	var l []uint32
	for i := range m.count {
		if holds(i) {
			l = append(l, m.number(i))
		}
	}
	return l
}

func (m *model) fresh() []uint32 {
	base := m.base()
	l := m.numbers(func(i int) bool { return i >= base && i < base+m.size && !m.sent[i] })
	for i := base; i < base+m.size && i < m.count; i++ {
		m.sent[i] = true
	}
	return l
}

func (m *model) open() []uint32 {
	return m.numbers(func(i int) bool { return m.sent[i] && !m.acked[i] })
}

// ack of a number that is told by how far it is from the first one.
func (m *model) ack(upto int, bits uint32) bool {
	base, behind := m.base(), 0
	for m.sent[behind] {
		behind++
	}
	if upto < base || upto > behind {
		return false
	}
	var told []int
	for i := range upto {
		told = append(told, i)
	}
	for k := range 32 {
		if i := upto + 1 + k; bits&(1<<k) != 0 && m.sent[i] {
			told = append(told, i)
		}
	}
	isNew := false
	for _, i := range told {
		isNew = isNew || !m.acked[i]
		m.acked[i] = true
	}
	delete(m.acked, upto)
	return isNew
}

func (m *model) forget() {
	base := m.base()
	for i := base + 1; i < m.count; i++ {
		delete(m.acked, i)
	}
}

// pair of a window and its model.
type pair struct {
	t *testing.T
	w *send.Window
	m *model
}

func newPair(t *testing.T, first uint32, count, size int) pair {
	t.Helper()
	w, err := send.New(first, count, size)
	if w == nil || err != api.OK {
		t.Fatal(first, count, size, err)
	}
	p := pair{t, w, newModel(first, count, size)}
	p.check()
	return p
}

// check what can be asked without a change.
func (p pair) check() {
	p.t.Helper()
	base := p.m.base()
	if n := p.w.Base(); n != p.m.number(base) {
		p.t.Fatal("Base", n, p.m.number(base))
	}
	if p.w.Done() != (base == p.m.count) {
		p.t.Fatal("Done", p.w.Done())
	}
	open := p.w.Open()
	if !slices.Equal(open, p.m.open()) {
		p.t.Fatal("Open", open, p.m.open())
	}
	spoil(open)
	if !slices.Equal(p.w.Open(), p.m.open()) {
		p.t.Fatal("Open is shared")
	}
}

// spoil a list that was told: nothing may hang on it.
func spoil(l []uint32) {
	l = l[:cap(l)]
	for i := range l {
		l[i] = 77
	}
}

func (p pair) fresh() {
	p.t.Helper()
	got, want := p.w.Fresh(), p.m.fresh()
	if !slices.Equal(got, want) {
		p.t.Fatal("Fresh", got, want)
	}
	spoil(got)
	p.check()
}

// ack of the number that is so far from the first one.
func (p pair) ack(upto int, bits uint32) {
	p.t.Helper()
	got, want := p.w.Ack(p.m.first+uint32(upto), bits), p.m.ack(upto, bits)
	if got != want {
		p.t.Fatal("Ack", upto, bits, got)
	}
	p.check()
}

func (p pair) forget() {
	p.t.Helper()
	p.w.Forget()
	p.m.forget()
	p.check()
}
