package send_test

import (
	"math"
	"math/rand"
	"slices"
	"testing"

	"lighter/api"
	"lighter/send"
)

const mostNumbers = 1 << 20

// firsts: first numbers, so that some windows go round, or by the middle.
var firsts = []uint32{
	0, 1, 5, 1<<31 - 40, 1<<31 - 3, 1<<31 - 1, 1 << 31, 1<<31 + 1, math.MaxUint32 - 40, math.MaxUint32 - 3,
	math.MaxUint32 - 2, math.MaxUint32 - 1, math.MaxUint32,
}

func newWindow(t *testing.T, first uint32, count, size int) *send.Window {
	t.Helper()
	w, err := send.New(first, count, size)
	if w == nil || err != api.OK {
		t.Fatal(first, count, size, err)
	}
	return w
}

func expect(t *testing.T, got []uint32, want ...uint32) {
	t.Helper()
	if !slices.Equal(got, want) {
		t.Error(got, "not", want)
	}
}

func expectAck(t *testing.T, w *send.Window, upto, bits uint32, want bool) {
	t.Helper()
	if got := w.Ack(upto, bits); got != want {
		t.Error("Ack", upto, bits, got)
	}
}

func expectBase(t *testing.T, w *send.Window, base uint32, done bool) {
	t.Helper()
	if w.Base() != base || w.Done() != done {
		t.Error("Base", w.Base(), "Done", w.Done())
	}
}

// The chapter's example.
func TestExample(t *testing.T) {
	w := newWindow(t, 5, 3, 2)
	expect(t, w.Fresh(), 5, 6)
	expectAck(t, w, 6, 0, true)
	expect(t, w.Fresh(), 7)
}

// P24.1: counts and sizes that may be, and others.
func TestNewErrors(t *testing.T) {
	counts := []int{math.MinInt, -mostNumbers, -1, 0, 1, 2, mostNumbers - 1, mostNumbers, mostNumbers + 1, 1 << 32, 1<<32 + 1, math.MaxInt}
	sizes := []int{math.MinInt, -1, 0, 1, 2, 31, 32, 33, 64, 1 << 32, 1<<32 + 1, math.MaxInt}
	for _, first := range firsts {
		for _, count := range counts {
			for _, size := range sizes {
				w, err := send.New(first, count, size)
				may := count >= 0 && count <= mostNumbers && size >= 1 && size <= 32
				if may != (err == api.OK) || may != (w != nil) || !may && err != api.ErrArg {
					t.Error(first, count, size, w, err)
				}
			}
		}
	}
}

// P24.1: of a new window nothing is sent, or acknowledged.
func TestNew(t *testing.T) {
	for _, first := range firsts {
		w := newWindow(t, first, 3, 2)
		expectBase(t, w, first, false)
		expect(t, w.Open())
		for _, bits := range []uint32{0, 1, math.MaxUint32} {
			for i := range uint32(10) {
				expectAck(t, w, first+i-5, bits, false)
			}
		}
		expectBase(t, w, first, false)
		expect(t, w.Open())
		expect(t, w.Fresh(), first, first+1)
	}
}

// P24.1: of no numbers all are acknowledged.
func TestNoNumbers(t *testing.T) {
	for _, first := range firsts {
		w := newWindow(t, first, 0, 32)
		expectBase(t, w, first, true)
		expect(t, w.Fresh())
		expect(t, w.Open())
		expectAck(t, w, first, math.MaxUint32, false)
		expectAck(t, w, first+1, 0, false)
		w.Forget()
		expectBase(t, w, first, true)
	}
}

// P24.1: of a nil *Window 0, false, nothing.
func TestNil(t *testing.T) {
	var w *send.Window
	expectBase(t, w, 0, false)
	expect(t, w.Fresh())
	expect(t, w.Open())
	expectAck(t, w, 0, 0, false)
	expectAck(t, w, 1, math.MaxUint32, false)
	w.Forget()
}

// P24.2: as many as the size, each told once; more of them as the base goes on, none behind the last number.
func TestFresh(t *testing.T) {
	for _, first := range firsts {
		w := newWindow(t, first, 5, 3)
		expect(t, w.Fresh(), first, first+1, first+2)
		expect(t, w.Fresh())
		expectAck(t, w, first, 0b11, true) // the two behind the base: it stays
		expect(t, w.Fresh())
		expectAck(t, w, first+1, 0, true)
		expect(t, w.Fresh(), first+3)
		expectAck(t, w, first+4, 0, true)
		expect(t, w.Fresh(), first+4)
		expectAck(t, w, first+5, 0, true)
		expect(t, w.Fresh())
		expectBase(t, w, first+5, true)
	}
}

// P24.2: numbers are open from when they are sent till they are acknowledged.
func TestOpen(t *testing.T) {
	for _, first := range firsts {
		w := newWindow(t, first, 9, 4)
		expect(t, w.Open())
		w.Fresh()
		expect(t, w.Open(), first, first+1, first+2, first+3)
		expectAck(t, w, first, 0b10, true)
		expect(t, w.Open(), first, first+1, first+3)
		expectAck(t, w, first+1, 0b100, true) // its bit is of one that isn't sent
		expect(t, w.Open(), first+1, first+3)
		w.Fresh()
		expect(t, w.Open(), first+1, first+3, first+4)
		w.Forget()
		expect(t, w.Open(), first+1, first+2, first+3, first+4)
	}
}

// P24.3: numbers ahead of the base, or further than just behind the last one that was sent, change nothing.
func TestAckOutside(t *testing.T) {
	for _, first := range firsts {
		w := newWindow(t, first, 20, 6)
		w.Fresh()
		expectAck(t, w, first+2, 0, true)
		for i := -70; i < 100; i++ {
			if i < 2 || i > 6 {
				expectAck(t, w, first+uint32(i), math.MaxUint32, false)
			}
		}
		for _, far := range []uint32{1<<31 - 1, 1 << 31, 1<<31 + 1, 1 << 30, 3 << 30} {
			expectAck(t, w, first+2+far, math.MaxUint32, false)
		}
		expectBase(t, w, first+2, false)
		expect(t, w.Open(), first+2, first+3, first+4, first+5)
		expectAck(t, w, first+6, 0, true) // just behind the last one that was sent
		expectBase(t, w, first+6, false)
		expect(t, w.Open())
		expectAck(t, w, first+6, math.MaxUint32, false)
		expect(t, w.Fresh(), first+6, first+7, first+8, first+9, first+10, first+11)
	}
}

// P24.3: each bit is of one number; the same told again is nothing new.
func TestAckBits(t *testing.T) {
	for _, first := range firsts {
		for k := range uint32(32) {
			w := newWindow(t, first, 100, 32)
			w.Fresh()
			sent := k < 31 // behind the base 31 numbers are sent
			expectAck(t, w, first, 1<<k, sent)
			expectAck(t, w, first, 1<<k, false)
			open := w.Open()
			if slices.Contains(open, first+1+k) || sent != (len(open) == 31) {
				t.Error(k, open)
			}
			expectBase(t, w, first, false)
			expectAck(t, w, first+1, 0, true)
			fresh := w.Fresh()
			expect(t, fresh, first+32)
			if !slices.Contains(w.Open(), first+32) {
				t.Error(k, "was acknowledged ahead of being sent")
			}
		}
	}
}

// P24.3: is any of several numbers new?
func TestAckNew(t *testing.T) {
	w := newWindow(t, 0, 20, 10)
	w.Fresh()
	expectAck(t, w, 0, 0, false)
	expectAck(t, w, 0, 0b1011, true) // 1, 2, 4
	expectAck(t, w, 0, 0b0011, false)
	expectAck(t, w, 0, 0b0111, true) // 3, too
	expectAck(t, w, 0, 0b1111, false)
	expectAck(t, w, 3, 0b01, true) // all ahead of 3: 0 was not; 4 stays, 3 isn't any more
	expect(t, w.Open(), 3, 5, 6, 7, 8, 9)
	expectAck(t, w, 3, 0b01, false)
	expectAck(t, w, 4, 0, true) // 3 is new anew; 4 isn't acknowledged any more
	expect(t, w.Open(), 4, 5, 6, 7, 8, 9)
	expectBase(t, w, 4, false)
}

// P24.3: what upto and the bits don't tell stays acknowledged.
func TestAckStays(t *testing.T) {
	for _, first := range firsts {
		w := newWindow(t, first, 8, 8)
		w.Fresh()
		expectAck(t, w, first, 0b0101010, true) // 2, 4, 6
		expect(t, w.Open(), first, first+1, first+3, first+5, first+7)
		expectAck(t, w, first+1, 0, true)
		expect(t, w.Open(), first+1, first+3, first+5, first+7)
		expectAck(t, w, first+4, 0, true) // 4 isn't any more, 6 is
		expect(t, w.Open(), first+4, first+5, first+7)
		expectAck(t, w, first+4, 0b010, false)
		expectAck(t, w, first+4, 0b101, true)
		expect(t, w.Open(), first+4)
		expectAck(t, w, first+8, 0, true)
		expectBase(t, w, first+8, true)
		expectAck(t, w, first+8, math.MaxUint32, false)
		expectAck(t, w, first+7, 0, false)
		expect(t, w.Open())
		expectBase(t, w, first+8, true)
	}
}

// P24.3: what is forgotten was sent still, and is new once more; the base, and what is ahead of it, stays.
func TestForget(t *testing.T) {
	for _, first := range firsts {
		w := newWindow(t, first, 9, 5)
		w.Forget()
		expect(t, w.Fresh(), first, first+1, first+2, first+3, first+4)
		expectAck(t, w, first+2, 0b11, true)
		expect(t, w.Open(), first+2)
		w.Forget()
		expectBase(t, w, first+2, false)
		expect(t, w.Open(), first+2, first+3, first+4)
		expect(t, w.Fresh(), first+5, first+6)
		expectAck(t, w, first+2, 0b11, true)
		expectAck(t, w, first+2, 0b11, false)
		expectAck(t, w, first+1, 0, false)
		expect(t, w.Open(), first+2, first+5, first+6)
		w.Forget()
		w.Forget()
		expect(t, w.Open(), first+2, first+3, first+4, first+5, first+6)
		expect(t, w.Fresh())
	}
}

// P24.1, P24.3: where all are acknowledged, no Forget changes that.
func TestForgetDone(t *testing.T) {
	w := newWindow(t, math.MaxUint32, 2, 2)
	w.Fresh()
	expectAck(t, w, math.MaxUint32, 1, true)
	expectAck(t, w, 1, 0, true)
	expectBase(t, w, 1, true)
	w.Forget()
	expectBase(t, w, 1, true)
	expect(t, w.Open())
	expect(t, w.Fresh())
}

// Two windows have nothing in common.
func TestApart(t *testing.T) {
	v, w := newWindow(t, 3, 4, 2), newWindow(t, 3, 4, 2)
	v.Fresh()
	expectAck(t, v, 3, 1, true)
	expect(t, w.Open())
	expect(t, w.Fresh(), 3, 4)
	expect(t, w.Open(), 3, 4)
	v.Forget()
	expect(t, v.Open(), 3, 4)
}

// P24.1 to P24.3: all calls of small windows, some behind one another.
func TestSmall(t *testing.T) {
	var calls []func(p pair)
	calls = append(calls, pair.fresh, pair.forget)
	for upto := -1; upto < 5; upto++ {
		for bits := range uint32(4) {
			calls = append(calls, func(p pair) { p.ack(upto, bits) })
		}
	}
	for count := range 4 {
		for size := 1; size < 4; size++ {
			for _, x := range calls {
				for _, y := range calls {
					for _, z := range calls {
						p := newPair(t, math.MaxUint32-1, count, size)
						p.fresh()
						x(p)
						y(p)
						z(p)
					}
				}
			}
		}
	}
}

// P24.1 to P24.3: any calls, against the model.
func TestAny(t *testing.T) {
	r := rand.New(rand.NewSource(1))
	for range 400 {
		first := firsts[r.Intn(len(firsts))]
		p := newPair(t, first, r.Intn(120), 1+r.Intn(32))
		if r.Intn(4) == 0 {
			p = newPair(t, first, r.Intn(8), 1+r.Intn(8))
		}
		for range 120 {
			switch r.Intn(8) {
			case 0, 1, 2:
				p.fresh()
			case 3:
				p.forget()
			case 4:
				p.ack(p.m.base(), r.Uint32())
			case 5:
				p.ack(p.m.base()+r.Intn(3), r.Uint32()&r.Uint32())
			default:
				p.ack(p.m.base()-3+r.Intn(40), r.Uint32()&r.Uint32()&r.Uint32())
			}
		}
	}
}

// P24.1 to P24.3: the greatest window, from its beginning to its end.
func TestGreatest(t *testing.T) {
	const first = math.MaxUint32 - mostNumbers/2
	w := newWindow(t, first, mostNumbers, 32)
	next := uint32(first)
	for !w.Done() {
		for _, n := range w.Fresh() {
			if n != next {
				t.Fatal(n, next)
			}
			next++
		}
		expectAck(t, w, w.Base(), 0x55555555, true)
		if n := len(w.Open()); n != 16 {
			t.Fatal("Open", n)
		}
		expectAck(t, w, next, math.MaxUint32, true)
		if w.Base() != next {
			t.Fatal("Base", w.Base(), next)
		}
	}
	if n := next - first; n != mostNumbers {
		t.Error(n)
	}
}
