package recv_test

import (
	"math"
	"math/rand"
	"strconv"
	"strings"
	"testing"

	"lighter/api"
	"lighter/recv"
	"lighter/send"
)

// firsts: first numbers, so that some windows go round, or by the middle.
var firsts = []uint32{
	0, 1, 5, 1<<31 - 40, 1<<31 - 3, 1<<31 - 1, 1 << 31, 1<<31 + 1, math.MaxUint32 - 40, math.MaxUint32 - 31,
	math.MaxUint32 - 3, math.MaxUint32 - 2, math.MaxUint32 - 1, math.MaxUint32,
}

func newWindow(t *testing.T, next uint32, size int) *recv.Window {
	t.Helper()
	w, err := recv.New(next, size)
	if w == nil || err != api.OK {
		t.Fatal(next, size, err)
	}
	return w
}

func expectTake(t *testing.T, w *recv.Window, n uint32, text string, want bool) {
	t.Helper()
	if got := w.Take(n, text); got != want {
		t.Error("Take", n, len(text), got)
	}
}

func expectNext(t *testing.T, w *recv.Window, text string, ok bool) {
	t.Helper()
	if gotText, got := w.Next(); gotText != text || got != ok {
		t.Error("Next", gotText, got, "not", text, ok)
	}
}

func expectAck(t *testing.T, w *recv.Window, next, bits uint32) {
	t.Helper()
	if gotNext, gotBits := w.Ack(); gotNext != next || gotBits != bits {
		t.Error("Ack", gotNext, gotBits, "not", next, bits)
	}
}

func expectHeld(t *testing.T, w *recv.Window, held int) {
	t.Helper()
	if got := w.Held(); got != held {
		t.Error("Held", got, "not", held)
	}
}

// The chapter's example.
func TestExample(t *testing.T) {
	w := newWindow(t, 5, 4)
	expectTake(t, w, 6, "b", true)
	expectAck(t, w, 5, 1)
	expectTake(t, w, 5, "a", true)
	expectNext(t, w, "a", true)
	expectNext(t, w, "b", true)
}

// P25.1: sizes that may be, and others.
func TestNewErrors(t *testing.T) {
	sizes := []int{
		math.MinInt, math.MinInt + 1, -32, -1, 0, 1, 2, 31, 32, 33, 64, 1 << 32, 1<<32 + 1, math.MaxInt - 1, math.MaxInt,
	}
	for _, next := range firsts {
		for _, size := range sizes {
			w, err := recv.New(next, size)
			may := size >= 1 && size <= 32
			if may != (err == api.OK) || may != (w != nil) || !may && err != api.ErrArg {
				t.Error(next, size, w, err)
			}
		}
	}
}

// P25.1, P25.2: a new window has no texts.
func TestNew(t *testing.T) {
	for _, next := range firsts {
		for size := 1; size <= 32; size++ {
			w := newWindow(t, next, size)
			expectAck(t, w, next, 0)
			expectHeld(t, w, 0)
			expectNext(t, w, "", false)
			expectAck(t, w, next, 0) // no text was next, so next is the same one
		}
	}
}

// P25.1, P25.2: of a nil *Window false, 0.
func TestNil(t *testing.T) {
	var w *recv.Window
	expectTake(t, w, 0, "", false)
	expectTake(t, w, 1, "a", false)
	expectTake(t, w, 1, strings.Repeat("a", 257), false)
	expectNext(t, w, "", false)
	expectAck(t, w, 0, 0)
	expectHeld(t, w, 0)
}

// P25.1: just the size numbers from the next one on are taken.
func TestTakeRange(t *testing.T) {
	far := []uint32{1 << 30, 1<<31 - 33, 1<<31 - 1, 1 << 31, 1<<31 + 1, 1<<31 + 33, 3 << 30}
	for i := range uint32(70) {
		far = append(far, -(i + 1))
	}
	for _, next := range firsts {
		for size := 1; size <= 32; size++ {
			w := newWindow(t, next, size)
			for _, i := range far {
				expectTake(t, w, next+i, "a", false)
			}
			for i := size; i < size+70; i++ {
				expectTake(t, w, next+uint32(i), "a", false)
			}
			expectAck(t, w, next, 0)
			expectHeld(t, w, 0)
			for i := range size {
				expectTake(t, w, next+uint32(size-1-i), "a", true)
			}
			expectAck(t, w, next, uint32(1<<(size-1)-1))
			expectHeld(t, w, size)
		}
	}
}

// P25.1: a number that has a text keeps it, whichever comes behind it.
func TestTakeTwice(t *testing.T) {
	for _, first := range []string{"", "a", "abc", strings.Repeat("z", 256)} {
		for _, second := range []string{"", "a", "b", "abcd", strings.Repeat("z", 256), strings.Repeat("z", 257)} {
			w := newWindow(t, 8, 2)
			for n := uint32(8); n < 10; n++ {
				expectTake(t, w, n, first, true)
				expectTake(t, w, n, second, false)
			}
			expectAck(t, w, 8, 1)
			expectHeld(t, w, 2*len(first))
			expectNext(t, w, first, true)
			expectNext(t, w, first, true)
			expectNext(t, w, "", false)
		}
	}
}

// P25.1: texts of up to Segment bytes, the empty one too.
func TestTakeLong(t *testing.T) {
	w := newWindow(t, math.MaxUint32, 1)
	next := uint32(math.MaxUint32)
	for _, size := range []int{0, 1, 2, 255, 256} {
		for _, long := range []int{257, 258, 512, 1 << 16, 1 << 20} {
			expectTake(t, w, next, strings.Repeat("b", long), false)
		}
		expectAck(t, w, next, 0)
		expectHeld(t, w, 0)
		text := strings.Repeat("\x00", size)
		expectTake(t, w, next, text, true)
		expectHeld(t, w, size)
		expectNext(t, w, text, true)
		expectHeld(t, w, 0)
		next++
	}
}

// P25.1: texts are told in order, each once; a number that was told isn't taken any more, one more behind it is.
func TestNext(t *testing.T) {
	for _, first := range firsts {
		w := newWindow(t, first, 3)
		expectTake(t, w, first+3, "3", false)
		expectTake(t, w, first+2, "2", true)
		expectNext(t, w, "", false)
		expectTake(t, w, first+1, "1", true)
		expectNext(t, w, "", false)
		expectTake(t, w, first, "", true)
		expectNext(t, w, "", true)
		expectTake(t, w, first, "0", false)
		expectTake(t, w, first+4, "4", false)
		expectTake(t, w, first+3, "3", true)
		expectNext(t, w, "1", true)
		expectNext(t, w, "2", true)
		for i := range uint32(3) {
			expectTake(t, w, first+i, "?", false)
		}
		expectNext(t, w, "3", true)
		expectNext(t, w, "", false)
		expectNext(t, w, "", false)
		expectAck(t, w, first+4, 0)
		expectTake(t, w, first+4, "4", true)
		expectNext(t, w, "4", true)
	}
}

// P25.2: each number behind the next one has its bit; the next one has none.
func TestAck(t *testing.T) {
	for _, first := range firsts {
		for k := range uint32(31) {
			w := newWindow(t, first, 32)
			expectTake(t, w, first+1+k, "", true) // the empty text is one, too
			expectAck(t, w, first, 1<<k)
			expectTake(t, w, first, "a", true)
			expectAck(t, w, first, 1<<k)
			expectNext(t, w, "a", true)
			if k == 0 { // by now it is the next one
				expectAck(t, w, first+1, 0)
			} else {
				expectAck(t, w, first+1, 1<<(k-1))
			}
		}
	}
}

// P25.2: texts that were told aren't held any more; at most each number has Segment bytes.
func TestHeld(t *testing.T) {
	long := strings.Repeat("a", 256)
	for _, first := range firsts {
		for size := 1; size <= 32; size++ {
			w := newWindow(t, first, size)
			for i := range size {
				expectTake(t, w, first+uint32(i), long, true)
				expectHeld(t, w, 256*(i+1))
			}
			expectTake(t, w, first+uint32(size), long, false)
			expectHeld(t, w, 256*size)
			for i := range size {
				expectNext(t, w, long, true)
				expectHeld(t, w, 256*(size-1-i))
			}
			expectNext(t, w, "", false)
		}
	}
}

// Two windows have nothing in common.
func TestApart(t *testing.T) {
	v, w := newWindow(t, 3, 4), newWindow(t, 3, 4)
	expectTake(t, v, 3, "a", true)
	expectTake(t, v, 4, "b", true)
	expectAck(t, w, 3, 0)
	expectHeld(t, w, 0)
	expectTake(t, w, 3, "c", true)
	expectNext(t, v, "a", true)
	expectNext(t, w, "c", true)
	expectNext(t, w, "", false)
	expectNext(t, v, "b", true)
}

// P25.1, P25.2: all calls of small windows, some behind one another.
func TestSmall(t *testing.T) {
	calls := []func(p pair){pair.next}
	for i := -1; i < 6; i++ {
		calls = append(calls, func(p pair) { p.take(i, strconv.Itoa(i)) })
	}
	for size := 1; size < 5; size++ {
		for _, u := range calls {
			for _, v := range calls {
				for _, x := range calls {
					for _, y := range calls {
						for _, z := range calls {
							p := newPair(t, math.MaxUint32-1, size)
							u(p)
							v(p)
							x(p)
							y(p)
							z(p)
							p.next()
						}
					}
				}
			}
		}
	}
}

// P25.1, P25.2: any calls, against the model.
func TestAny(t *testing.T) {
	r := rand.New(rand.NewSource(1))
	long := strings.Repeat("0123456789", 30)
	for range 400 {
		p := newPair(t, firsts[r.Intn(len(firsts))], 1+r.Intn(32))
		for range 400 {
			switch r.Intn(8) {
			case 0, 1, 2:
				p.next()
			case 3:
				p.take(p.m.next, long[r.Intn(44):][:r.Intn(258)])
			case 4:
				p.take(p.m.next+int(r.Uint32()), "far")
			default:
				p.take(p.m.next-3+r.Intn(p.m.size+6), long[r.Intn(40):][:r.Intn(40)])
			}
		}
	}
}

// P25.1: all numbers come, shuffled within the window, some twice, and are told in order, beyond where they go round.
func TestOrder(t *testing.T) {
	const first = math.MaxUint32 - 3000
	r := rand.New(rand.NewSource(2))
	w := newWindow(t, first, 32)
	for told := uint32(0); told < 6000; {
		next, _ := w.Ack()
		w.Take(next+uint32(r.Intn(40))-4, "?")
		for range 20 {
			n := first + told + uint32(r.Intn(32))
			w.Take(n, strconv.Itoa(int(n)))
		}
		for {
			text, ok := w.Next()
			if !ok {
				break
			}
			if text != "?" && text != strconv.Itoa(int(first+told)) {
				t.Fatal(told, text)
			}
			told++
		}
	}
}

// P25.2, P24.3: an Ack tells a window of layer 24 just those that came.
func TestAckSend(t *testing.T) {
	const first = math.MaxUint32 - 500
	r := rand.New(rand.NewSource(3))
	s, err := send.New(first, 1000, 32)
	if err != api.OK {
		t.Fatal(err)
	}
	w := newWindow(t, first, 32)
	came := map[uint32]bool{}
	for !s.Done() {
		s.Fresh()
		for _, n := range s.Open() {
			if r.Intn(3) == 0 {
				came[n] = w.Take(n, "a") || came[n]
			}
		}
		for ok := true; ok; {
			_, ok = w.Next()
		}
		s.Ack(w.Ack())
		for _, n := range s.Open() {
			if came[n] {
				t.Fatal(n, "came")
			}
		}
	}
	expectAck(t, w, s.Base(), 0)
}
