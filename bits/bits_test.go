package bits_test

import (
	"math"
	"math/rand"
	"strings"
	"testing"

	"lighter/bits"
)

// noCount: numbers that are no count of bits from 1 to 32.
var noCount = []int{0, -1, -8, 33, 64, 1 << 40, math.MaxInt, math.MinInt}

// bitsOf: a text's bits, by the document's words.
func bitsOf(s string) []bool {
	var l []bool
	for i := range len(s) {
		for k := range 8 {
			l = append(l, s[i]>>k&1 == 1)
		}
	}
	return l
}

// textOf: the bytes of bits that are a multiple of eight.
func textOf(l []bool) string {
	s := make([]byte, len(l)/8)
	for i, set := range l {
		if set {
			s[i/8] |= 1 << (i % 8)
		}
	}
	return string(s)
}

// numberOf: the number of bits.
func numberOf(l []bool) uint64 {
	var v uint64
	for i, set := range l {
		if set {
			v |= 1 << i
		}
	}
	return v
}

func randomText(r *rand.Rand, most int) string {
	s := make([]byte, r.Intn(most+1))
	r.Read(s)
	return string(s)
}

// P1.1: the bytes, the lowest first, modulo 2^(8·size).
func TestPut(t *testing.T) {
	const n = 0x8877665544332211
	all := "\x11\x22\x33\x44\x55\x66\x77\x88"
	for size := 1; size <= 8; size++ {
		if s := bits.Put(n, size); s != all[:size] {
			t.Errorf("Put of %d bytes: %x", size, s)
		}
	}
	if s := bits.Put(258, 3); s != "\x02\x01\x00" {
		t.Errorf("Put(258, 3): %x", s)
	}
	if s := bits.Put(256, 1); s != "\x00" {
		t.Errorf("Put(256, 1): %x", s)
	}
	if s := bits.Put(math.MaxUint64, 8); s != strings.Repeat("\xff", 8) {
		t.Errorf("Put of the greatest: %x", s)
	}
	for _, size := range []int{0, -1, 9, 64, math.MaxInt, math.MinInt} {
		if s := bits.Put(n, size); s != "" {
			t.Errorf("Put of %d bytes: %x", size, s)
		}
	}
}

// P1.1: the number whose bytes these are; 0 of more than eight.
func TestGet(t *testing.T) {
	for s, want := range map[string]uint64{
		"":                                     0,
		"\x07":                                 7,
		"\x02\x01":                             258,
		"\x00\x00\x01":                         65536,
		"\xff\xff\xff\xff":                     1<<32 - 1,
		"\x11\x22\x33\x44\x55\x66\x77\x88":     0x8877665544332211,
		"\x11\x22\x33\x44\x55\x66\x77\x88\x00": 0,
		"\x01\x00\x00\x00\x00\x00\x00\x00\x00": 0,
		strings.Repeat("\xff", 1000):           0,
	} {
		if n := bits.Get(s); n != want {
			t.Errorf("Get(%x): %x, not %x", s, n, want)
		}
	}
	for size := 1; size <= 8; size++ {
		n := uint64(0xf1e2d3c4b5a69788) >> (64 - 8*size)
		if back := bits.Get(bits.Put(n, size)); back != n {
			t.Errorf("%x comes back as %x", n, back)
		}
	}
}

// P1.2, and the chapter's example.
func TestWriter(t *testing.T) {
	var w bits.Writer
	if w.Len() != 0 || w.Drain() != "" {
		t.Error("the zero value has bits")
	}
	w.Write(5, 3)
	w.Write(1, 1)
	if w.Len() != 4 || w.Drain() != "" || w.Len() != 4 {
		t.Error("bits that are no byte yet", w.Len())
	}
	w.Align()
	if w.Len() != 8 {
		t.Error("aligned", w.Len())
	}
	w.Align()
	if w.Len() != 8 {
		t.Error("aligned twice", w.Len())
	}
	if s := w.Drain(); s != "\x0d" || w.Len() != 0 || w.Drain() != "" {
		t.Errorf("%x", s)
	}
}

// P1.2: of each number just its lowest bits count.
func TestWriteLowest(t *testing.T) {
	for n := 1; n <= 32; n++ {
		var w bits.Writer
		w.Write(math.MaxUint64, n)
		w.Write(0, 32)
		w.Align()
		want := bits.Put(1<<n-1, 8)[:w.Len()/8]
		if s := w.Drain(); s != want {
			t.Errorf("%d bits: %x, not %x", n, s, want)
		}
	}
}

// P1.2: nothing, where n isn't from 1 to 32.
func TestWriteNothing(t *testing.T) {
	var w bits.Writer
	w.Write(1, 1)
	for _, n := range noCount {
		w.Write(math.MaxUint64, n)
		if w.Len() != 1 {
			t.Errorf("%d bits: %d are there", n, w.Len())
		}
	}
	w.Align()
	if s := w.Drain(); s != "\x01" {
		t.Errorf("%x", s)
	}
}

// P1.2: Add aligns, also of no bytes.
func TestAdd(t *testing.T) {
	var w bits.Writer
	w.Add("ab")
	w.Write(1, 1)
	w.Add("")
	if w.Len() != 24 {
		t.Error("Add of nothing doesn't align", w.Len())
	}
	w.Write(3, 2)
	w.Add("c")
	w.Add("")
	if s := w.Drain(); s != "ab\x01\x03c" {
		t.Errorf("%x", s)
	}
}

// P1.2: Drain takes whole bytes, the bits behind them stay.
func TestDrainLeavesBits(t *testing.T) {
	var w bits.Writer
	w.Write(0xabc, 12)
	if s := w.Drain(); s != "\xbc" || w.Len() != 4 {
		t.Errorf("%x, %d left", s, w.Len())
	}
	if s := w.Drain(); s != "" || w.Len() != 4 {
		t.Errorf("again: %x, %d left", s, w.Len())
	}
	w.Write(0xd, 4)
	if s := w.Drain(); s != "\xda" || w.Len() != 0 {
		t.Errorf("%x, %d left", s, w.Len())
	}
}

// P1.2: a nil one.
func TestNilWriter(t *testing.T) {
	var w *bits.Writer
	w.Write(1, 1)
	w.Align()
	w.Add("a")
	if w.Len() != 0 || w.Drain() != "" {
		t.Error("a nil Writer has bits")
	}
}

// P1.2: any calls, as a list of bits has it.
func TestWriterByList(t *testing.T) {
	r := rand.New(rand.NewSource(1))
	for range 300 {
		var w bits.Writer
		var want []bool
		align := func() {
			for len(want)%8 != 0 {
				want = append(want, false)
			}
		}
		for range 60 {
			switch r.Intn(5) {
			case 0:
				w.Align()
				align()
			case 1:
				s := randomText(r, 5)
				w.Add(s)
				align()
				want = append(want, bitsOf(s)...)
			case 2:
				whole := len(want) / 8 * 8
				if s := w.Drain(); s != textOf(want[:whole]) {
					t.Fatalf("Drain: %x, not %x", s, textOf(want[:whole]))
				}
				want = want[whole:]
			default:
				v, n := r.Uint64(), 1+r.Intn(32)
				w.Write(v, n)
				want = append(want, bitsOf(bits.Put(v, 8))[:n]...)
			}
			if w.Len() != len(want) {
				t.Fatalf("Len: %d, not %d", w.Len(), len(want))
			}
		}
	}
}

// P1.3: of an empty one.
func TestEmptyReader(t *testing.T) {
	var r bits.Reader
	r.Feed("")
	r.Align()
	if r.Left() != 0 || r.Take(1) != "" || r.Take(0) != "" {
		t.Error("the zero value has bits")
	}
	if v, ok := r.Peek(1); v != 0 || ok {
		t.Error("Peek(1)", v, ok)
	}
	if v, ok := r.Peek(0); v != 0 || !ok {
		t.Error("Peek(0)", v, ok)
	}
	if v, ok := r.Read(0); v != 0 || !ok {
		t.Error("Read(0)", v, ok)
	}
}

// P1.3: Peek leaves the bits, Read takes them; beside false nothing is gone.
func TestRead(t *testing.T) {
	var r bits.Reader
	r.Feed("\x0d\xf0")
	for range 2 {
		if v, ok := r.Peek(3); v != 5 || !ok || r.Left() != 16 {
			t.Error("Peek", v, ok, r.Left())
		}
	}
	if v, ok := r.Read(3); v != 5 || !ok || r.Left() != 13 {
		t.Error("Read", v, ok, r.Left())
	}
	if v, ok := r.Read(14); v != 0 || ok || r.Left() != 13 {
		t.Error("too many", v, ok, r.Left())
	}
	if v, ok := r.Read(13); v != 0x1e01 || !ok || r.Left() != 0 {
		t.Error("all", v, ok, r.Left())
	}
	r.Feed("\x80")
	if v, ok := r.Read(8); v != 128 || !ok {
		t.Error("behind the end", v, ok)
	}
}

// P1.3: numbers of bits that may not be, though the bits are there.
func TestReadNothing(t *testing.T) {
	var r bits.Reader
	r.Feed(strings.Repeat("\xff", 20))
	for _, n := range noCount {
		if n == 0 {
			continue
		}
		if v, ok := r.Peek(n); v != 0 || ok {
			t.Errorf("Peek(%d): %d, %v", n, v, ok)
		}
		if v, ok := r.Read(n); v != 0 || ok || r.Left() != 160 {
			t.Errorf("Read(%d): %d, %v, %d left", n, v, ok, r.Left())
		}
	}
	if v, ok := r.Read(0); v != 0 || !ok || r.Left() != 160 {
		t.Error("Read(0)", v, ok, r.Left())
	}
}

// P1.3: 32 bits, from each place within a byte on.
func TestRead32(t *testing.T) {
	for skip := range 8 {
		var r bits.Reader
		r.Feed("\x12\x34\x56\x78\x9a")
		r.Read(skip)
		want := uint64(0x9a78563412) >> skip & (1<<32 - 1)
		if v, ok := r.Read(32); v != want || !ok || r.Left() != 8-skip {
			t.Errorf("behind %d bits: %x, %v, not %x", skip, v, ok, want)
		}
	}
}

// P1.3: a byte's beginning is counted from the first byte that was fed.
func TestReaderAlign(t *testing.T) {
	var r bits.Reader
	r.Feed("ab")
	r.Align()
	if r.Left() != 16 {
		t.Error("a beginning is aligned", r.Left())
	}
	r.Read(9)
	r.Feed("c")
	r.Align()
	r.Align()
	if v, ok := r.Read(8); v != 'c' || !ok || r.Left() != 0 {
		t.Error(v, ok, r.Left())
	}
}

// P1.3: Take, as many as there are; of n below 0 it aligns alone.
func TestTake(t *testing.T) {
	var r bits.Reader
	r.Feed("abcdefgh")
	if s := r.Take(2); s != "ab" || r.Left() != 48 {
		t.Error(s, r.Left())
	}
	r.Read(1)
	if s := r.Take(0); s != "" || r.Left() != 40 {
		t.Error("Take(0) doesn't align", s, r.Left())
	}
	r.Read(1)
	if s := r.Take(-1); s != "" || r.Left() != 32 {
		t.Error("Take(-1) doesn't align", s, r.Left())
	}
	r.Read(7)
	if s := r.Take(math.MinInt); s != "" || r.Left() != 24 {
		t.Error("Take of the least doesn't align", s, r.Left())
	}
	r.Read(8)
	if s := r.Take(math.MaxInt); s != "gh" || r.Left() != 0 {
		t.Error(s, r.Left())
	}
	if s := r.Take(1); s != "" {
		t.Error(s)
	}
}

// P1.3: a nil one.
func TestNilReader(t *testing.T) {
	var r *bits.Reader
	r.Feed("a")
	r.Align()
	if r.Left() != 0 || r.Take(1) != "" || r.Take(-1) != "" {
		t.Error("a nil Reader has bits")
	}
	for _, n := range []int{0, 1, 32, -1} {
		if v, ok := r.Peek(n); v != 0 || ok {
			t.Error("Peek", n, v, ok)
		}
		if v, ok := r.Read(n); v != 0 || ok {
			t.Error("Read", n, v, ok)
		}
	}
}

// P1.3: any calls, as a list of bits has it.
func TestReaderByList(t *testing.T) {
	rnd := rand.New(rand.NewSource(2))
	for range 300 {
		var r bits.Reader
		var left []bool
		for range 80 {
			switch rnd.Intn(6) {
			case 0, 1:
				s := randomText(rnd, 12)
				r.Feed(s)
				left = append(left, bitsOf(s)...)
			case 2:
				r.Align()
				left = left[len(left)%8:]
			case 3:
				n := rnd.Intn(6) - 1
				left = left[len(left)%8:]
				size := 8 * max(0, min(n, len(left)/8))
				if s := r.Take(n); s != textOf(left[:size]) {
					t.Fatalf("Take(%d): %x, not %x", n, s, textOf(left[:size]))
				}
				left = left[size:]
			default:
				n := rnd.Intn(33)
				v, ok := r.Peek(n)
				if again, okToo := r.Read(n); again != v || okToo != ok {
					t.Fatal("Read and Peek differ", n, v, again)
				}
				if ok != (n <= len(left)) || ok && v != numberOf(left[:n]) || !ok && v != 0 {
					t.Fatal("Read", n, v, ok, len(left))
				}
				if ok {
					left = left[n:]
				}
			}
			if r.Left() != len(left) {
				t.Fatalf("Left: %d, not %d", r.Left(), len(left))
			}
		}
	}
}

// P1.2, P1.3: what is written bit by bit is read so, and much of it in little time.
func TestBackAndForth(t *testing.T) {
	const many = 1 << 20
	var w bits.Writer
	var r bits.Reader
	for i := range many {
		w.Write(uint64(i), 1+i%32)
		r.Feed(w.Drain())
	}
	w.Align()
	r.Feed(w.Drain())
	for i := range many {
		n := 1 + i%32
		if v, ok := r.Read(n); !ok || v != uint64(i)&(1<<n-1) {
			t.Fatal(i, v, ok)
		}
	}
	if r.Left() > 7 {
		t.Error(r.Left())
	}
}

// What was told stays as it was told.
func TestTextsStay(t *testing.T) {
	var w bits.Writer
	w.Add("abc")
	s := w.Drain()
	w.Add("xyz")
	var r bits.Reader
	r.Feed(s)
	first := r.Take(2)
	r.Feed("uvw")
	if s != "abc" || first != "ab" || w.Drain() != "xyz" || r.Take(9) != "cuvw" {
		t.Error(s, first)
	}
}
