package link_test

import (
	"math"
	"math/rand"
	"strconv"
	"strings"
	"testing"

	"lighter/api"
	"lighter/link"
)

// noWays: numbers that are no way's.
var noWays = []int{math.MinInt, math.MinInt + 1, -2, -1, 2, 3, 4, 256, 1 << 32, 1<<32 + 1, math.MaxInt - 1, math.MaxInt}

// places at which no Spoil of a text of eight bytes or less turns anything.
var nowhere = []int{
	math.MinInt, math.MinInt + 1, math.MinInt + 31, -1 << 32, -64, -33, -32, 64, 65, 1 << 32, 1 << 61, math.MaxInt - 32,
	math.MaxInt - 31, math.MaxInt - 7, math.MaxInt - 1, math.MaxInt,
}

func expect(t *testing.T, got, want bool) {
	t.Helper()
	if got != want {
		t.Error(got)
	}
}

// expectWay: just these texts are on a way, in order; it is empty behind that.
func expectWay(t *testing.T, l *link.Link, way int, texts ...string) {
	t.Helper()
	if n := l.Len(way); n != len(texts) {
		t.Error("Len", way, n, "not", len(texts))
	}
	for i, want := range texts {
		if s, ok := l.Take(way); s != want || !ok {
			t.Errorf("%d on %d: %q %t, not %q", i, way, s, ok, want)
		}
	}
	if s, ok := l.Take(way); s != "" || ok || l.Len(way) != 0 {
		t.Errorf("behind the last one on %d: %q %t %d", way, s, ok, l.Len(way))
	}
}

// filled link: each way has so many texts, "There 0" and so on.
func filled(t *testing.T, n int) *link.Link {
	t.Helper()
	l := link.New()
	for way, texts := range [][]string{numbered("There", n), numbered("Back", n)} {
		for _, s := range texts {
			expect(t, l.Put(way, s), true)
		}
	}
	return l
}

func numbered(s string, n int) []string {
	var texts []string
	for i := range n {
		texts = append(texts, s+" "+strconv.Itoa(i))
	}
	return texts
}

// The chapter's example.
func TestExample(t *testing.T) {
	l := link.New()
	expect(t, l.Put(0, "a"), true)
	expect(t, l.Put(0, "b"), true)
	expect(t, l.Turn(0), true)
	if s, ok := l.Take(0); s != "b" || !ok {
		t.Error(s, ok)
	}
}

// P26.1: the ways' numbers; a new link has no texts.
func TestNew(t *testing.T) {
	if link.There != 0 || link.Back != 1 || api.MaxQueue != room {
		t.Error(link.There, link.Back, api.MaxQueue)
	}
	l := link.New()
	for way := range 2 {
		expectWay(t, l, way)
		expect(t, l.Turn(way), false)
		expect(t, l.Twice(way), false)
		expect(t, l.Spoil(way, 0, 1), false)
		expectWay(t, l, way)
	}
}

// P26.1: texts are taken in the order in which they were put, each way for itself.
func TestPutTake(t *testing.T) {
	for n := range room + 1 {
		l := filled(t, n)
		expectWay(t, l, link.Back, numbered("Back", n)...)
		expectWay(t, l, link.There, numbered("There", n)...)
	}
}

// P26.1: any text may be put, the empty one too; the same one more than once.
func TestTexts(t *testing.T) {
	for _, s := range []string{"", "a", "\x00\xff\n", strings.Repeat("\x00", 294), strings.Repeat("long", 1<<18)} {
		l := link.New()
		expect(t, l.Put(1, s), true)
		expect(t, l.Put(1, s), true)
		expectWay(t, l, 1, s, s)
	}
}

// P26.1: a way has at most MaxQueue texts; where one was taken, there is room once more.
func TestRoom(t *testing.T) {
	for way, name := range []string{"There", "Back"} {
		l := filled(t, room)
		expect(t, l.Put(way, "more"), false)
		expect(t, l.Put(way, ""), false)
		if n := l.Len(way); n != room {
			t.Error(n)
		}
		_, ok := l.Take(way)
		expect(t, ok, true)
		expect(t, l.Put(1-way, "more"), false) // there is none on the other way
		expect(t, l.Put(way, "more"), true)
		expect(t, l.Put(way, "still more"), false)
		expectWay(t, l, way, append(numbered(name, room)[1:], "more")...)
	}
}

// expectNothing: calls of a way that is none tell false and 0.
func expectNothing(t *testing.T, l *link.Link, way int) {
	t.Helper()
	s, ok := l.Take(way)
	if s != "" || ok || l.Len(way) != 0 || l.Put(way, "a") || l.Turn(way) || l.Twice(way) || l.Spoil(way, 0, 1) {
		t.Error(way, s, ok)
	}
}

// P26.1, P26.2: of a way that is none all is false, 0, and nothing changes.
func TestNoWay(t *testing.T) {
	for _, n := range []int{0, 1, room - 1, room} {
		l := filled(t, n)
		for _, way := range noWays {
			expectNothing(t, l, way)
			expectNothing(t, l, way)
		}
		expectWay(t, l, 0, numbered("There", n)...)
		expectWay(t, l, 1, numbered("Back", n)...)
	}
}

// P26.1, P26.2: of a nil *Link all is false, 0.
func TestNil(t *testing.T) {
	var l *link.Link
	for _, way := range append([]int{0, 1}, noWays...) {
		expectNothing(t, l, way)
		expectNothing(t, l, way)
	}
}

// P26.2: the first one comes last, however many there are; where all had their turn, all is as it was.
func TestTurn(t *testing.T) {
	for n := 1; n <= room; n++ {
		l := filled(t, n)
		texts := numbered("There", n)
		expect(t, l.Turn(0), true)
		expectWay(t, l, 0, append(texts[1:], texts[0])...)
		for range n {
			expect(t, l.Turn(1), true)
		}
		expectWay(t, l, 1, numbered("Back", n)...)
	}
}

// P26.2: the first one comes last, too; it stays the first one.
func TestTwice(t *testing.T) {
	for n := 1; n < room; n++ {
		l := filled(t, n)
		texts := numbered("Back", n)
		expect(t, l.Twice(1), true)
		expectWay(t, l, 1, append(texts, texts[0])...)
		expectWay(t, l, 0, numbered("There", n)...)
	}
}

// P26.2: Twice, where there is no room, changes nothing.
func TestTwiceRoom(t *testing.T) {
	for way, name := range []string{"There", "Back"} {
		l := filled(t, room)
		expect(t, l.Twice(way), false)
		expectWay(t, l, way, numbered(name, room)...)
		expectWay(t, l, 1-way, numbered([]string{"Back", "There"}[way], room)...)
	}
	l := link.New()
	expect(t, l.Put(0, "a"), true)
	for range room - 1 {
		expect(t, l.Twice(0), true)
	}
	expect(t, l.Twice(0), false)
	expectWay(t, l, 0, strings.Split(strings.Repeat("a", room), "")...)
}

// spoil a text that is the only one on a way.
func spoil(t *testing.T, s string, at int, bits uint32) string {
	t.Helper()
	l := link.New()
	expect(t, l.Put(0, s), true)
	expect(t, l.Spoil(0, at, bits), true)
	told, ok := l.Take(0)
	expect(t, ok, true)
	return told
}

func expectSpoilt(t *testing.T, s string, at int, bits uint32, want string) {
	t.Helper()
	if got := spoil(t, s, at, bits); got != want {
		t.Errorf("%q at %d by %x: %q, not %q", s, at, bits, got, want)
	}
}

// P26.2: bits by hand, of each byte the lowest first.
func TestSpoil(t *testing.T) {
	expectSpoilt(t, "\x00\x00", 0, 1, "\x01\x00")
	expectSpoilt(t, "\x00\x00", 7, 1, "\x80\x00")
	expectSpoilt(t, "\x00\x00", 8, 1, "\x00\x01")
	expectSpoilt(t, "\x00\x00", 15, 1, "\x00\x80")
	expectSpoilt(t, "\x00\x00", 16, 1, "\x00\x00")
	expectSpoilt(t, "\x00\x00", 6, 0b101, "\x40\x01")
	expectSpoilt(t, "\xff\xff", 6, 0b101, "\xbf\xfe")
	expectSpoilt(t, "\x00\x00\x00\x00\x00", 4, 0x81234567, "\x70\x56\x34\x12\x08")
	expectSpoilt(t, "\x00\x00\x00\x00", 0, math.MaxUint32, "\xff\xff\xff\xff")
	expectSpoilt(t, "a", 0, 0, "a")
	expectSpoilt(t, "", 0, math.MaxUint32, "") // an empty text is one, though none of its bits can be turned
}

// P26.2: at the text's ends just those bits are turned that it has.
func TestSpoilEnds(t *testing.T) {
	expectSpoilt(t, "\x00\x00", 12, math.MaxUint32, "\x00\xf0")
	expectSpoilt(t, "\x00\x00", -4, 0xff, "\x0f\x00")
	expectSpoilt(t, "\x00\x00", -1, 0b11, "\x01\x00")
	expectSpoilt(t, "\x00\x00", -31, math.MaxUint32, "\x01\x00")
	expectSpoilt(t, "\x00\x00", -31, 1<<31-1, "\x00\x00")
	for _, s := range []string{"", "a", "12345678"} {
		for _, at := range nowhere {
			for _, bits := range []uint32{0, 1, 1 << 31, 0x55555555, math.MaxUint32} {
				expectSpoilt(t, s, at, bits, s)
			}
		}
	}
}

// P26.2: each bit, and runs of them, from each place on, against the model; the same once more turns them back.
func TestSpoilEach(t *testing.T) {
	r := rand.New(rand.NewSource(1))
	for _, s := range []string{"", "\x00", "ab", "\xff\x00\xaa\x55", "123456789"} {
		for at := -40; at < 8*len(s)+10; at++ {
			for k := range spoilMap {
				for _, bits := range []uint32{1 << k, 1<<k - 1, r.Uint32()} {
					expectSpoilt(t, s, at, bits, spoilt(s, at, bits))
					expectSpoilt(t, spoil(t, s, at, bits), at, bits, s)
				}
			}
		}
	}
}

// P26.2: just the first one is spoilt, however many there are, and it stays the first one.
func TestSpoilFirst(t *testing.T) {
	for n := 1; n <= room; n++ {
		l := filled(t, n)
		texts := numbered("There", n)
		expect(t, l.Spoil(0, 0, 1), true)
		expectWay(t, l, 0, append([]string{"Uhere 0"}, texts[1:]...)...)
		expectWay(t, l, 1, numbered("Back", n)...)
	}
}

// P26.2: of a text that is there twice just the first one is spoilt, and what was handed in stays.
func TestSpoilTwice(t *testing.T) {
	l, given := link.New(), strings.Repeat("a", 3)
	expect(t, l.Put(1, given), true)
	expect(t, l.Twice(1), true)
	expect(t, l.Spoil(1, 8, 0b11), true)
	expectWay(t, l, 1, "aba", "aaa")
	if given != "aaa" {
		t.Error(given)
	}
}

// Two links have nothing in common.
func TestApart(t *testing.T) {
	k, l := link.New(), link.New()
	expect(t, k.Put(0, "a"), true)
	expect(t, l.Turn(0), false)
	expect(t, l.Put(1, "b"), true)
	expectWay(t, l, 0)
	expectWay(t, k, 1)
	expectWay(t, k, 0, "a")
	expectWay(t, l, 1, "b")
}

// P26.1, P26.2: any calls, against the model; some links are nearly full, some nearly empty.
func TestAny(t *testing.T) {
	r := rand.New(rand.NewSource(2))
	for i := range 600 {
		p := newPair(t)
		puts := 1 + i%4 // the more, the fuller
		for j := range 400 {
			way := r.Intn(2)
			if r.Intn(50) == 0 {
				way = noWays[r.Intn(len(noWays))]
			}
			switch n := r.Intn(6 + puts); n {
			case 0, 1:
				p.take(way)
			case 2:
				p.turn(way)
			case 3:
				p.twice(way)
			case 4:
				p.spoil(way, r.Intn(80)-36, r.Uint32())
			default:
				p.put(way, strconv.Itoa(j)[r.Intn(2):])
			}
		}
		p.empty()
	}
}
