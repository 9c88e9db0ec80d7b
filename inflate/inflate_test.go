package inflate_test

import (
	"bytes"
	"compress/flate"
	"math/rand"
	"strings"
	"testing"

	"lighter/api"
	"lighter/inflate"
)

// checkStream: what is told of a stream piece by piece, byte by byte, and at once, is what the model tells.
func checkStream(t *testing.T, name, stream string) {
	t.Helper()
	want := modelOf(stream)
	d := inflate.New()
	var told strings.Builder
	for i := range len(stream) {
		done := d.Done()
		s, err := d.Feed(stream[i : i+1])
		told.WriteString(s)
		prefix := modelOf(stream[:i+1])
		if prefix.err == api.ErrMore {
			prefix.err = api.OK
		}
		if told.String() != prefix.told || err != prefix.err || d.Told() != len(prefix.told) {
			t.Fatalf("%s: behind %d bytes of %x: %q, %d, not %q, %d", name, i+1, stream, told.String(), err, prefix.told, prefix.err)
		}
		if prefix.used > 0 && !d.Done() || done && s != "" {
			t.Fatalf("%s: behind %d bytes of %x: done %v, and %q", name, i+1, stream, d.Done(), s)
		}
	}
	checkEnd(t, name, d, stream, want)
	whole := inflate.New()
	s, err := whole.Feed(stream)
	if s != want.told || err != want.err && !(err == api.OK && want.err == api.ErrMore) {
		t.Fatalf("%s: at once: %q, %d, not %q, %d", name, s, err, want.told, want.err)
	}
	checkEnd(t, name, whole, stream, want)
	checkAll(t, name, stream, want)
}

// checkEnd: is it done, and what came behind.
func checkEnd(t *testing.T, name string, d *inflate.Decoder, stream string, want answer) {
	t.Helper()
	done := want.err == api.OK
	rest := ""
	if done {
		rest = stream[want.used:]
	}
	if d.Done() != done || d.Used() != want.used || d.Rest() != rest || d.Told() != len(want.told) {
		t.Fatalf("%s: of %x: done %v, %d used, the rest %x, %d told", name, stream, d.Done(), d.Used(), d.Rest(), d.Told())
	}
	if done || want.err == api.ErrMore {
		return
	}
	for _, more := range []string{"", "a", "\x03\x00"} {
		if s, err := d.Feed(more); s != "" || err != want.err || d.Done() || d.Used() != 0 || d.Rest() != "" || d.Told() != len(want.told) {
			t.Fatalf("%s: the error again: %q, %d", name, s, err)
		}
	}
}

func checkAll(t *testing.T, name, stream string, want answer) {
	t.Helper()
	s, rest, err := inflate.All(stream)
	if err != want.err {
		t.Fatalf("%s: All: %d, not %d", name, err, want.err)
	}
	wantRest := ""
	if err == api.OK {
		wantRest = stream[want.used:]
	} else {
		want.told = ""
	}
	if s != want.told || rest != wantRest {
		t.Fatalf("%s: All: %q, the rest %x", name, s, rest)
	}
}

// expect of a stream byte by byte: what is told in all, the error, and behind how many bytes this comes (OK: behind how many it is done).
func expect(t *testing.T, name, stream, told string, err api.Errno, behind int) {
	t.Helper()
	d := inflate.New()
	got := ""
	for i := range len(stream) {
		s, e := d.Feed(stream[i : i+1])
		got += s
		if want := err != api.OK && i+1 >= behind; want != (e != api.OK) || want && e != err {
			t.Errorf("%s: behind %d bytes %d", name, i+1, e)
		}
		if want := err == api.OK && i+1 >= behind; d.Done() != want {
			t.Errorf("%s: behind %d bytes done: %v", name, i+1, d.Done())
		}
	}
	if got != told {
		t.Errorf("%s: %q, not %q", name, got, told)
	}
	checkStream(t, name, stream)
}

// packed by the library.
func packed(t testing.TB, s string, level int) string {
	var b bytes.Buffer
	w, err := flate.NewWriter(&b, level)
	if err != nil {
		t.Fatal(err)
	}
	w.Write([]byte(s))
	w.Close()
	return b.String()
}

func randomText(r *rand.Rand, size, letters int) string {
	s := make([]byte, size)
	for i := range s {
		s[i] = byte(r.Intn(letters))
	}
	return string(s)
}

// sparse lengths: nought but for these symbols.
func sparse(n int, l map[int]int) []int {
	lengths := make([]int, n)
	for symbol, length := range l {
		lengths[symbol] = length
	}
	return lengths
}

// The chapter's example, and the whole's: the last block, of the kind 1, that tells nothing.
func TestExample(t *testing.T) {
	expect(t, "03 00", "\x03\x00", "", api.OK, 2)
	expect(t, "by its bits", new(maker).put(1, 1, 2, 1, 7, 0).stream(), "", api.OK, 2)
	expect(t, "with something behind", "\x03\x00abc", "", api.OK, 2)
}

// P7.1: nothing came yet.
func TestNew(t *testing.T) {
	d := inflate.New()
	for range 2 {
		if d.Done() || d.Rest() != "" || d.Used() != 0 || d.Told() != 0 {
			t.Error("something came")
		}
		if s, err := d.Feed(""); s != "" || err != api.OK {
			t.Error(s, err)
		}
	}
	if s, rest, err := inflate.All(""); s != "" || rest != "" || err != api.ErrMore {
		t.Error(s, rest, err)
	}
}

// P7.1, P7.4: a nil one.
func TestNil(t *testing.T) {
	var d *inflate.Decoder
	for _, s := range []string{"", "\x03\x00"} {
		if told, err := d.Feed(s); told != "" || err != api.ErrArg {
			t.Error(told, err)
		}
	}
	if d.Done() || d.Rest() != "" || d.Used() != 0 || d.Told() != 0 || d.Copy() != nil {
		t.Error("a nil one has something")
	}
}

// storedBlock of a text.
func storedBlock(last int, s string) string {
	return new(maker).put(3, last).put(5, 0, 16, len(s), 16, 65535-len(s)).stream() + s
}

// P7.1: blocks of the kind 0.
func TestStored(t *testing.T) {
	expect(t, "no bytes", storedBlock(1, ""), "", api.OK, 5)
	expect(t, "some", storedBlock(1, "abc"), "abc", api.OK, 8)
	expect(t, "more behind", storedBlock(1, "abc")+"d", "abc", api.OK, 8)
	expect(t, "two", storedBlock(0, "abc")+storedBlock(1, "de"), "abcde", api.OK, 15)
	expect(t, "none is the last", storedBlock(0, "abc")+storedBlock(0, ""), "abc", api.OK, 99)
	expect(t, "a part of it", storedBlock(1, "abc")[:7], "ab", api.OK, 99)
	long := randomText(rand.New(rand.NewSource(1)), 65535, 256)
	if s, rest, err := inflate.All(storedBlock(0, long) + storedBlock(1, long) + "x"); s != long+long || rest != "x" || err != api.OK {
		t.Error("65535 bytes", len(s), rest, err)
	}
}

// P7.1: nothing matters up to the next byte's beginning.
func TestStoredAligned(t *testing.T) {
	for filled := range 32 {
		expect(t, "filled", new(maker).put(3, 1, 5, filled, 16, 1, 16, 65534, 8, 'a').stream(), "a", api.OK, 6)
	}
	for skip := range 9 {
		m := new(maker)
		for range skip { // blocks of ten bits
			m.put(1, 0, 2, 1, 7, 0)
		}
		m.put(3, 1).w.Add("\x02\x00\xfd\xffhi")
		expect(t, "behind others", m.stream()+"!", "hi", api.OK, (10*skip+3+7)/8+6)
	}
}

// P7.1: ErrSize, when both numbers came, and not ahead of that.
func TestStoredSize(t *testing.T) {
	for _, s := range []string{"\x00\x00\x00\x00", "\x01\x00\xff\xff", "\xff\xff\xff\xff", "\x00\x01\xff\xff", "\x02\x00\xfe\xff", "\xff\xff\x01\x00", "\x05\x00\xfb\xff", "\xff\xff\x00\x80"} {
		expect(t, "numbers", "\x01"+s+"abc", "", api.ErrSize, 5)
		expect(t, "numbers, later", storedBlock(0, "abc")+"\x00"+s, "abc", api.ErrSize, 13)
	}
}

// P7.1: ErrForm of the kind 3.
func TestNoKind(t *testing.T) {
	for last := range 2 {
		expect(t, "at once", new(maker).put(1, last, 2, 3).stream()+"abc", "", api.ErrForm, 1)
		expect(t, "later", storedBlock(0, "ab")+new(maker).put(1, last, 2, 3).stream(), "ab", api.ErrForm, 8)
		// Behind two blocks of ten bits four bits are left of the third byte: here the three bits are whole.
		expect(t, "behind twenty bits", new(maker).put(10, 2, 10, 2, 1, last, 2, 3).stream()+"a", "", api.ErrForm, 3)
		// Behind three the kind's bits stand in the fourth and the fifth byte.
		expect(t, "over a byte's end", new(maker).put(10, 2, 10, 2, 10, 2, 1, last, 2, 3).stream()+"a", "", api.ErrForm, 5)
	}
}

// P7.1: of the kind 1 all bytes, all lengths and all distances' symbols.
func TestFixed(t *testing.T) {
	m := new(maker).put(3, 3)
	want := ""
	for b := range 256 {
		m.fixed(b)
		want += string([]byte{byte(b)})
	}
	m.fixed(256)
	expect(t, "all bytes", m.stream(), want, api.OK, (3+144*8+112*9+7+7)/8)

	m = new(maker).put(3, 3).fixed('x')
	size := 1
	for symbol := 257; symbol <= 285; symbol++ {
		extra := max(0, (symbol-261)/4)
		if symbol == 285 {
			extra = 0
		}
		for more := range 1 << extra {
			m.fixed(symbol).put(extra, more).dist(0, 0, 0)
		}
	}
	for n := 3; n <= 258; n++ {
		size += n
	}
	// 284 tells 258, too.
	size += 258
	if s, _, err := inflate.All(m.fixed(256).stream()); s != strings.Repeat("x", size) || err != api.OK {
		t.Error("all lengths", len(s), size, err)
	}
}

// P7.1: of the kind 1 all distances, the least and the greatest of each symbol.
func TestFixedDistances(t *testing.T) {
	ahead := randomText(rand.New(rand.NewSource(2)), 32768, 256)
	m := new(maker).put(3, 2)
	want := ahead
	for symbol := range 30 {
		extra := max(0, symbol/2-1)
		least := symbol + 1
		if symbol >= 4 {
			least = 1 + (2+symbol%2)<<extra
		}
		for _, more := range []int{0, 1<<extra - 1} {
			m.fixed(257).dist(symbol, extra, more)
			from := len(want) - least - more
			for k := range 3 {
				want += want[from+k : from+k+1]
			}
		}
	}
	s, rest, err := inflate.All(storedBlock(0, ahead[:16384]) + storedBlock(0, ahead[16384:]) + m.fixed(256).put(3, 3, 7, 0).stream())
	if s != want || rest != "" || err != api.OK {
		t.Error(len(s), len(want), rest, err)
	}
}

// P7.1: symbols of no length and of no distance, each when it came.
func TestFixedNoSymbol(t *testing.T) {
	for _, symbol := range []int{286, 287} {
		// three bits, and eight
		expect(t, "no length", new(maker).put(3, 3).fixed(symbol).stream()+"ab", "", api.ErrCode, 2)
		expect(t, "no length, behind a byte", new(maker).put(3, 3).fixed('a', symbol).stream()+"ab", "a", api.ErrCode, 3)
	}
	for _, symbol := range []int{30, 31} {
		// three, eight, seven and five bits: 23
		expect(t, "no distance", new(maker).put(3, 3).fixed('a', 257).dist(symbol, 0, 0).stream()+"ab", "a", api.ErrCode, 3)
		// a length's five bits ahead of it, though the symbol has eight: 29
		expect(t, "no distance, behind bits", new(maker).put(3, 3).fixed('a', 284).put(5, 1).dist(symbol, 0, 0).stream()+"ab", "a", api.ErrCode, 4)
	}
}

// P7.1: ErrDist, when the distance's bits came, and not ahead of that.
func TestTooFar(t *testing.T) {
	expect(t, "no byte", new(maker).put(3, 3).fixed(257).dist(0, 0, 0).stream()+"a", "", api.ErrDist, 2)
	expect(t, "two back of one", new(maker).put(3, 3).fixed('a', 257).dist(1, 0, 0).stream(), "a", api.ErrDist, 3)
	expect(t, "one back of one", new(maker).put(3, 3).fixed('a', 257).dist(0, 0, 0).fixed(256).stream(), "aaaa", api.OK, 4)
	// 3 and 7 and 5 bits, then 13: the symbol alone is too far, but its bits count.
	expect(t, "bits", new(maker).put(3, 3).fixed(257).dist(29, 13, 0).stream()+"a", "", api.ErrDist, 4)
	for told, want := range map[int]api.Errno{32767: api.ErrDist, 32768: api.OK, 32769: api.OK, 40000: api.OK} {
		ahead := randomText(rand.New(rand.NewSource(3)), told, 256)
		s, _, err := inflate.All(storedBlock(0, ahead) + new(maker).put(3, 3).fixed(257).dist(29, 13, 8191).fixed(256).stream())
		if err != want || err == api.OK && s != ahead+ahead[told-32768:][:3] {
			t.Error("32768 back of", told, len(s), err)
		}
	}
}

// P7.1: the three numbers of the kind 2: ErrRange, when all of them came.
func TestRange(t *testing.T) {
	for a := range 32 {
		for b := range 32 {
			for _, c := range []int{0, 15} {
				d := inflate.New()
				s := new(maker).put(3, 5, 5, a, 5, b, 4, c).stream()
				if _, err := d.Feed(s[:2]); err != api.OK {
					t.Error("ahead of all three", a, b, err)
				}
				want := api.OK
				if a > 29 || b > 29 {
					want = api.ErrRange
				}
				if _, err := d.Feed(s[2:]); err != want {
					t.Error(a, b, c, err)
				}
			}
		}
	}
	expect(t, "a 30", new(maker).put(3, 5, 5, 30, 5, 0, 4, 15).stream()+"abc", "", api.ErrRange, 3)
	expect(t, "b 30", new(maker).put(3, 5, 5, 0, 5, 30, 4, 15).stream()+"abc", "", api.ErrRange, 3)
	// 286 lengths of the one, 30 of the other.
	words, dists := append(repeated(226, 8), repeated(60, 9)...), append(repeated(28, 5), repeated(2, 4)...)
	most := new(maker).dynamic(1, words, dists).symbols(words, 'a', 257).symbols(dists, 0).symbols(words, 256).stream()
	expect(t, "as many as may be", most, "aaaa", api.OK, len(most))
}

// P7.1: the lengths of three bits are wrong, when all of them came.
func TestTriples(t *testing.T) {
	over := repeated(19, 1)
	expect(t, "too many", new(maker).head(1, 257, 1, over).stream()+"a", "", api.ErrOver, 10)
	expect(t, "too few", new(maker).head(1, 257, 1, sparse(19, map[int]int{0: 2, 1: 2, 18: 2})).stream()+"a", "", api.ErrCode, 10)
	expect(t, "none", new(maker).head(1, 257, 1, repeated(19, 0)).stream()+"a", "", api.ErrCode, 10)
	expect(t, "just one", new(maker).head(1, 257, 1, sparse(19, map[int]int{18: 1})).stream()+"a", "", api.ErrCode, 10)
	expect(t, "up to seven", new(maker).head(1, 257, 1, append(repeated(13, 4), 5, 5, 5, 5, 5, 6)).stream()+"a", "", api.ErrCode, 10)
	// Four lengths alone: of 16, 17, 18 and 0: 17 + 12 bits.
	four := new(maker).put(3, 5, 5, 0, 5, 0, 4, 0, 3, 2, 3, 2, 3, 2, 3, 1).stream()
	expect(t, "four are too many", four+"a", "", api.ErrOver, 4)
	four = new(maker).put(3, 5, 5, 0, 5, 0, 4, 0, 3, 2, 3, 2, 3, 2, 3, 2).put(1, 0, 1, 1).stream()
	expect(t, "of four lengths, the first one 16", four+"a", "", api.ErrForm, 4)
}

// P7.1: each of the lengths of three bits is that of its symbol.
func TestOrder(t *testing.T) {
	for symbol := range 19 {
		other := 1
		if symbol == 1 {
			other = 2
		}
		// Of two symbols each has one bit; the greater one's is 1. The lengths that they tell are wrong each in its own way.
		tellers := sparse(19, map[int]int{symbol: 1, other: 1})
		for bit := range 2 {
			m := new(maker).head(1, 257, 1, tellers)
			for range 40 {
				m.put(8, 255*bit)
			}
			checkStream(t, "two symbols", m.stream())
		}
	}
}

// P7.1: a symbol 16 with none ahead: when the symbol came, ahead of its bits.
func TestNoneAhead(t *testing.T) {
	// 17 and 57 bits, and 5 of the symbol's word: 79, so that its two bits reach into the next byte.
	s := new(maker).head(1, 257, 1, tellerLengths()).symbols(tellerLengths(), 16).stream()
	expect(t, "16 ahead of all", s+"a", "", api.ErrForm, 10)
	s = new(maker).head(1, 257, 1, tellerLengths()).symbols(tellerLengths(), 17).put(3, 0).symbols(tellerLengths(), 16).put(2, 0).stream()
	expect(t, "16 behind noughts", s, "", api.OK, 99)
}

// P7.1: lengths that are told again, over the end of those of bytes and lengths, too.
func TestRepeats(t *testing.T) {
	tellers := tellerLengths()
	m := new(maker).head(1, 257, 4, tellers)
	m.symbols(tellers, 2)              // the symbol 0
	m.symbols(tellers, 18).put(7, 127) // 138 noughts
	m.symbols(tellers, 18).put(7, 0)   // 11
	m.symbols(tellers, 18).put(7, 78)  // 89
	m.symbols(tellers, 17).put(3, 7)   // 10
	m.symbols(tellers, 17).put(3, 0)   // 3
	m.symbols(tellers, 0, 0, 2)        // 252, 253, 254
	m.symbols(tellers, 16).put(2, 3)   // 255, 256, and all four distances
	words, dists := sparse(257, map[int]int{0: 2, 254: 2, 255: 2, 256: 2}), repeated(4, 2)
	end := m.symbols(words, 0, 255, 254, 256).stream()
	expect(t, "repeats", end, "\x00\xff\xfe", api.OK, len(end))
	if again := new(maker).dynamic(1, words, dists).symbols(words, 0, 255, 254, 256).stream(); len(again) <= len(end) {
		t.Error("one by one", len(again), len(end))
	} else {
		expect(t, "one by one", again, "\x00\xff\xfe", api.OK, len(again))
	}
	// 3, 4, 5 and 6 times again: the lengths 7 of 128 symbols.
	m = new(maker).head(1, 257, 1, tellers).symbols(tellers, 7)
	many := 1
	for more := 0; many < 127; more = (more + 1) % 4 {
		m.symbols(tellers, 16).put(2, more)
		many += 3 + more
	}
	m.symbols(tellers, 18).put(7, 127-11).symbols(tellers, 0, 0, 7, 0)
	words = append(append(repeated(127, 7), repeated(129, 0)...), 7)
	end = m.symbols(words, 'a', 0, 126, 256).stream()
	expect(t, "again and again", end, "a\x00\x7e", api.OK, len(end))
}

// P7.1: too many lengths: ErrRange, when the symbol's bits came, and not ahead of that.
func TestTooManyLengths(t *testing.T) {
	tellers := tellerLengths()
	for _, x := range []struct {
		name               string
		symbol, bits, more int
	}{{"16", 16, 2, 0}, {"16, at most", 16, 2, 3}, {"17", 17, 3, 0}, {"17, at most", 17, 3, 7}, {"18", 18, 7, 0}, {"18, at most", 18, 7, 127}} {
		for _, left := range []int{1, 2} {
			m := new(maker).head(1, 257, 1, tellers).lengths(repeated(258-left, 8))
			m.symbols(tellers, x.symbol).put(x.bits, x.more)
			behind := (m.w.Len() + 7) / 8
			expect(t, x.name, m.stream()+"abc", "", api.ErrRange, behind)
		}
	}
	// They are too many without its bits, but these count: 1107 bits are there with the symbol's, so two of its seven are missing.
	m := new(maker).head(1, 257, 1, tellers).lengths(repeated(257, 8)).symbols(tellers, 18)
	if m.w.Len() != 1107 {
		t.Error(m.w.Len())
	}
	d := inflate.New()
	if _, err := d.Feed(m.stream()); err != api.OK {
		t.Error("ahead of its bits", err)
	}
	if _, err := d.Feed("\x00"); err != api.ErrRange {
		t.Error("behind its bits", err)
	}
}

// P7.1: what all lengths together are wrong in, by rank, when the last one came.
func TestTakenCodes(t *testing.T) {
	good := sparse(257, map[int]int{0: 1, 256: 1})
	for _, x := range []struct {
		name         string
		words, dists []int
		err          api.Errno
	}{
		{"256 has no word", sparse(257, map[int]int{0: 1, 1: 1}), []int{1}, api.ErrEnd},
		{"256 has no word, too many", repeated(256, 1), nil, api.ErrEnd},
		{"256 has no word, no other one either", repeated(257, 0), []int{0}, api.ErrEnd},
		{"256 has no word, too many distances", sparse(257, map[int]int{0: 1, 1: 1}), []int{1, 1, 1}, api.ErrEnd},
		{"too many", sparse(257, map[int]int{0: 1, 1: 1, 256: 1}), []int{0}, api.ErrOver},
		{"too many, distances too few", repeated(257, 7), []int{2}, api.ErrOver},
		{"too few", sparse(257, map[int]int{0: 2, 256: 1}), []int{1}, api.ErrCode},
		{"too few, distances too many", sparse(257, map[int]int{0: 2, 256: 1}), []int{1, 1, 1}, api.ErrCode},
		{"just one", sparse(257, map[int]int{256: 1}), []int{0}, api.ErrCode},
		{"distances too many", good, []int{1, 1, 1}, api.ErrOver},
		{"distances too few", good, []int{1, 2}, api.ErrCode},
		{"just one distance, of two bits", good, []int{2}, api.ErrCode},
		{"two of them", good, []int{2, 0, 2}, api.ErrCode},
	} {
		words, dists := x.words, x.dists
		if len(words) < 257 {
			words = append(words, 0)
		}
		if dists == nil {
			dists = []int{0}
		}
		m := new(maker).dynamic(1, words, dists)
		behind := (m.w.Len() + 7) / 8
		expect(t, x.name, m.stream()+"abcd", "", x.err, behind)
	}
}

// P7.1: of distances there may be no code, or one word of one bit alone.
func TestLooseDistances(t *testing.T) {
	words := sparse(258, map[int]int{'a': 2, 'b': 2, 256: 2, 257: 2})
	for name, dists := range map[string][]int{"none": {0}, "one": {1}, "a later one": {0, 0, 1}} {
		m := new(maker).dynamic(1, words, dists).symbols(words, 'a', 'b', 256)
		behind := (m.w.Len() + 7) / 8
		expect(t, name, m.stream(), "ab", api.OK, behind)
	}
	one := new(maker).dynamic(1, words, []int{0, 1}).symbols(words, 'a', 'b', 257).put(1, 0).symbols(words, 256)
	behind := (one.w.Len() + 7) / 8
	expect(t, "by the one", one.stream(), "ababa", api.OK, behind)
	other := new(maker).dynamic(1, words, []int{0, 1}).symbols(words, 'a', 'b', 257).put(1, 1)
	behind = (other.w.Len() + 7) / 8
	expect(t, "no word", other.stream()+"a", "ab", api.ErrCode, behind)
	none := new(maker).dynamic(1, words, []int{0}).symbols(words, 'a', 'b', 257).put(1, 0)
	behind = (none.w.Len() + 7) / 8
	expect(t, "no words at all", none.stream()+"a", "ab", api.ErrCode, behind)
}

// P7.1: blocks of all kinds behind one another: each has its own codes, matches go back over all of them.
func TestManyBlocks(t *testing.T) {
	words := sparse(258, map[int]int{'a': 2, 'b': 2, 256: 2, 257: 2})
	dists := []int{0, 0, 0, 0, 0, 1}
	m := new(maker).put(3, 2).fixed('x', 256)
	m.put(3, 2).fixed('y', 256)
	m.dynamic(0, words, []int{0, 1}).symbols(words, 'a', 257).put(1, 0).symbols(words, 256)
	m.put(3, 2).fixed('z', 257).dist(4, 1, 0).fixed(256)
	m.dynamic(0, words, dists).symbols(words, 'b', 257).put(1, 0, 1, 1).symbols(words, 256)
	m.put(3, 0).w.Add("\x02\x00\xfd\xffhi")
	m.put(3, 3).fixed(257).dist(3, 0, 0).fixed(256)
	s := m.stream()
	expect(t, "blocks", s+"!", "xya"+"yay"+"z"+"aya"+"b"+"yay"+"hi"+"ayh", api.OK, len(s))
}

// P7.2: the rest, and how much was used, as more comes behind.
func TestRest(t *testing.T) {
	stream := packed(t, "hello, hello", 9)
	d := inflate.New()
	for i := range len(stream) {
		if d.Done() || d.Rest() != "" || d.Used() != 0 {
			t.Error("ahead of the end", i)
		}
		d.Feed(stream[i : i+1])
	}
	rest := ""
	for _, more := range []string{"", "a", "", "\x03\x00", strings.Repeat("b", 1000)} {
		if s, err := d.Feed(more); s != "" || err != api.OK {
			t.Error(s, err)
		}
		rest += more
		if !d.Done() || d.Rest() != rest || d.Used() != len(stream) || d.Told() != 12 {
			t.Error(d.Done(), d.Rest(), d.Used(), d.Told())
		}
	}
}

// P7.3, P3: what the library packed.
func TestPacked(t *testing.T) {
	r := rand.New(rand.NewSource(4))
	for level := -2; level <= 9; level++ {
		for _, letters := range []int{1, 2, 5, 30, 256} {
			for _, size := range []int{0, 1, 2, 3, 100, 5000, 100000} {
				text := randomText(r, size, letters)
				stream := packed(t, text, level)
				if s, rest, err := inflate.All(stream + "rest"); s != text || rest != "rest" || err != api.OK {
					t.Fatal(level, letters, size, len(s), rest, err)
				}
				if _, _, err := inflate.All(stream[:len(stream)-1]); err != api.ErrMore {
					t.Fatal(level, letters, size, err)
				}
			}
		}
	}
}

// P7.3: cut into pieces anyhow.
func TestPieces(t *testing.T) {
	r := rand.New(rand.NewSource(5))
	text := randomText(r, 40000, 4) + randomText(r, 3000, 256) + strings.Repeat("abc", 5000)
	for _, level := range []int{-2, 0, 1, 6, 9} {
		stream := packed(t, text, level) + "the rest"
		for _, most := range []int{1, 2, 7, 1000, 50000} {
			d := inflate.New()
			var told strings.Builder
			for left := stream; left != ""; {
				n := min(len(left), r.Intn(most+1))
				s, err := d.Feed(left[:n])
				if err != api.OK {
					t.Fatal(err)
				}
				told.WriteString(s)
				if d.Told() != told.Len() {
					t.Fatal("Told", d.Told(), told.Len())
				}
				left = left[n:]
			}
			if told.String() != text || !d.Done() || d.Rest() != "the rest" || d.Used() != len(stream)-8 {
				t.Fatal(level, most, told.Len(), d.Done(), d.Rest(), d.Used())
			}
		}
	}
}

// smallStreams: of all kinds of blocks.
func smallStreams(t testing.TB, r *rand.Rand) []string {
	l := []string{"\x03\x00", storedBlock(0, "abc") + storedBlock(1, "")}
	for _, level := range []int{-2, 0, 1, 9} {
		l = append(l, packed(t, "abcabcabcabcabdabdabdabcc", level), packed(t, randomText(r, 60, 3), level))
	}
	words := sparse(260, map[int]int{'a': 2, 'b': 2, 256: 3, 257: 3, 258: 3, 259: 3})
	dists := []int{2, 2, 2, 3, 3}
	m := new(maker).dynamic(0, words, dists).symbols(words, 'a', 'b', 257).symbols(dists, 1).symbols(words, 258).symbols(dists, 4).put(1, 0).symbols(words, 256)
	m.put(3, 2).fixed('x', 265).put(1, 1).dist(5, 1, 1).fixed(256)
	return append(l, m.put(3, 1).stream()+"\x03\x00\xfc\xffxyz and more")
}

// P7.1, P7.3, P4: streams with bits that are turned, and bytes that are lost, byte by byte.
func TestSpoiled(t *testing.T) {
	r := rand.New(rand.NewSource(6))
	seen := map[api.Errno]int{}
	for _, stream := range smallStreams(t, r) {
		checkStream(t, "whole", stream)
		for range 300 {
			b := []byte(stream)
			for range 1 + r.Intn(3) {
				k := r.Intn(len(b))
				if r.Intn(2) == 0 {
					k = r.Intn(min(len(b), 16)) // the heads have more to be wrong
				}
				b[k] ^= 1 << r.Intn(8)
			}
			if r.Intn(4) == 0 {
				b = append(b[:r.Intn(len(b))], b[r.Intn(len(b)):]...)
			}
			checkStream(t, "spoiled", string(b))
			seen[modelOf(string(b)).err]++
		}
	}
	for _, err := range []api.Errno{api.OK, api.ErrMore, api.ErrForm, api.ErrCode, api.ErrOver, api.ErrDist, api.ErrSize, api.ErrRange} {
		if seen[err] == 0 {
			t.Error("no stream with the error", err)
		}
	}
}

// P7.1, P4: any bytes.
func TestAnyBytes(t *testing.T) {
	r := rand.New(rand.NewSource(7))
	for range 500 {
		s := []byte(randomText(r, 1+r.Intn(40), 256))
		switch r.Intn(3) {
		case 0:
			s[0] = s[0]&^7 | 2 | byte(r.Intn(2))
		case 1:
			s[0] = s[0]&^7 | 4 | byte(r.Intn(2))
		}
		checkStream(t, "any bytes", string(s))
	}
}

// P7.1: no bytes are told ahead of what is there, and all that is there is told.
func TestToldAsItComes(t *testing.T) {
	d := inflate.New()
	// Three bits, then bytes of eight: each byte that comes tells the one whose last three bits are in it.
	s := new(maker).put(3, 3).fixed('a', 'b', 'c', 'd', 256).stream()
	want := []string{"", "a", "b", "c", "d", ""}
	for i := range len(s) {
		if told, err := d.Feed(s[i : i+1]); told != want[i] || err != api.OK {
			t.Error(i, told, err)
		}
	}
	if !d.Done() {
		t.Error("not done")
	}
	stored := storedBlock(1, "abc")
	d = inflate.New()
	d.Feed(stored[:5])
	for i := range 3 {
		if told, err := d.Feed(stored[5+i : 6+i]); told != "abc"[i:i+1] || err != api.OK {
			t.Error(i, told, err)
		}
	}
}

// P7.4: a copy behind each byte goes on as the first one would, and neither changes the other.
func TestCopy(t *testing.T) {
	r := rand.New(rand.NewSource(8))
	streams := smallStreams(t, r)
	for _, stream := range streams {
		streams = append(streams, stream[:len(stream)/2]+"\xff\xff\xff"+stream[len(stream)/2:])
	}
	for _, stream := range streams {
		want := modelOf(stream)
		for cut := range len(stream) + 1 {
			d := inflate.New()
			first, _ := d.Feed(stream[:cut])
			others := []*inflate.Decoder{d.Copy(), d.Copy()}
			others = append(others, others[0].Copy())
			others[0].Feed("\x55\xaa\x00\xff and something else")
			for _, x := range []*inflate.Decoder{others[2], d, others[1]} {
				if x.Told() != len(first) {
					t.Fatal("another one's bytes count", x.Told(), len(first))
				}
				told := first
				for i := cut; i < len(stream); i++ {
					s, _ := x.Feed(stream[i : i+1])
					told += s
				}
				if told != want.told {
					t.Fatalf("%x cut at %d: %q, not %q", stream, cut, told, want.told)
				}
				checkEnd(t, "copy", x, stream, want)
			}
		}
	}
}

// inTurn: a beginning is fed to one, then to it and a copy by turns what comes behind it for each: what both tell.
func inTurn(begun, behind, other string, step int) ([2]*inflate.Decoder, [2]string) {
	d := inflate.New()
	first, _ := d.Feed(begun)
	both, told := [2]*inflate.Decoder{d, d.Copy()}, [2]string{first, first}
	left := [2]string{behind, other}
	for left[0] != "" || left[1] != "" {
		for i, x := range both {
			n := min(step, len(left[i]))
			s, _ := x.Feed(left[i][:n])
			told[i] += s
			left[i] = left[i][n:]
		}
	}
	return both, told
}

// P7.4: one and its copy are fed different bytes by turns, cut within all parts.
func TestCopyInTurn(t *testing.T) {
	r := rand.New(rand.NewSource(9))
	for _, stream := range smallStreams(t, r) {
		for cut := range len(stream) {
			for range 20 {
				spoiled := []byte(stream)
				for range 1 + r.Intn(3) {
					spoiled[min(cut+r.Intn(8), len(stream)-1)] ^= 1 << r.Intn(8)
				}
				streams := [2]string{stream, string(spoiled)}
				if r.Intn(2) == 0 {
					streams = [2]string{string(spoiled), stream}
				}
				both, told := inTurn(stream[:cut], streams[0][cut:], streams[1][cut:], 1)
				for i, x := range both {
					want := modelOf(streams[i])
					if told[i] != want.told {
						t.Fatalf("%x cut at %d: %q, not %q", streams[i], cut, told[i], want.told)
					}
					checkEnd(t, "in turn", x, streams[i], want)
				}
			}
		}
	}
}

// P7.4: what was told ahead of the copy, and what each tells by itself, is there for the matches of each.
func TestCopyMatches(t *testing.T) {
	r := rand.New(rand.NewSource(10))
	for _, size := range []int{0, 10, 5000, 32768, 50000} {
		ahead := randomText(r, size, 256)
		a, b := randomText(r, 600, 256), randomText(r, 600, 256)
		match := new(maker).put(3, 3).fixed(285).dist(18, 8, 87).fixed(256).stream() // 258 from 600 back
		both, told := inTurn(storedBlock(0, ahead), storedBlock(0, a)+match, storedBlock(0, b)+match, 7)
		if told[0] != ahead+a+a[:258] || told[1] != ahead+b+b[:258] || !both[0].Done() || !both[1].Done() {
			t.Error(size, len(told[0]), len(told[1]))
		}
		match = new(maker).put(3, 3).fixed(285).dist(26, 12, 0).fixed(256).stream() // from 8193 back
		if size > 8193 {
			_, told = inTurn(storedBlock(0, ahead), storedBlock(0, a)+match, storedBlock(0, b[:50])+match, 7)
			if told[0] != ahead+a+(ahead + a)[size+600-8193:][:258] || told[1] != ahead+b[:50]+(ahead + b)[size+50-8193:][:258] {
				t.Error(size, "farther back")
			}
		}
	}
}

// P7.4: copies of one that has told much, and of one behind its end.
func TestCopyLong(t *testing.T) {
	r := rand.New(rand.NewSource(11))
	text := randomText(r, 50000, 200)
	text += text[20000:45000]
	stream := packed(t, text, 9)
	for _, cut := range []int{1, 1000, 40000, len(stream) - 1} {
		d := inflate.New()
		first, _ := d.Feed(stream[:cut])
		other := d.Copy()
		d.Feed(randomText(r, 1000, 256))
		s, err := other.Feed(stream[cut:])
		if first+s != text || err != api.OK || !other.Done() || other.Used() != len(stream) {
			t.Error(cut, len(first), len(s), err)
		}
	}
	d := inflate.New()
	d.Feed(stream + "abc")
	other := d.Copy()
	d.Feed("d")
	other.Feed("e")
	if d.Rest() != "abcd" || other.Rest() != "abce" || d.Used() != len(stream) || other.Used() != len(stream) || other.Told() != len(text) {
		t.Error(d.Rest(), other.Rest())
	}
}

// P7.1: a stream of very many blocks, and one that tells very much.
func TestMuch(t *testing.T) {
	m := new(maker)
	for range 200000 {
		m.put(10, 2)
	}
	if s, _, err := inflate.All(m.put(10, 3).stream()); s != "" || err != api.OK {
		t.Error(len(s), err)
	}
	text := strings.Repeat("\x00", 1<<24)
	if s, _, err := inflate.All(packed(t, text, 9)); s != text || err != api.OK {
		t.Error(len(s), err)
	}
}
