package lz_test

import (
	"math"
	"math/rand"
	"slices"
	"strings"
	"testing"

	"lighter/api"
	"lighter/lz"
)

// group: what one symbol tells: so many lengths or distances, from the least one on.
type group struct {
	symbol, least, extra, many int
}

// groups: all symbols, by the document's words: so many ahead without extra bits, then for each number of extra bits as many symbols.
func groups(symbol, least, plain, most, each int) []group {
	var l []group
	add := func(extra int) {
		l = append(l, group{symbol, least, extra, 1 << extra})
		symbol++
		least += 1 << extra
	}
	for range plain {
		add(0)
	}
	for e := 1; e <= most; e++ {
		for range each {
			add(e)
		}
	}
	return l
}

// lengthGroups: 284 could tell 258, which 285 tells.
func lengthGroups() []group {
	l := groups(257, 3, 8, 5, 4)
	l[len(l)-1].many--
	return append(l, group{285, 258, 0, 1})
}

func distGroups() []group { return groups(0, 1, 4, 13, 2) }

// token of a byte.
func byteOf(b byte) lz.Token { return lz.Token{Byte: b} }

// match of so many bytes from so far back.
func match(n, dist int) lz.Token { return lz.Token{Len: n, Dist: dist} }

// bytesOf: a text's bytes as tokens.
func bytesOf(s string) []lz.Token {
	var l []lz.Token
	for i := range len(s) {
		l = append(l, byteOf(s[i]))
	}
	return l
}

func randomText(r *rand.Rand, size int) string {
	s := make([]byte, size)
	r.Read(s)
	return string(s)
}

// badTokens: such as may not be.
func badTokens() []lz.Token {
	l := []lz.Token{
		match(0, 1), match(0, -1), match(3, 0), match(258, 0), {Byte: 'a', Len: 3, Dist: 1}, {Byte: 255, Len: 258, Dist: 32768},
		{Byte: 'a', Dist: 1}, {Byte: 'a', Len: 1}, {Len: 3}, {Len: -3, Dist: 3}, match(1, 1), match(2, 1), match(2, 2),
	}
	for _, n := range []int{-1, 1, 2, 259, 260, 514, 65539, math.MinInt, math.MaxInt} {
		l = append(l, match(n, 1), match(n, 0))
	}
	for _, dist := range []int{-1, 32769, 65536, 65537, math.MinInt, math.MaxInt} {
		l = append(l, match(3, dist), match(0, dist))
	}
	return l
}

// P5.1: Good.
func TestGood(t *testing.T) {
	for b := range 256 {
		if !byteOf(byte(b)).Good() {
			t.Error("the byte", b)
		}
	}
	for _, n := range []int{3, 4, 10, 11, 257, 258} {
		for _, dist := range []int{1, 2, 3, 258, 259, 32767, 32768} {
			if !match(n, dist).Good() {
				t.Error(n, dist)
			}
		}
	}
	for _, x := range badTokens() {
		if x.Good() {
			t.Error(x)
		}
	}
}

// P5.1, P5.2: each length, each symbol's least one, and what it has at most.
func TestLength(t *testing.T) {
	next := 3
	for _, g := range lengthGroups() {
		least, extra, ok := lz.LengthOf(g.symbol)
		if least != g.least || extra != g.extra || !ok {
			t.Errorf("symbol %d: %d, %d, %v, not %d, %d", g.symbol, least, extra, ok, g.least, g.extra)
		}
		for k := range g.many {
			want := lz.Extra{Symbol: g.symbol, Bits: g.extra, Value: uint64(k)}
			if x := lz.Length(g.least + k); x != want {
				t.Errorf("Length(%d): %v, not %v", g.least+k, x, want)
			}
			next++
		}
	}
	if next != 259 {
		t.Error("lengths up to", next)
	}
}

// P5.1, P5.2: each distance.
func TestDist(t *testing.T) {
	next := 1
	for _, g := range distGroups() {
		least, extra, ok := lz.DistOf(g.symbol)
		if least != g.least || extra != g.extra || !ok {
			t.Errorf("symbol %d: %d, %d, %v, not %d, %d", g.symbol, least, extra, ok, g.least, g.extra)
		}
		for k := range g.many {
			want := lz.Extra{Symbol: g.symbol, Bits: g.extra, Value: uint64(k)}
			if x := lz.Dist(g.least + k); x != want {
				t.Errorf("Dist(%d): %v, not %v", g.least+k, x, want)
			}
			next++
		}
	}
	if next != 32769 {
		t.Error("distances up to", next)
	}
}

// P5.1: some by their numbers, written out.
func TestSymbolsWrittenOut(t *testing.T) {
	for n, want := range map[int]lz.Extra{
		3: {257, 0, 0}, 10: {264, 0, 0}, 11: {265, 1, 0}, 12: {265, 1, 1}, 18: {268, 1, 1}, 19: {269, 2, 0}, 34: {272, 2, 3}, 35: {273, 3, 0},
		66: {276, 3, 7}, 67: {277, 4, 0}, 130: {280, 4, 15}, 131: {281, 5, 0}, 227: {284, 5, 0}, 257: {284, 5, 30}, 258: {285, 0, 0},
	} {
		if x := lz.Length(n); x != want {
			t.Errorf("Length(%d): %v, not %v", n, x, want)
		}
	}
	for n, want := range map[int]lz.Extra{
		1: {0, 0, 0}, 4: {3, 0, 0}, 5: {4, 1, 0}, 6: {4, 1, 1}, 8: {5, 1, 1}, 9: {6, 2, 0}, 12: {6, 2, 3}, 13: {7, 2, 0}, 257: {16, 7, 0},
		16385: {28, 13, 0}, 24576: {28, 13, 8191}, 24577: {29, 13, 0}, 32768: {29, 13, 8191},
	} {
		if x := lz.Dist(n); x != want {
			t.Errorf("Dist(%d): %v, not %v", n, x, want)
		}
	}
}

// P5.1: no lengths, and no distances.
func TestNoLength(t *testing.T) {
	for _, n := range []int{0, 1, 2, -1, -3, -258, 259, 260, 1 << 32, 1<<32 + 3, math.MinInt, math.MaxInt} {
		if x := lz.Length(n); x != (lz.Extra{}) {
			t.Errorf("Length(%d): %v", n, x)
		}
	}
	for _, n := range []int{0, -1, -32768, 32769, 65536, 1 << 32, 1<<32 + 1, math.MinInt, math.MaxInt} {
		if x := lz.Dist(n); x != (lz.Extra{}) {
			t.Errorf("Dist(%d): %v", n, x)
		}
	}
}

// P5.2: no symbols.
func TestNoSymbol(t *testing.T) {
	for _, symbol := range []int{0, 1, 255, 256, 286, 287, 288, -1, -257, 1<<32 + 257, math.MinInt, math.MaxInt} {
		if least, extra, ok := lz.LengthOf(symbol); least != 0 || extra != 0 || ok {
			t.Errorf("LengthOf(%d): %d, %d, %v", symbol, least, extra, ok)
		}
	}
	for _, symbol := range []int{-1, 30, 31, 32, 257, 1 << 32, math.MinInt, math.MaxInt} {
		if least, extra, ok := lz.DistOf(symbol); least != 0 || extra != 0 || ok {
			t.Errorf("DistOf(%d): %d, %d, %v", symbol, least, extra, ok)
		}
	}
}

// P5.3, and the chapter's example.
func TestExpand(t *testing.T) {
	far := randomText(rand.New(rand.NewSource(1)), api.Window)
	for _, x := range []struct {
		told  string
		ahead string
		l     []lz.Token
		want  string
	}{
		{"nothing", "", nil, ""},
		{"nothing behind a text", "abc", nil, ""},
		{"the example", "ab", []lz.Token{match(3, 2)}, "aba"},
		{"bytes", "x", bytesOf("ab\x00\xff"), "ab\x00\xff"},
		{"just what is there", "abc", []lz.Token{match(3, 3)}, "abc"},
		{"less than all", "abcd", []lz.Token{match(3, 4)}, "abc"},
		{"one byte again and again", "", []lz.Token{byteOf('a'), match(258, 1)}, strings.Repeat("a", 259)},
		{"into what it makes", "abc", []lz.Token{match(8, 3)}, "abcabcab"},
		{"a byte between", "", []lz.Token{byteOf('a'), byteOf('b'), match(4, 2), byteOf('c'), match(3, 7)}, "abababcaba"},
		{"over the end of what is ahead", "ab", []lz.Token{byteOf('c'), match(5, 3)}, "cabcab"},
		{"as far as may be", far, []lz.Token{match(258, 32768)}, far[:258]},
		{"as far as may be, with more ahead", "xyz" + far, []lz.Token{match(258, 32768), match(3, 32768)}, far[:261]},
		{"as far as may be, behind a byte", far, []lz.Token{byteOf('x'), match(3, 32768)}, "x" + far[1:4]},
	} {
		given := slices.Clone(x.l)
		if s, ok := lz.Expand(x.ahead, given); s != x.want || !ok || !slices.Equal(given, x.l) {
			t.Errorf("%s: %q, %v, not %q", x.told, s, ok, x.want)
		}
	}
}

// P5.3: tokens that aren't Good, or go back too far, wherever they stand.
func TestExpandWrong(t *testing.T) {
	for _, bad := range badTokens() {
		for _, l := range [][]lz.Token{{bad}, {byteOf('a'), bad}, {bad, byteOf('a')}, {match(3, 1), bad, match(3, 1)}} {
			if s, ok := lz.Expand(strings.Repeat("a", 70000), l); s != "" || ok {
				t.Errorf("%v: %q, %v", l, s, ok)
			}
		}
	}
	for _, x := range []struct {
		ahead string
		l     []lz.Token
	}{
		{"", []lz.Token{match(3, 1)}},
		{"ab", []lz.Token{match(3, 3)}},
		{"ab", []lz.Token{match(258, 3), byteOf('a')}},
		{"", []lz.Token{byteOf('a'), match(3, 2)}},
		{"a", []lz.Token{match(3, 1), match(3, 5)}},
		{strings.Repeat("a", 32767), []lz.Token{match(3, 32768)}},
	} {
		if s, ok := lz.Expand(x.ahead, x.l); s != "" || ok {
			t.Errorf("%v: %q, %v", x.l, s, ok)
		}
	}
	if s, ok := lz.Expand("a", []lz.Token{match(3, 1), match(3, 4)}); s != "aaaaaa" || !ok {
		t.Error("as far as there are bytes", s, ok)
	}
}

// randomTokens behind so many bytes, and what they tell, byte by byte.
func randomTokens(r *rand.Rand, ahead string) ([]lz.Token, string) {
	all := ahead
	var l []lz.Token
	for range r.Intn(30) {
		if len(all) == 0 || r.Intn(3) == 0 {
			b := byte(r.Intn(256))
			l = append(l, byteOf(b))
			all += string([]byte{b})
			continue
		}
		x := match(3+r.Intn(1<<r.Intn(9)), 1+r.Intn(min(len(all), api.Window)))
		x.Len = min(x.Len, 258)
		l = append(l, x)
		for range x.Len {
			all += all[len(all)-x.Dist:][:1]
		}
	}
	return l, all[len(ahead):]
}

// P5.3, P5.4: random tokens: what they tell, how much, and cut anywhere.
func TestExpandCoverCut(t *testing.T) {
	r := rand.New(rand.NewSource(2))
	for range 200 {
		ahead := randomText(r, r.Intn(40))
		l, want := randomTokens(r, ahead)
		if s, ok := lz.Expand(ahead, l); s != want || !ok {
			t.Fatalf("%v behind %q: %q, %v, not %q", l, ahead, s, ok, want)
		}
		if n := lz.Cover(l); n != len(want) {
			t.Fatalf("%v: %d, not %d", l, n, len(want))
		}
		for n := -1; n <= len(want)+1; n++ {
			checkCut(t, ahead, l, want, n)
		}
	}
}

// checkCut of tokens that tell text behind ahead.
func checkCut(t *testing.T, ahead string, l []lz.Token, text string, n int) {
	t.Helper()
	given := slices.Clone(l)
	a, b, ok := lz.Cut(given, n)
	if !slices.Equal(given, l) {
		t.Fatalf("%v is changed: %v", l, given)
	}
	wantA, wantB, want := cutByWords(l, n)
	if ok != want || !slices.Equal(a, wantA) || !slices.Equal(b, wantB) {
		t.Fatalf("%v cut at %d: %v, %v, %v", l, n, a, b, ok)
	}
	if !ok {
		return
	}
	s, _ := lz.Expand(ahead, a)
	rest, _ := lz.Expand(ahead+s, b)
	if s != text[:n] || rest != text[n:] {
		t.Fatalf("%v cut at %d tell %q, %q", l, n, s, rest)
	}
}

// cutByWords: tokens one by one, by where they begin and end.
func cutByWords(l []lz.Token, n int) ([]lz.Token, []lz.Token, bool) {
	var a, b []lz.Token
	end := 0
	for _, x := range l {
		begin := end
		end += max(1, x.Len)
		switch {
		case end <= n:
			a = append(a, x)
		case begin >= n:
			b = append(b, x)
		case n-begin < 3 || end-n < 3:
			return nil, nil, false
		default:
			a = append(a, match(n-begin, x.Dist))
			b = append(b, match(end-n, x.Dist))
		}
	}
	if n < 0 || n > end {
		return nil, nil, false
	}
	return a, b, true
}

// P5.4: Cover, whether the bytes are there or not.
func TestCover(t *testing.T) {
	for _, x := range []struct {
		l    []lz.Token
		want int
	}{
		{nil, 0},
		{[]lz.Token{}, 0},
		{bytesOf("a"), 1},
		{bytesOf("\x00\x00"), 2},
		{[]lz.Token{match(3, 32768)}, 3},
		{[]lz.Token{match(258, 1)}, 258},
		{[]lz.Token{match(258, 9), byteOf(0), match(3, 7), byteOf('a')}, 263},
		{slices.Repeat([]lz.Token{match(258, 32768)}, 1000), 258000},
	} {
		if n := lz.Cover(x.l); n != x.want {
			t.Errorf("%v: %d, not %d", x.l, n, x.want)
		}
	}
	for _, bad := range badTokens() {
		for _, l := range [][]lz.Token{{bad}, {byteOf('a'), bad}, {bad, match(3, 1)}, {byteOf('a'), bad, byteOf('a')}} {
			if n := lz.Cover(l); n != -1 {
				t.Errorf("%v: %d", l, n)
			}
		}
	}
}

// P5.4: a match that is cut, also too near one of its ends.
func TestCutMatch(t *testing.T) {
	for _, size := range []int{3, 4, 5, 6, 7, 257, 258} {
		l := []lz.Token{byteOf('a'), match(size, 5), byteOf('b')}
		for n := range size + 3 {
			a, b, ok := lz.Cut(l, n)
			ahead := n - 1
			behind := size - ahead
			inside := ahead > 0 && behind > 0
			if want := !inside || ahead >= 3 && behind >= 3; ok != want {
				t.Errorf("%d of %d: %v", ahead, size, ok)
			} else if !ok && (len(a) > 0 || len(b) > 0) {
				t.Errorf("%d of %d: %v, %v beside false", ahead, size, a, b)
			} else if ok && inside && (!slices.Equal(a, []lz.Token{byteOf('a'), match(ahead, 5)}) || !slices.Equal(b, []lz.Token{match(behind, 5), byteOf('b')})) {
				t.Errorf("%d of %d: %v, %v", ahead, size, a, b)
			}
		}
	}
}

// P5.4: at both ends, and beyond them.
func TestCutEnds(t *testing.T) {
	l := []lz.Token{byteOf('a'), match(10, 32768)}
	if a, b, ok := lz.Cut(l, 0); len(a) != 0 || !slices.Equal(b, l) || !ok {
		t.Error(a, b, ok)
	}
	if a, b, ok := lz.Cut(l, 11); !slices.Equal(a, l) || len(b) != 0 || !ok {
		t.Error(a, b, ok)
	}
	if a, b, ok := lz.Cut(nil, 0); len(a) != 0 || len(b) != 0 || !ok {
		t.Error(a, b, ok)
	}
	for _, n := range []int{-1, -11, 12, math.MinInt, math.MaxInt} {
		if a, b, ok := lz.Cut(l, n); len(a) != 0 || len(b) != 0 || ok {
			t.Error(n, a, b, ok)
		}
	}
	for _, n := range []int{-1, 1} {
		if a, b, ok := lz.Cut(nil, n); len(a) != 0 || len(b) != 0 || ok {
			t.Error(n, a, b, ok)
		}
	}
}

// P5.4: of tokens that aren't Good there is no cut, wherever they stand.
func TestCutWrong(t *testing.T) {
	for _, bad := range badTokens() {
		for _, l := range [][]lz.Token{{bad}, append(bytesOf("abc"), bad), append([]lz.Token{bad}, bytesOf("abc")...)} {
			for _, n := range []int{-1, 0, 1, 2, 3, 4, 6} {
				if a, b, ok := lz.Cut(l, n); len(a) != 0 || len(b) != 0 || ok {
					t.Errorf("%v cut at %d: %v, %v, %v", l, n, a, b, ok)
				}
			}
		}
	}
}

// P5.4: what Cut answers is new memory, and what is handed in stays, with the room behind it.
func TestCutNew(t *testing.T) {
	given := []lz.Token{byteOf('a'), match(10, 3), byteOf('b'), byteOf('c'), byteOf('d')}
	want := slices.Clone(given)
	for n := range 13 {
		a, b, ok := lz.Cut(given[:3], n)
		if !ok {
			continue
		}
		wantA, wantB := slices.Clone(a), slices.Clone(b)
		moreA := append(a, byteOf('x'), byteOf('y'), byteOf('z'))
		if !slices.Equal(b, wantB) {
			t.Fatal("the lists share memory, cut at", n)
		}
		moreB := append(b, byteOf('x'), byteOf('y'), byteOf('z'))
		clear(moreB)
		if !slices.Equal(moreA[:len(a)], wantA) || !slices.Equal(a, wantA) {
			t.Fatal("the lists share memory, cut at", n)
		}
		clear(moreA)
		clear(a)
		clear(b)
		if !slices.Equal(given, want) {
			t.Fatal("what was handed in is changed, cut at", n)
		}
	}
}
