package match_test

import (
	"math"
	"math/rand"
	"slices"
	"strings"
	"testing"

	"lighter/api"
	"lighter/lz"
	"lighter/match"
)

func randomText(r *rand.Rand, size, letters int) string {
	s := make([]byte, size)
	for i := range s {
		s[i] = 'a' + byte(r.Intn(letters))
	}
	return string(s)
}

// common: how many first bytes of s are those that stand dist ahead, by the document's words.
func common(all string, at, dist int) int {
	n := 0
	for n < 258 && at+n < len(all) && all[at+n] == all[at+n-dist] {
		n++
	}
	return n
}

// longest match, by going through all distances.
func longest(ahead, s string) (int, int) {
	all, size, dist := ahead+s, 0, 0
	for d := 1; d <= len(ahead) && d <= 32768; d++ {
		if n := common(all, len(ahead), d); n > size {
			size, dist = n, d
		}
	}
	if size < 3 {
		return 0, 0
	}
	return size, dist
}

// checkTells: are all tokens Good, and do they tell s behind ahead?
func checkTells(t *testing.T, ahead, s string, l []lz.Token) {
	t.Helper()
	for _, x := range l {
		if !x.Good() {
			t.Fatal("not Good", x)
		}
	}
	if got, ok := lz.Expand(ahead, l); got != s || !ok {
		t.Fatalf("%d bytes behind %d: told %d, %v", len(s), len(ahead), len(got), ok)
	}
}

// tokens of a level that may be.
func tokens(t *testing.T, ahead, s string, level int) []lz.Token {
	t.Helper()
	l, err := match.Tokens(ahead, s, level)
	if err != api.OK {
		t.Fatal(level, err)
	}
	checkTells(t, ahead, s, l)
	return l
}

// P8.1: some, written out.
func TestLongest(t *testing.T) {
	far := randomText(rand.New(rand.NewSource(1)), 32768, 26)
	run := strings.Repeat("x", 300)
	for _, x := range []struct {
		name, ahead, s string
		size, dist     int
	}{
		{"nothing", "", "", 0, 0},
		{"nothing ahead", "", "aaaa", 0, 0},
		{"no text", "aaaa", "", 0, 0},
		{"two bytes", "abc", "ab", 0, 0},
		{"two bytes alike", "abc", "abd", 0, 0},
		{"another text", "abc", "xyz", 0, 0},
		{"the chapter's", "abc", "abcd", 3, 3},
		{"three", "abc", "abc", 3, 3},
		{"the least distance", "abcabcabc", "abc", 3, 3},
		{"the least distance of the longest", "abcdabcabc", "abcd", 4, 10},
		{"a longer one farther back", "abcdefabcdxabc", "abcdefg", 6, 14},
		{"into the text itself", "abc", "abcabcabx", 8, 3},
		{"one byte", "a", "aaaaa", 5, 1},
		{"one byte, thrice", "a", "aaa", 3, 1},
		{"one byte, twice", "a", "aa", 0, 0},
		{"over the end", "ab", "bbbb", 4, 1},
		{"just as many as may be", "x", run[:258], 258, 1},
		{"no more than may be", "x", run[:259], 258, 1},
		{"much more", "xyz", strings.Repeat("xyz", 20000), 258, 3},
		{"the least distance of those that are cut", far[:258] + "!" + far[:300] + "?" + far[:258], far[:300], 258, 258},
		{"as far back as may be", "123" + strings.Repeat("-", 32765), "123", 3, 32768},
		{"too far back", "123" + strings.Repeat("-", 32766), "123", 0, 0},
		{"the nearer part of one that is too far back", "1234" + strings.Repeat("-", 32765), "234", 3, 32768},
		{"the longest too far back", "1234567" + strings.Repeat("-", 20000) + "1234" + strings.Repeat("+", 20000), "1234567", 4, 20004},
		{"noughts", "\x00", "\x00\x00\x00\x01", 3, 1},
		{"high bytes", "\xff\xfe\xfd\xfc", "\xff\xfe\xfd\xfb", 3, 4},
	} {
		if size, dist := match.Longest(x.ahead, x.s); size != x.size || dist != x.dist {
			t.Errorf("%s: %d, %d, not %d, %d", x.name, size, dist, x.size, x.dist)
		}
	}
}

// P8.1: random texts, as all distances tell it.
func TestLongestByAll(t *testing.T) {
	r := rand.New(rand.NewSource(2))
	for range 30000 {
		letters := 1 + r.Intn(3)
		ahead, s := randomText(r, r.Intn(30), letters), randomText(r, r.Intn(20), letters)
		checkLongest(t, ahead, s)
	}
	for range 60 {
		letters := 1 + r.Intn(4)
		ahead, s := randomText(r, 32700+r.Intn(200), letters), randomText(r, r.Intn(400), letters)
		checkLongest(t, ahead, s)
		if from := r.Intn(len(ahead)); len(s) > 20 {
			checkLongest(t, ahead, ahead[from:min(from+r.Intn(300), len(ahead))]+s)
		}
	}
}

func checkLongest(t *testing.T, ahead, s string) {
	t.Helper()
	size, dist := match.Longest(ahead, s)
	if wantSize, wantDist := longest(ahead, s); size != wantSize || dist != wantDist {
		t.Fatalf("%q behind %q: %d, %d, not %d, %d", s, ahead, size, dist, wantSize, wantDist)
	}
}

// The chapter's example.
func TestExample(t *testing.T) {
	want := []lz.Token{{Len: 3, Dist: 3}, {Byte: 'd'}}
	if l, err := match.Tokens("abc", "abcd", 9); !slices.Equal(l, want) || err != api.OK {
		t.Error(l, err)
	}
}

// P8.2: no levels.
func TestNoLevel(t *testing.T) {
	for _, level := range []int{-1, 10, -9, 11, 256, 1 << 32, math.MinInt, math.MaxInt} {
		for _, s := range []string{"", "a", "aaaaaa"} {
			if l, err := match.Tokens("aaa", s, level); len(l) != 0 || err != api.ErrArg {
				t.Error(level, l, err)
			}
		}
	}
}

// P8.2: of level 0 bytes alone.
func TestLevel0(t *testing.T) {
	for _, s := range []string{"", "a", "aaaaaaaaaa", "abcabcabc", "\x00\xff\x00\xff\x00\xff"} {
		l := tokens(t, s+s, s, 0)
		if len(l) != len(s) {
			t.Error(s, l)
		}
	}
}

// checkFirst token of level 9.
func checkFirst(t *testing.T, ahead, s string) {
	t.Helper()
	l := tokens(t, ahead, s, 9)
	if s == "" {
		return
	}
	size, dist := longest(ahead, s)
	if l[0].Len > 0 {
		if l[0].Len != size || l[0].Dist != dist {
			t.Fatalf("%d bytes behind %d: %v first, not %d, %d", len(s), len(ahead), l[0], size, dist)
		}
		return
	}
	if next, _ := longest(ahead+s[:1], s[1:]); size > 0 && next <= size {
		t.Fatalf("%q behind %q: a byte first, though there is a match of %d, and no longer one behind it", s, ahead, size)
	}
}

// P8.2: of each level the tokens tell the text; the first one of level 9.
func TestTokens(t *testing.T) {
	r := rand.New(rand.NewSource(3))
	for range 3000 {
		letters := 1 + r.Intn(4)
		ahead, s := randomText(r, r.Intn(40), letters), randomText(r, r.Intn(60), letters)
		for level := range 10 {
			tokens(t, ahead, s, level)
		}
		checkFirst(t, ahead, s)
	}
}

// P8.2: long texts, with much that is alike, and little.
func TestTokensLong(t *testing.T) {
	r := rand.New(rand.NewSource(4))
	for _, letters := range []int{1, 2, 4, 26, 200} {
		for _, size := range []int{300, 5000, 70000} {
			s := randomText(r, size, letters)
			s += s[size/4:size/2] + randomText(r, 50, letters) + s[:size/3]
			for level := range 10 {
				tokens(t, "", s, level)
				tokens(t, s[:size/2], s[size/2:], level)
			}
		}
	}
}

// P8.2: the first token of level 9, where there are very many places to go through.
func TestFirstOfMany(t *testing.T) {
	r := rand.New(rand.NewSource(5))
	for _, letters := range []int{1, 2, 3} {
		for range 8 {
			ahead, s := randomText(r, 40000, letters), randomText(r, 300, letters)
			checkFirst(t, ahead, s)
			from := 7300 + r.Intn(300)
			checkFirst(t, ahead, ahead[from:from+100]+s)
			checkFirst(t, ahead, s[:1]+ahead[from:from+100]+s)
		}
	}
	// The longest one is the eldest of some 10000 that begin alike.
	ahead := "abcabcd" + strings.Repeat("abcx", 8000)
	if l := tokens(t, ahead, "abcabcd", 9); !slices.Equal(l, []lz.Token{{Len: 7, Dist: len(ahead)}}) {
		t.Error(l)
	}
}

// P8.2: what can be told by matches is, on all levels but 0.
func TestMatchesAreFound(t *testing.T) {
	r := rand.New(rand.NewSource(6))
	ahead := randomText(r, 32768, 200)
	for level := 1; level <= 9; level++ {
		for _, from := range []int{0, 1, 1000, 32510} {
			want := []lz.Token{{Len: 258, Dist: 32768 - from}}
			if l := tokens(t, ahead, ahead[from:from+258], level); !slices.Equal(l, want) {
				t.Error(level, from, len(l))
			}
		}
		if l := tokens(t, "x"+ahead[:32767], "x"+ahead[:2], level); len(l) != 1 {
			t.Error("the eldest", level, l)
		}
		if l := tokens(t, "!?#"+ahead, "!?#", level); len(l) != 3 {
			t.Error("too far", level, l)
		}
	}
}

// P8.2: within a text no match goes back farther than may be, but just as far.
func TestFarWithinText(t *testing.T) {
	between := randomText(rand.New(rand.NewSource(12)), 32768, 26)
	l := tokens(t, "abc", "1234567"+between[:32761]+"1234567", 9)
	if last := l[len(l)-1]; last != (lz.Token{Len: 7, Dist: 32768}) {
		t.Error("as far as may be", last)
	}
	for level := 1; level <= 9; level++ {
		l := tokens(t, "abc", "1234567"+between[:32762]+"1234567", level)
		if last := l[len(l)-1]; last != (lz.Token{Byte: '7'}) {
			t.Error("too far", level, last)
		}
	}
}

// P8.2: just the last Window bytes ahead count, the text, and the level; each time the same.
func TestHangsOn(t *testing.T) {
	r := rand.New(rand.NewSource(7))
	for _, letters := range []int{1, 2, 20} {
		near, s := randomText(r, 32768, letters), randomText(r, 2000, letters)
		for level := range 10 {
			want := tokens(t, near, s, level)
			for _, far := range []string{"", "a", s, randomText(r, 40000, letters)} {
				if l := tokens(t, far+near, s, level); !slices.Equal(l, want) {
					t.Fatal(letters, level, len(far))
				}
			}
		}
	}
}

// P8.3: n times one byte, also behind others.
func TestOneByte(t *testing.T) {
	sizes := []int{20000, 65535, 100000}
	for n := 4; n < 1100; n++ {
		sizes = append(sizes, n)
	}
	for _, n := range sizes {
		s := strings.Repeat("a", n)
		for level := 1; level <= 9; level++ {
			for _, ahead := range []string{"", "b", "a", "aa", "baab", "aaab", "aaaab" + strings.Repeat("a", 7) + "b", "ba"} {
				if l := tokens(t, ahead, s, level); len(l) > 3+n/258 {
					t.Fatal(n, level, ahead, len(l))
				}
			}
		}
	}
}

// An answer is new memory: it stays, whatever is done with another one.
func TestNewMemory(t *testing.T) {
	a, _ := match.Tokens("abc", "abcabcabc", 9)
	b, _ := match.Tokens("abc", "abcabcabc", 9)
	clear(a)
	if !slices.Equal(b, []lz.Token{{Len: 9, Dist: 3}}) {
		t.Error(b)
	}
	c, d := match.Fewest("abc", "abcx"), match.Fewest("abc", "abcx")
	clear(c)
	if !slices.Equal(d, []lz.Token{{Len: 3, Dist: 3}, {Byte: 'x'}}) {
		t.Error(d)
	}
}
