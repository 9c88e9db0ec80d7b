package match_test

import (
	"math/rand"
	"slices"
	"strings"
	"testing"

	"lighter/lz"
	"lighter/match"
)

// fewest: how many tokens are needed, by all ways to begin at each place; at each place the longest match is looked for among all with the same three bytes.
func fewest(ahead, s string) int {
	all := ahead + s
	places := map[string][]int{}
	reach := make([]int, len(all))
	for at := range len(all) - 2 {
		begins := all[at : at+3]
		for _, place := range places[begins] {
			if at < len(ahead) {
				break
			}
			if at-place <= 32768 {
				reach[at] = max(reach[at], common(all, at, at-place))
			}
		}
		places[begins] = append(places[begins], at)
	}
	need := make([]int, len(all)+1)
	for at := len(all) - 1; at >= len(ahead); at-- {
		need[at] = need[at+1] + 1
		for n := 3; n <= reach[at]; n++ {
			need[at] = min(need[at], need[at+n]+1)
		}
	}
	return need[len(ahead)]
}

func checkFewest(t *testing.T, ahead, s string) {
	t.Helper()
	l := match.Fewest(ahead, s)
	checkTells(t, ahead, s, l)
	if want := fewest(ahead, s); len(l) != want {
		t.Fatalf("%d bytes behind %d: %d tokens, not %d", len(s), len(ahead), len(l), want)
	}
	if again := match.Fewest(ahead, s); !slices.Equal(l, again) {
		t.Fatal("not the same each time")
	}
}

// P8.4: some, written out.
func TestFewest(t *testing.T) {
	for _, x := range []struct {
		name, ahead, s string
		want           int
	}{
		{"nothing", "", "", 0},
		{"nothing behind a text", "abc", "", 0},
		{"a byte", "", "a", 1},
		{"no match", "abc", "xyz", 3},
		{"two bytes", "ab", "ab", 2},
		{"a match", "abc", "abc", 1},
		{"the chapter's", "abc", "abcd", 2},
		{"into itself", "a", strings.Repeat("a", 258), 1},
		{"one more", "a", strings.Repeat("a", 259), 2},
		{"of one byte", "", strings.Repeat("a", 1+258*3), 4},
		{"of one byte, and two", "", strings.Repeat("a", 1+258*3+2), 5},
		// The longest match at once leaves two bytes, a shorter one a match.
		{"the longest isn't the best", "abcd|bcde|cdefg|", "abcdefg", 2},
		{"a shorter one first", "abcdx|defg|", "abcdefg", 2},
		{"a byte first", "abcx|bcdefg|", "abcdefg", 2},
		{"as far as may be", "123" + strings.Repeat("-", 32765), "123", 1},
		{"too far", "123" + strings.Repeat("-", 32766), "123", 3},
	} {
		l := match.Fewest(x.ahead, x.s)
		checkTells(t, x.ahead, x.s, l)
		if len(l) != x.want {
			t.Errorf("%s: %v, not %d", x.name, l, x.want)
		}
		checkFewest(t, x.ahead, x.s)
	}
}

// P8.4: random texts of few bytes.
func TestFewestByAll(t *testing.T) {
	r := rand.New(rand.NewSource(8))
	for range 20000 {
		letters := 1 + r.Intn(4)
		checkFewest(t, randomText(r, r.Intn(25), letters), randomText(r, r.Intn(40), letters))
	}
	for range 40 {
		letters := 1 + r.Intn(5)
		checkFewest(t, randomText(r, r.Intn(600), letters), randomText(r, r.Intn(1500), letters))
	}
}

// copies of what stands so far ahead, and some other bytes between.
func copies(r *rand.Rand, size int) string {
	s := []byte(randomText(r, 100, 200))
	for len(s) < size {
		dist := 1 + r.Intn(min(len(s), 40000))
		if r.Intn(3) == 0 {
			dist = min(len(s), 32760+r.Intn(16))
		}
		from := len(s) - dist
		s = append(s, s[from:min(from+3+r.Intn(400), len(s))]...)
		s = append(s, randomText(r, r.Intn(200), 200)...)
	}
	return string(s[:size])
}

// P8.4: texts longer than the window, with matches over all borders.
func TestFewestLong(t *testing.T) {
	r := rand.New(rand.NewSource(9))
	for _, size := range []int{32767, 32768, 32769, 65536, 65537, 100000} {
		checkFewest(t, "", copies(r, size))
		all := copies(r, size+40000)
		checkFewest(t, all[:40000], all[40000:])
		checkFewest(t, all[:32768], all[32768:32768+size])
		checkFewest(t, all[:1000], all[1000:1000+size])
	}
}

// P8.4: just the last Window bytes ahead count.
func TestFewestHangsOn(t *testing.T) {
	r := rand.New(rand.NewSource(10))
	near, s := randomText(r, 32768, 3), randomText(r, 3000, 3)
	if !slices.Equal(match.Fewest(near, s), match.Fewest(s+near, s)) {
		t.Error("what is too far back counts")
	}
}

// P8.4: no other way needs less.
func TestFewestOfAll(t *testing.T) {
	r := rand.New(rand.NewSource(11))
	for _, letters := range []int{1, 2, 5, 60} {
		all := randomText(r, 30000, letters)
		all += all[5000:9000] + randomText(r, 9000, letters) + all[:2000]
		ahead, s := all[:15000], all[15000:]
		l := match.Fewest(ahead, s)
		checkTells(t, ahead, s, l)
		for level := range 10 {
			if other := tokens(t, ahead, s, level); len(other) < len(l) {
				t.Error(letters, level, len(other), len(l))
			}
		}
	}
}

// P8.4: a nought is the zero token.
func TestFewestOfAByte(t *testing.T) {
	if l := match.Fewest("", "\x00"); !slices.Equal(l, []lz.Token{{}}) {
		t.Error(l)
	}
}
