package window_test

import (
	"math"
	"math/rand"
	"strings"
	"testing"

	"lighter/api"
	"lighter/window"
)

// noBack: numbers that are no distance of any window.
var noBack = []int{0, -1, -32768, 32769, 65536, 1 << 32, 1<<32 + 1, math.MinInt, math.MaxInt}

// noSize: how many bytes no copy has.
var noSize = []int{-1, -3, 259, 260, 32768, 1 << 32, 1<<32 + 3, math.MinInt, math.MaxInt}

func randomText(r *rand.Rand, size int) string {
	s := make([]byte, size)
	r.Read(s)
	return string(s)
}

// few: a text of few different bytes, so that there is much that is alike.
func few(r *rand.Rand, size int) string {
	s := make([]byte, size)
	for i := range s {
		s[i] = 'a' + byte(r.Intn(2))
	}
	return string(s)
}

// lastOf: what a window has of all that was put.
func lastOf(all string) string {
	return all[max(0, len(all)-api.Window):]
}

// copyOf: what a copy puts behind all that was put: byte by byte the one so far back.
func copyOf(all string, n, dist int) string {
	s := []byte(lastOf(all))
	size := len(s)
	for range n {
		s = append(s, s[len(s)-dist])
	}
	return string(s[size:])
}

// alike: how many first bytes of s a copy puts.
func alike(all string, dist int, s string) int {
	put := copyOf(all, min(len(s), api.MaxMatch), dist)
	n := 0
	for n < len(put) && put[n] == s[n] {
		n++
	}
	return n
}

// check that a window has just what all that was put leaves.
func check(t *testing.T, w *window.Window, all string) {
	t.Helper()
	want := lastOf(all)
	if w.Len() != len(want) || w.Total() != len(all) {
		t.Fatalf("%d of %d bytes, not %d of %d", w.Len(), w.Total(), len(want), len(all))
	}
	if w.Text() != want {
		t.Fatal("another text, behind", len(all))
	}
	for _, dist := range []int{1, 2, 3, len(want) / 2, len(want) - 1, len(want)} {
		if dist < 1 || dist > len(want) {
			continue
		}
		if b, ok := w.Back(dist); b != want[len(want)-dist] || !ok {
			t.Fatal("Back", dist, b, ok)
		}
	}
	if b, ok := w.Back(len(want) + 1); b != 0 || ok {
		t.Fatal("Back, too far", b, ok)
	}
}

// of: a window of which so much was put.
func of(s string) *window.Window {
	w := new(window.Window)
	w.Add(s)
	return w
}

// P6.1: the zero value.
func TestZero(t *testing.T) {
	var w window.Window
	check(t, &w, "")
	w.Add("")
	check(t, &w, "")
	for _, dist := range append([]int{1, 2, 32768}, noBack...) {
		if b, ok := w.Back(dist); b != 0 || ok {
			t.Error("Back", dist, b, ok)
		}
		if s, ok := w.Copy(3, dist); s != "" || ok {
			t.Error("Copy", dist, s, ok)
		}
		if s, ok := w.Copy(0, dist); s != "" || ok {
			t.Error("Copy of 0", dist, s, ok)
		}
		if w.Match(dist, "a") != 0 || w.Match(dist, "") != 0 || w.Match(dist, "\x00") != 0 {
			t.Error("Match", dist)
		}
	}
	check(t, &w, "")
	check(t, w.Copied(), "")
}

// P6.1: bytes one by one, all of them.
func TestPut(t *testing.T) {
	var w window.Window
	var all []byte
	for b := range 256 {
		w.Put(byte(b))
		all = append(all, byte(b))
		check(t, &w, string(all))
	}
	for dist := 1; dist <= 256; dist++ {
		if b, ok := w.Back(dist); int(b) != 256-dist || !ok {
			t.Error(dist, b, ok)
		}
	}
}

// P6.1: up to Window bytes, just these, and more.
func TestAdd(t *testing.T) {
	r := rand.New(rand.NewSource(1))
	for _, size := range []int{1, 32766, 32767, 32768, 32769, 32770, 65535, 65536, 65537, 100000} {
		all := randomText(r, size)
		check(t, of(all), all)
		w := of(all[:size/3])
		w.Add(all[size/3 : size/2])
		check(t, w, all[:size/2])
		w.Add(all[size/2:])
		check(t, w, all)
	}
}

// P6.1: one by one over the border of Window bytes.
func TestBorder(t *testing.T) {
	all := randomText(rand.New(rand.NewSource(2)), 2*api.Window+5)
	for _, border := range []int{api.Window, 2 * api.Window} {
		w := of(all[:border-5])
		for i := border - 5; i < border+5; i++ {
			w.Put(all[i])
			check(t, w, all[:i+1])
		}
	}
}

// P6.1: Back of all distances, also such as may not be.
func TestBack(t *testing.T) {
	all := randomText(rand.New(rand.NewSource(3)), api.Window+1000)
	for _, size := range []int{1, 2, 1000, api.Window, api.Window + 1, api.Window + 1000} {
		w := of(all[:size])
		for dist := 1; dist <= min(size, api.Window); dist++ {
			if b, ok := w.Back(dist); b != all[size-dist] || !ok {
				t.Fatal(size, dist, b, ok)
			}
		}
		for _, dist := range append([]int{min(size, api.Window) + 1}, noBack...) {
			if b, ok := w.Back(dist); b != 0 || ok {
				t.Error(size, dist, b, ok)
			}
		}
	}
}

// P6.2, and the chapter's example.
func TestCopy(t *testing.T) {
	long := randomText(rand.New(rand.NewSource(4)), api.Window+7)
	for _, x := range []struct {
		told    string
		all     string
		n, dist int
		want    string
	}{
		{"the example", "abc", 4, 2, "bcbc"},
		{"one byte again and again", "ab", 258, 1, strings.Repeat("b", 258)},
		{"all that is there", "abc", 3, 3, "abc"},
		{"a part", "abc", 2, 3, "ab"},
		{"one", "abc", 1, 3, "a"},
		{"two, fewer than a match has", "abc", 2, 1, "cc"},
		{"none", "abc", 0, 3, ""},
		{"none from one back", "abc", 0, 1, ""},
		{"from the eldest on", long[:api.Window], 258, 32768, long[:258]},
		{"from the eldest on, where some went by", long, 258, 32768, long[7:265]},
		{"from the second one on", long, 258, 32767, long[8:266]},
		{"the last ones", long, 3, 3, long[len(long)-3:]},
		{"of 32767 from the first on", long[:32767], 258, 32767, long[:258]},
	} {
		w := of(x.all)
		if s, ok := w.Copy(x.n, x.dist); s != x.want || !ok {
			t.Errorf("%s: %q, %v, not %q", x.told, s, ok, x.want)
		}
		check(t, w, x.all+x.want)
	}
}

// P6.2: where it may not be, nothing is put.
func TestCopyWrong(t *testing.T) {
	long := randomText(rand.New(rand.NewSource(5)), api.Window+1)
	for _, all := range []string{"a", "abc", long[:32767], long[:32768], long} {
		w := of(all)
		for _, n := range []int{0, 1, 3, 258} {
			for _, dist := range append([]int{w.Len() + 1}, noBack...) {
				if s, ok := w.Copy(n, dist); s != "" || ok {
					t.Errorf("Copy(%d, %d) of %d: %q, %v", n, dist, len(all), s, ok)
				}
			}
		}
		for _, n := range noSize {
			for _, dist := range []int{1, w.Len(), 0} {
				if s, ok := w.Copy(n, dist); s != "" || ok {
					t.Errorf("Copy(%d, %d) of %d: %q, %v", n, dist, len(all), s, ok)
				}
			}
		}
		check(t, w, all)
	}
}

// P6.2, P6.3: a nil one.
func TestNil(t *testing.T) {
	var w *window.Window
	w.Put('a')
	w.Add("abc")
	if w.Len() != 0 || w.Total() != 0 || w.Text() != "" || w.Copied() != nil {
		t.Error("a nil one has bytes")
	}
	for _, dist := range append([]int{1, 3, 32768}, noBack...) {
		if b, ok := w.Back(dist); b != 0 || ok {
			t.Error("Back", b, ok)
		}
		for _, n := range append([]int{0, 1, 3, 258}, noSize...) {
			if s, ok := w.Copy(n, dist); s != "" || ok {
				t.Error("Copy", s, ok)
			}
		}
		if w.Match(dist, "a") != 0 || w.Match(dist, "") != 0 {
			t.Error("Match")
		}
	}
}

// P6.3: another window: what is put to one doesn't change the other one.
func TestCopied(t *testing.T) {
	long := randomText(rand.New(rand.NewSource(6)), api.Window+9)
	for _, all := range []string{"", "abc", long[:32767], long[:32768], long} {
		w := of(all)
		other := w.Copied()
		check(t, other, all)
		w.Add("xyz")
		check(t, other, all)
		check(t, w, all+"xyz")
		other.Add("uv")
		other.Copy(258, 2)
		check(t, w, all+"xyz")
		check(t, other, all+strings.Repeat("uv", 130))
		third := w.Copied()
		third.Put('1')
		w.Put('2')
		check(t, third, all+"xyz1")
		check(t, w, all+"xyz2")
	}
}

// P6.3: how far a text is what a copy would put.
func TestMatch(t *testing.T) {
	long := randomText(rand.New(rand.NewSource(7)), api.Window+5)
	for _, x := range []struct {
		told string
		all  string
		dist int
		s    string
		want int
	}{
		{"no text", "abc", 1, "", 0},
		{"another byte", "abc", 3, "b", 0},
		{"one byte", "abc", 3, "a", 1},
		{"all", "abc", 3, "abc", 3},
		{"up to where they differ", "abc", 3, "abd", 2},
		{"what comes behind differs", "abc", 3, "abcb", 3},
		{"what the copy puts itself", "abc", 3, "abcabcabcx", 9},
		{"two again and again", "abc", 2, "bcbc", 4},
		{"one again and again", "aab", 1, strings.Repeat("b", 257), 257},
		{"just as many as may be", "b", 1, strings.Repeat("b", 258), 258},
		{"no more than may be", "b", 1, strings.Repeat("b", 259), 258},
		{"of much more", "ab", 2, strings.Repeat("ab", 70000), 258},
		{"from the eldest on", long, 32768, long[5:505], 258},
		{"from ahead of the eldest", long, 32769, long[4:400], 0},
		{"too far", "abc", 4, "abc", 0},
		{"noughts that aren't there", "", 1, "\x00", 0},
	} {
		w := of(x.all)
		if n := w.Match(x.dist, x.s); n != x.want {
			t.Errorf("%s: %d, not %d", x.told, n, x.want)
		}
		check(t, w, x.all)
	}
	for _, dist := range noBack {
		if n := of(long).Match(dist, long); n != 0 {
			t.Errorf("Match from %d back: %d", dist, n)
		}
	}
}

// P6.3: of all short windows and texts, as Copy puts.
func TestMatchAsCopy(t *testing.T) {
	r := rand.New(rand.NewSource(8))
	for range 20000 {
		all := few(r, r.Intn(12))
		s := few(r, r.Intn(14))
		dist := r.Intn(14) - 1
		want := 0
		if dist >= 1 && dist <= len(all) {
			want = alike(all, dist, s)
		}
		if n := of(all).Match(dist, s); n != want {
			t.Fatalf("%q from %d back of %q: %d, not %d", s, dist, all, n, want)
		}
	}
}

// P6.1 to P6.3: any calls, as all that was put has it.
func TestByText(t *testing.T) {
	r := rand.New(rand.NewSource(9))
	for _, begun := range []int{0, 5, 32000, 32768, 65400} {
		all := few(r, begun)
		w := of(all)
		for range 150 {
			have := min(len(all), api.Window)
			switch r.Intn(4) {
			case 0:
				b := few(r, 1)
				w.Put(b[0])
				all += b
			case 1:
				s := few(r, r.Intn(40))
				w.Add(s)
				all += s
			case 2:
				if have == 0 {
					continue
				}
				n, dist := r.Intn(259), 1+r.Intn(have)
				want := copyOf(all, n, dist)
				if s, ok := w.Copy(n, dist); s != want || !ok {
					t.Fatalf("Copy(%d, %d): %q, %v, not %q", n, dist, s, ok, want)
				}
				all += want
			default:
				if have == 0 {
					continue
				}
				dist := have - r.Intn(min(have, 9))
				s := copyOf(all, r.Intn(259), dist) + few(r, r.Intn(5))
				if n, want := w.Match(dist, s), alike(all, dist, s); n != want {
					t.Fatalf("Match(%d): %d, not %d", dist, n, want)
				}
			}
			check(t, w, all)
		}
	}
}
