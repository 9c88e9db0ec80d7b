package canon_test

import (
	"math"
	"math/rand"
	"slices"
	"strings"
	"testing"

	"lighter/api"
	"lighter/bits"
	"lighter/canon"
)

// wordsOf: each symbol's word as noughts and ones, by the document's rule; false, where a word is too great for its length.
func wordsOf(lengths []int) ([]string, bool) {
	words := make([]string, len(lengths))
	next, size, fits := 0, 0, true
	for n := 1; n <= api.MaxBits; n++ {
		for symbol, length := range lengths {
			if length != n {
				continue
			}
			next <<= n - size
			size = n
			fits = fits && next < 1<<n
			var word []byte
			for k := n - 1; k >= 0; k-- {
				word = append(word, '0'+byte(next>>k&1))
			}
			words[symbol] = string(word)
			next++
		}
	}
	return words, fits
}

// leads: do all texts of so many bits begin with a word?
func leads(words []string, begun string, most int) bool {
	for _, word := range words {
		if word != "" && word == begun {
			return true
		}
	}
	return len(begun) < most && leads(words, begun+"0", most) && leads(words, begun+"1", most)
}

// wanted: what New answers, by the document's words.
func wanted(lengths []int, loose bool) api.Errno {
	if len(lengths) > api.MaxSymbols || slices.ContainsFunc(lengths, func(n int) bool { return n < 0 || n > api.MaxBits }) {
		return api.ErrArg
	}
	words, fits := wordsOf(lengths)
	if !fits {
		return api.ErrOver
	}
	there := slices.DeleteFunc(slices.Clone(words), func(s string) bool { return s == "" })
	few := !leads(words, "", slices.Max(append([]int{0}, lengths...)))
	if few && !(loose && (len(there) == 0 || len(there) == 1 && len(there[0]) == 1)) {
		return api.ErrCode
	}
	return api.OK
}

// allLists: every list of so many lengths, each up to most.
func allLists(n, most int, tell func([]int)) {
	if n == 0 {
		tell(nil)
		return
	}
	allLists(n-1, most, func(l []int) {
		for k := range most + 1 {
			tell(append(slices.Clone(l), k))
		}
	})
}

// repeated: n times v.
func repeated(v, n int) []int {
	return slices.Repeat([]int{v}, n)
}

// whole: random lengths of a code neither of too many words nor of too few, with symbols that have none among them.
func whole(r *rand.Rand, words int) []int {
	l := []int{1, 1}
	for len(l) < words {
		i := r.Intn(len(l))
		if l[i] < api.MaxBits {
			l[i]++
			l = append(l, l[i])
		}
	}
	for range r.Intn(4) {
		l = append(l, 0)
	}
	r.Shuffle(len(l), func(i, k int) { l[i], l[k] = l[k], l[i] })
	return l
}

// longest: the lengths 1 to 15, and 15 again.
func longest() []int {
	var l []int
	for n := 1; n <= api.MaxBits; n++ {
		l = append(l, n)
	}
	return append(l, api.MaxBits)
}

// textOf: a word, as Word tells it, as noughts and ones.
func textOf(v uint64, n int) string {
	var s strings.Builder
	for range n {
		s.WriteByte('0' + byte(v&1))
		v >>= 1
	}
	if v != 0 {
		return "bits above its length"
	}
	return s.String()
}

// readerOf: a reader that has just these bits left.
func readerOf(word string) *bits.Reader {
	var w bits.Writer
	spare := (8 - len(word)%8) % 8
	w.Write(0, spare)
	for _, sign := range word {
		w.Write(uint64(sign-'0'), 1)
	}
	var r bits.Reader
	r.Feed(w.Drain())
	r.Read(spare)
	return &r
}

// P3.1: which lengths are a code, all small lists of them.
func TestNewSmall(t *testing.T) {
	for n := range 6 {
		allLists(n, 4, func(lengths []int) {
			for _, loose := range []bool{false, true} {
				c, e := canon.New(lengths, loose)
				if want := wanted(lengths, loose); e != want || (c != nil) != (e == api.OK) {
					t.Fatalf("%v, %v: %v, %v, not %v", lengths, loose, c, e, want)
				}
			}
		})
	}
}

// P3.1: the edges that the document names.
func TestNewEdges(t *testing.T) {
	for _, x := range []struct {
		told    string
		lengths []int
		strict  api.Errno
		loose   api.Errno
	}{
		{"none", nil, api.ErrCode, api.OK},
		{"noughts", repeated(0, 288), api.ErrCode, api.OK},
		{"too many noughts", repeated(0, 289), api.ErrArg, api.ErrArg},
		{"one of one bit", []int{0, 0, 1, 0}, api.ErrCode, api.OK},
		{"one of two bits", []int{2}, api.ErrCode, api.ErrCode},
		{"one of 15 bits", []int{15}, api.ErrCode, api.ErrCode},
		{"two of two bits", []int{2, 2}, api.ErrCode, api.ErrCode},
		{"a half by others", []int{2, 3, 3}, api.ErrCode, api.ErrCode},
		{"one and another", []int{1, 2}, api.ErrCode, api.ErrCode},
		{"two of one bit", []int{1, 1}, api.OK, api.OK},
		{"three of one bit", []int{1, 1, 1}, api.ErrOver, api.ErrOver},
		{"the longest", longest(), api.OK, api.OK},
		{"the longest but one", longest()[:15], api.ErrCode, api.ErrCode},
		{"one too many of the longest", append(longest(), 15), api.ErrOver, api.ErrOver},
		{"256 of 8 bits", repeated(8, 256), api.OK, api.OK},
		{"257 of 8 bits", repeated(8, 257), api.ErrOver, api.ErrOver},
		{"288 of 9 bits", repeated(9, 288), api.ErrCode, api.ErrCode},
		{"288 of one bit", repeated(1, 288), api.ErrOver, api.ErrOver},
		{"289 of one bit", repeated(1, 289), api.ErrArg, api.ErrArg},
		{"16 bits", []int{1, 1, 1, 16}, api.ErrArg, api.ErrArg},
		{"below 0", []int{1, 1, 1, -1}, api.ErrArg, api.ErrArg},
		{"the greatest int", []int{math.MaxInt}, api.ErrArg, api.ErrArg},
		{"the least int", []int{math.MinInt, 1, 1}, api.ErrArg, api.ErrArg},
	} {
		for loose, want := range map[bool]api.Errno{false: x.strict, true: x.loose} {
			if c, e := canon.New(x.lengths, loose); e != want || (c != nil) != (e == api.OK) {
				t.Errorf("%s, loose %v: %v, not %v", x.told, loose, e, want)
			}
		}
	}
}

// P3.2, and the chapter's example.
func TestWord(t *testing.T) {
	c, _ := canon.New([]int{2, 1, 3, 3}, false)
	for symbol, want := range []string{"10", "0", "110", "111"} {
		if word := textOf(c.Word(symbol)); word != want {
			t.Errorf("%d: %s, not %s", symbol, word, want)
		}
	}
	r := rand.New(rand.NewSource(1))
	for range 200 {
		lengths := whole(r, 2+r.Intn(280))
		sameWords(t, lengths, false)
	}
	sameWords(t, longest(), false)
	sameWords(t, []int{0, 0, 1}, true)
	sameWords(t, []int{0, 0}, true)
}

// sameWords: each symbol's word is the document's, written too; other symbols have none.
func sameWords(t *testing.T, lengths []int, loose bool) {
	t.Helper()
	c, e := canon.New(lengths, loose)
	words, _ := wordsOf(lengths)
	if e != api.OK {
		t.Fatal(lengths, e)
	}
	for symbol, want := range words {
		v, n := c.Word(symbol)
		if textOf(v, n) != want || n != lengths[symbol] {
			t.Fatalf("%v: %d: %s, not %s", lengths, symbol, textOf(v, n), want)
		}
		var w bits.Writer
		c.Write(&w, symbol)
		if size := w.Len(); size != n {
			t.Fatalf("%v: %d: %d bits are written, not %d", lengths, symbol, size, n)
		}
		w.Align()
		if got := bits.Get(w.Drain()); got != v {
			t.Fatalf("%v: %d: %b is written, not %b", lengths, symbol, got, v)
		}
	}
	for _, symbol := range []int{-1, len(lengths), len(lengths) + 1, math.MinInt, math.MaxInt} {
		if v, n := c.Word(symbol); v != 0 || n != 0 {
			t.Errorf("%d: %d, %d", symbol, v, n)
		}
		var w bits.Writer
		c.Write(&w, symbol)
		if w.Len() != 0 {
			t.Errorf("%d: %d bits are written", symbol, w.Len())
		}
	}
}

// P3.2: the lengths as they were told, neither kept nor shared.
func TestLengths(t *testing.T) {
	for _, told := range [][]int{{2, 1, 3, 3}, {0, 1, 0, 1, 0, 0}, {0, 0}, {1}, {}, repeated(8, 256)} {
		given := slices.Clone(told)
		c, e := canon.New(given, true)
		if e != api.OK || !slices.Equal(given, told) {
			t.Fatal(told, e, given)
		}
		word := textOf(c.Word(0))
		for i := range given {
			given[i] = 7
		}
		l := c.Lengths()
		if !slices.Equal(l, told) {
			t.Errorf("%v, not %v", l, told)
		}
		for i := range l {
			l[i] = 7
		}
		if !slices.Equal(c.Lengths(), told) || textOf(c.Word(0)) != word {
			t.Errorf("%v: what was told was kept, or shared", told)
		}
	}
}

// P3.3: symbols that were written come back, and behind the last one there is nothing.
func TestNext(t *testing.T) {
	r := rand.New(rand.NewSource(2))
	for range 100 {
		lengths := whole(r, 2+r.Intn(286))
		if r.Intn(10) == 0 {
			lengths = longest()
		}
		c, _ := canon.New(lengths, r.Intn(2) == 0)
		var w bits.Writer
		var told []int
		for range 200 {
			symbol := r.Intn(len(lengths))
			if lengths[symbol] > 0 {
				told = append(told, symbol)
				c.Write(&w, symbol)
			}
		}
		spare := (8 - w.Len()%8) % 8
		w.Align()
		var in bits.Reader
		in.Feed(w.Drain())
		for _, symbol := range told {
			left := in.Left()
			if got, e := c.Next(&in); got != symbol || e != api.OK || in.Left() != left-lengths[symbol] {
				t.Fatalf("%v: %d, %v, not %d; %d of %d bits are left", lengths, got, e, symbol, in.Left(), left)
			}
		}
		if in.Left() != spare {
			t.Fatal(in.Left(), spare)
		}
	}
}

// P3.3: the beginning of a word is none, and nothing is gone, till the rest comes.
func TestNextMore(t *testing.T) {
	r := rand.New(rand.NewSource(3))
	for round := range 20 {
		lengths := whole(r, 2+r.Intn(60))
		if round == 0 {
			lengths = longest()
		}
		c, _ := canon.New(lengths, false)
		words, _ := wordsOf(lengths)
		for symbol, word := range words {
			for n := range len(word) {
				in := readerOf(word[:n])
				if got, e := c.Next(in); got != 0 || e != api.ErrMore || in.Left() != n {
					t.Fatalf("%s of %s: %d, %v, %d left", word[:n], word, got, e, in.Left())
				}
			}
			if word != "" {
				in := readerOf(word)
				if got, e := c.Next(in); got != symbol || e != api.OK || in.Left() != 0 {
					t.Fatalf("%s: %d, %v, %d left", word, got, e, in.Left())
				}
			}
		}
	}
}

// P3.3: bits with which no word begins, of the codes that have too few.
func TestNextNone(t *testing.T) {
	one, _ := canon.New([]int{0, 0, 1}, true)
	none, _ := canon.New([]int{0, 0, 0}, true)
	for _, x := range []struct {
		c      *canon.Code
		bits   string
		symbol int
		want   api.Errno
	}{
		{one, "", 0, api.ErrMore},
		{one, "0", 2, api.OK},
		{one, "01", 2, api.OK},
		{one, "1", 0, api.ErrCode},
		{one, "10", 0, api.ErrCode},
		{one, strings.Repeat("1", 40), 0, api.ErrCode},
		{none, "", 0, api.ErrCode},
		{none, "0", 0, api.ErrCode},
		{none, "1", 0, api.ErrCode},
		{none, strings.Repeat("01", 20), 0, api.ErrCode},
	} {
		in := readerOf(x.bits)
		left := len(x.bits)
		if x.want == api.OK {
			left--
		}
		if symbol, e := x.c.Next(in); symbol != x.symbol || e != x.want || in.Left() != left {
			t.Errorf("%q: %d, %v, %d left", x.bits, symbol, e, in.Left())
		}
	}
}

// P3.3: of nil nothing.
func TestNil(t *testing.T) {
	var c *canon.Code
	in := readerOf("0101")
	if symbol, e := c.Next(in); symbol != 0 || e != api.ErrArg || in.Left() != 4 {
		t.Error(symbol, e, in.Left())
	}
	if symbol, e := c.Next(nil); symbol != 0 || e != api.ErrArg {
		t.Error(symbol, e)
	}
	if v, n := c.Word(0); v != 0 || n != 0 || len(c.Lengths()) != 0 {
		t.Error(v, n, c.Lengths())
	}
	var w bits.Writer
	c.Write(&w, 0)
	c.Write(nil, 0)
	if w.Len() != 0 {
		t.Error(w.Len())
	}
	for _, lengths := range [][]int{{1, 1}, {0, 0}} {
		code, _ := canon.New(lengths, true)
		if symbol, e := code.Next(nil); symbol != 0 || e != api.ErrArg {
			t.Error(lengths, symbol, e)
		}
		code.Write(nil, 1)
	}
}

// P3.4: each word of n bits counts as 2^(15 - n).
func TestShare(t *testing.T) {
	for _, x := range []struct {
		lengths []int
		want    int
	}{
		{nil, 0},
		{repeated(0, 288), 0},
		{repeated(0, 289), -1},
		{[]int{1}, 1 << 14},
		{[]int{15}, 1},
		{[]int{2, 1, 3, 3}, 1 << 15},
		{longest(), 1 << 15},
		{longest()[:15], 1<<15 - 1},
		{append(longest(), 15), 1<<15 + 1},
		{repeated(1, 288), 288 << 14},
		{repeated(1, 289), -1},
		{[]int{16}, -1},
		{[]int{1, -1}, -1},
		{[]int{math.MinInt}, -1},
		{[]int{math.MaxInt}, -1},
	} {
		given := slices.Clone(x.lengths)
		if n := canon.Share(given); n != x.want || !slices.Equal(given, x.lengths) {
			t.Errorf("%v: %d, not %d", x.lengths, n, x.want)
		}
	}
	r := rand.New(rand.NewSource(4))
	for range 100 {
		lengths := make([]int, r.Intn(289))
		sum := 0
		for i := range lengths {
			lengths[i] = r.Intn(16)
			if lengths[i] > 0 {
				sum += 1 << (15 - lengths[i])
			}
		}
		if n := canon.Share(lengths); n != sum {
			t.Errorf("%v: %d, not %d", lengths, n, sum)
		}
	}
}

// P3.4: so many words more make a code neither of too many nor of too few, at most one of each length.
func TestFill(t *testing.T) {
	r := rand.New(rand.NewSource(5))
	lists := [][]int{nil, {0}, {1}, {15}, {2, 2}, {2, 1, 3, 3}, {1, 1}, longest(), longest()[:15], repeated(9, 288), repeated(15, 288), repeated(0, 288), repeated(8, 256)}
	for range 200 {
		l := whole(r, 2+r.Intn(200))
		lists = append(lists, l[:r.Intn(len(l)+1)])
	}
	for _, lengths := range lists {
		given := slices.Clone(lengths)
		more := canon.Fill(given)
		if len(more) != api.MaxBits+1 || !slices.Equal(given, lengths) {
			t.Fatal(lengths, more)
		}
		sum := canon.Share(lengths)
		for n, k := range more {
			if k != 0 && k != 1 {
				t.Fatal(lengths, more)
			}
			sum += k << (api.MaxBits - n)
		}
		if sum != 1<<api.MaxBits || (more[0] == 1) != (canon.Share(lengths) == 0) {
			t.Errorf("%v: %v", lengths, more)
		}
	}
	for _, lengths := range [][]int{{1, 1, 1}, append(longest(), 15), repeated(1, 288), {16}, {-1}, {1, -1}, repeated(0, 289), repeated(15, 289), {math.MinInt}, {math.MaxInt}} {
		if more := canon.Fill(lengths); more != nil {
			t.Errorf("%v: %v", lengths, more)
		}
	}
}
