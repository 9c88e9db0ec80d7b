package block_test

import (
	"compress/flate"
	"io"
	"math"
	"math/rand"
	"slices"
	"strings"
	"testing"

	"lighter/api"
	"lighter/bits"
	"lighter/block"
	"lighter/inflate"
	"lighter/lz"
	"lighter/merge"
)

var kinds = []int{block.Stored, block.Fixed, block.Dynamic}

func bytesOf(s string) []lz.Token {
	var l []lz.Token
	for i := range len(s) {
		l = append(l, lz.Token{Byte: s[i]})
	}
	return l
}

func randomText(r *rand.Rand, size int) string {
	s := make([]byte, size)
	r.Read(s)
	return string(s)
}

// checkBlock of each kind: its bits are the model's, Size is how many.
func checkBlock(t *testing.T, s string, l []lz.Token, ahead int) {
	t.Helper()
	for _, kind := range kinds {
		for _, last := range []bool{false, true} {
			want := modelOf(kind, last, s, l, ahead)
			got := written(t, kind, last, s, l, ahead)
			if got != want {
				t.Fatalf("kind %d of %q, %v: %s, not %s", kind, s, l, got, want)
			}
			size := len(want) - ahead
			if kind == block.Stored {
				size = 3 + 32 + 8*len(s)
			}
			if n, ok := block.Size(kind, s, l); n != size || !ok {
				t.Fatalf("kind %d of %q, %v: %d bits, not %d", kind, s, l, n, size)
			}
		}
	}
}

// streamOf: a text that is stored, and a block of tokens.
func streamOf(t *testing.T, ahead string, kind int, s string, l []lz.Token) string {
	t.Helper()
	var w bits.Writer
	for part := range slices.Chunk([]byte(ahead), 65535) {
		block.Write(&w, block.Stored, false, string(part), nil)
	}
	if e := block.Write(&w, kind, true, s, l); e != api.OK {
		t.Fatal(kind, e)
	}
	w.Align()
	return w.Drain()
}

// checkRead: layer 7, and the library, read what tokens tell behind a text (of Stored: s).
func checkRead(t *testing.T, ahead, s string, l []lz.Token) {
	t.Helper()
	told, ok := lz.Expand(ahead, l)
	if !ok {
		t.Fatal("tokens that go back too far")
	}
	for _, kind := range kinds {
		want := ahead + told
		if kind == block.Stored {
			want = ahead + s
		}
		stream := streamOf(t, ahead, kind, s, l)
		got, rest, e := inflate.All(stream)
		if got != want || rest != "" || e != api.OK {
			t.Fatalf("kind %d: %d bytes, %d left, %v, not %d", kind, len(got), len(rest), e, len(want))
		}
		other, err := io.ReadAll(flate.NewReader(strings.NewReader(stream)))
		if string(other) != want || err != nil {
			t.Fatalf("kind %d: the library reads %d bytes, %v", kind, len(other), err)
		}
	}
}

// The chapter's example.
func TestExample(t *testing.T) {
	l := bytesOf("a")
	if n, ok := block.Size(block.Fixed, "a", l); n != 18 || !ok {
		t.Error(n, ok)
	}
	if kind := block.Choose("a", l); kind != block.Fixed {
		t.Error(kind)
	}
	if got := written(t, block.Fixed, true, "a", l, 0); got != "1"+"10"+"10010001"+"0000000" {
		t.Error(got)
	}
	if got := written(t, block.Fixed, true, "", nil, 0); got != "1100000000" {
		t.Error(got)
	}
}

// P9.2: blocks of the edges that the document names.
func TestEdges(t *testing.T) {
	var all []lz.Token
	for b := range 256 {
		all = append(all, lz.Token{Byte: byte(b)})
	}
	for n := 3; n <= 258; n++ {
		all = append(all, lz.Token{Len: n, Dist: 1})
	}
	for bit := range 15 {
		all = append(all, lz.Token{Len: 3, Dist: 1 << bit}, lz.Token{Len: 3, Dist: 1<<bit + 1})
	}
	ahead := strings.Repeat("the text ahead", 2400)
	for name, l := range map[string][]lz.Token{
		"no token":          nil,
		"the byte 0":        bytesOf("\x00"),
		"the byte 255":      bytesOf("\xff"),
		"many of one byte":  bytesOf(strings.Repeat("x", 1000)),
		"many of byte 0":    bytesOf(strings.Repeat("\x00", 1000)),
		"two bytes":         bytesOf("ab"),
		"all bytes":         all[:256],
		"all bytes, twice":  slices.Concat(all[:256], all[:256]),
		"each, and matches": all,
		"a match alone":     {{Len: 258, Dist: 32768}},
		"a match of 3":      {{Len: 3, Dist: 1}},
		"a far match":       {{Len: 3, Dist: 32768}, {Len: 10, Dist: 32768}},
		"two distances":     {{Len: 3, Dist: 1}, {Len: 3, Dist: 2}},
		"far and near":      {{Len: 100, Dist: 30000}, {Len: 258, Dist: 1}, {Len: 257, Dist: 4}},
	} {
		t.Run(name, func(t *testing.T) {
			told, _ := lz.Expand(ahead, l)
			checkBlock(t, told, l, 0)
			checkBlock(t, "", l, 5)
			checkRead(t, ahead, told, l)
			checkRead(t, ahead, "not what they tell", l)
		})
	}
}

// P9.2: where words of more than 15 bits would cost least.
func TestLongWords(t *testing.T) {
	var l []lz.Token
	for letter := range 16 {
		l = append(l, slices.Repeat([]lz.Token{{Byte: byte(letter)}}, 1<<letter)...)
	}
	checkBlock(t, "", l, 0)
	checkRead(t, "", "", l)
	if words, _ := dynamicWords(symbolsOf(l)); slices.Max(words) != 15 {
		t.Error("no words of 15 bits")
	}
	// Of distances too.
	l = []lz.Token{{Len: 3, Dist: 1}}
	for symbol := range 15 {
		least, _, _ := lz.DistOf(symbol + 1)
		l = append(l, slices.Repeat([]lz.Token{{Len: 3, Dist: least}}, 1<<symbol)...)
	}
	if _, dists := dynamicWords(symbolsOf(l)); slices.Max(dists) != 15 {
		t.Error("no words of 15 bits")
	}
	checkBlock(t, "", l, 3)
}

// P9.2: where words of more than 7 bits would cost least of the symbols that tell lengths.
func TestLongTellers(t *testing.T) {
	var l []lz.Token
	letter := 0
	for length, n := range []int{2: 1, 3: 1, 4: 2, 5: 4, 6: 7, 7: 19, 8: 16, 9: 12, 10: 16, 11: 16, 12: 16, 13: 31} {
		for range n {
			l = append(l, slices.Repeat([]lz.Token{{Byte: byte(letter * 11)}}, 1<<(13-length))...)
			letter++
		}
	}
	words, dists := dynamicWords(symbolsOf(l))
	counts := make([]int, 19)
	for _, x := range packedBy(slices.Concat(words, dists)) {
		counts[x.Symbol]++
	}
	if tellers, _ := merge.Lengths(counts, 15); slices.Max(tellers) <= 7 {
		t.Error("words of 7 bits are enough", counts)
	}
	checkBlock(t, "", l, 3)
	checkRead(t, "", "", l)
}

// P9.2: any tokens.
func TestRandom(t *testing.T) {
	r := rand.New(rand.NewSource(1))
	for range 300 {
		ahead := randomText(r, r.Intn(3)*r.Intn(17000))
		n := r.Intn(10)
		if r.Intn(3) == 0 {
			n = r.Intn(300)
		}
		l := randomTokens(r, n, 1+r.Intn(256), len(ahead))
		told, _ := lz.Expand(ahead, l)
		checkBlock(t, told, l, r.Intn(20))
		checkRead(t, ahead, told, l)
	}
}

// P9.2: blocks one behind the other; what was written ahead stays.
func TestManyBlocks(t *testing.T) {
	r := rand.New(rand.NewSource(2))
	for range 50 {
		var w bits.Writer
		want := ""
		for blocks := r.Intn(8); blocks >= 0; blocks-- {
			l := randomTokens(r, r.Intn(30), 256, len(want))
			told, _ := lz.Expand(want, l)
			want += told
			block.Write(&w, r.Intn(3), blocks == 0, told, l)
		}
		w.Align()
		if got, rest, e := inflate.All(w.Drain()); got != want || rest != "" || e != api.OK {
			t.Fatal(len(got), len(want), len(rest), e)
		}
	}
}

// P9.2: as great a block as may be, and one beyond it.
func TestGreatest(t *testing.T) {
	r := rand.New(rand.NewSource(3))
	s := randomText(r, 65536)
	l := bytesOf(s)
	checkRead(t, "", s[:65535], l[:65535])
	many := slices.Repeat([]lz.Token{{Len: 258, Dist: 1}}, 65535)
	checkRead(t, "a", "", many)
	for _, kind := range kinds {
		if n, ok := block.Size(kind, s[:65535], l[:65535]); n < 8*65535 || !ok {
			t.Error(kind, n, ok)
		}
	}
	checkNone(t, s, nil)
	checkNone(t, s, l[:65535])
	checkNone(t, "", l)
	checkNone(t, s, l)
	if n, ok := block.Size(block.Stored, s[:65535], l[:65535]); n != 35+8*65535 || !ok {
		t.Error(n, ok)
	}
}

// checkNone: a block that may not be, of no kind.
func checkNone(t *testing.T, s string, l []lz.Token) {
	t.Helper()
	for _, kind := range kinds {
		checkRefused(t, kind, s, l)
	}
	if kind := block.Choose(s, l); kind != block.Stored {
		t.Errorf("%d is chosen", kind)
	}
}

func checkRefused(t *testing.T, kind int, s string, l []lz.Token) {
	t.Helper()
	if n, ok := block.Size(kind, s, l); n != 0 || ok {
		t.Errorf("kind %d: %d, %v", kind, n, ok)
	}
	var w bits.Writer
	w.Write(0x5a3, 11)
	for _, last := range []bool{false, true} {
		if e := block.Write(&w, kind, last, s, l); e != api.ErrArg {
			t.Errorf("kind %d: %v", kind, e)
		}
		if e := block.Write(nil, kind, last, s, l); e != api.ErrArg {
			t.Errorf("kind %d of no writer: %v", kind, e)
		}
	}
	n := w.Len()
	w.Align()
	if v := bits.Get(w.Drain()); n != 11 || v != 0x5a3 {
		t.Errorf("kind %d: %d bits, %x", kind, n, v)
	}
}

// P9.2: what is wrong in what is handed in.
func TestWrong(t *testing.T) {
	good := []lz.Token{{Byte: 'a'}, {Len: 3, Dist: 1}}
	for _, kind := range []int{-1, 3, 4, 256, math.MinInt, math.MaxInt, 1 << 32} {
		checkRefused(t, kind, "a", good)
		checkRefused(t, kind, "", nil)
	}
	for _, kind := range kinds {
		if e := block.Write(nil, kind, true, "a", good); e != api.ErrArg {
			t.Errorf("kind %d of no writer: %v", kind, e)
		}
	}
	for _, bad := range []lz.Token{
		{Len: 2, Dist: 1}, {Len: 259, Dist: 1}, {Len: 3}, {Dist: 1}, {Len: 3, Dist: 32769}, {Len: -1}, {Len: 3, Dist: -1},
		{Byte: 'a', Len: 3, Dist: 1}, {Len: math.MaxInt, Dist: 1}, {Len: 3, Dist: math.MinInt},
	} {
		checkNone(t, "aaaa", []lz.Token{bad})
		checkNone(t, "aaaa", append(slices.Clone(good), bad))
		checkNone(t, "aaaa", append([]lz.Token{bad}, good...))
	}
	// Tokens that are Good are a block, whether what they go back to is there or not.
	checkBlock(t, "", []lz.Token{{Len: 258, Dist: 32768}}, 0)
}

// chosenBy the document's words.
func chosenBy(s string, l []lz.Token) (int, [3]int) {
	sizes := [3]int{35 + 8*len(s) + 7}
	chosen := block.Stored
	for kind := block.Fixed; kind <= block.Dynamic; kind++ {
		sizes[kind] = len(modelOf(kind, true, s, l, 0))
		if sizes[kind] < sizes[chosen] {
			chosen = kind
		}
	}
	return chosen, sizes
}

// P9.3: the least; of the same the lesser kind.
func TestChoose(t *testing.T) {
	r := rand.New(rand.NewSource(4))
	var chosen [3]int
	same := map[[2]int]int{}
	check := func(s string, l []lz.Token) {
		want, sizes := chosenBy(s, l)
		if got := block.Choose(s, l); got != want {
			t.Fatalf("%d bytes, %v: %d, not %d", len(s), l, got, want)
		}
		chosen[want]++
		for a := range kinds {
			for b := range a {
				if sizes[a] == sizes[b] && sizes[a] == slices.Min(sizes[:]) {
					same[[2]int{b, a}]++
				}
			}
		}
	}
	for range 3000 {
		l := randomTokens(r, r.Intn(80), 1+r.Intn(256), 100)
		// Which of the texts' sizes would make Stored's just as great?
		size := max(0, (min(len(modelOf(1, true, "", l, 0)), len(modelOf(2, true, "", l, 0)))-42)/8)
		for n := max(0, size-1); n <= size+1; n++ {
			check(strings.Repeat("s", n), l)
		}
	}
	for _, kind := range kinds {
		if chosen[kind] < 50 {
			t.Errorf("kind %d: %d times", kind, chosen[kind])
		}
	}
	for _, pair := range [][2]int{{0, 1}, {0, 2}, {1, 2}} {
		if same[pair] < 5 {
			t.Errorf("kinds %v are the same %d times", pair, same[pair])
		}
	}
}

// P9.3: Stored counts as seven more.
func TestChooseStored(t *testing.T) {
	for size := range 10 {
		s := strings.Repeat("s", size)
		for tokens, want := range map[int]int{size: 1, size + 3: 1, size + 4: 0, size + 5: 0} {
			l := make([]lz.Token, tokens)
			for i := range l {
				l[i].Byte = byte(i * 11) // all others of the kind Dynamic are greater
			}
			if got := block.Choose(s, l); got != want {
				t.Errorf("%d bytes, %d tokens: %d, not %d", size, tokens, got, want)
			}
		}
	}
	if kind := block.Choose("", nil); kind != block.Fixed {
		t.Error(kind)
	}
	r := rand.New(rand.NewSource(5))
	s := randomText(r, 20000)
	if kind := block.Choose(s, bytesOf(s)); kind != block.Stored {
		t.Error(kind)
	}
	s = strings.Repeat("abcd", 5000)
	if kind := block.Choose(s, bytesOf(s)); kind != block.Dynamic {
		t.Error(kind)
	}
}

// P9.1: lengths as symbols.
func TestPack(t *testing.T) {
	again := func(n uint64) lz.Extra { return lz.Extra{Symbol: 16, Bits: 2, Value: n - 3} }
	noughts := func(n uint64) lz.Extra { return lz.Extra{Symbol: 17, Bits: 3, Value: n - 3} }
	many := func(n uint64) lz.Extra { return lz.Extra{Symbol: 18, Bits: 7, Value: n - 11} }
	one := func(n int) lz.Extra { return lz.Extra{Symbol: n} }
	for _, x := range []struct {
		length, n int
		want      []lz.Extra
	}{
		{0, 0, nil},
		{0, 1, []lz.Extra{one(0)}},
		{0, 2, []lz.Extra{one(0), one(0)}},
		{0, 3, []lz.Extra{noughts(3)}},
		{0, 10, []lz.Extra{noughts(10)}},
		{0, 11, []lz.Extra{many(11)}},
		{0, 138, []lz.Extra{many(138)}},
		{0, 139, []lz.Extra{many(138), one(0)}},
		{0, 140, []lz.Extra{many(138), one(0), one(0)}},
		{0, 141, []lz.Extra{many(138), noughts(3)}},
		{0, 148, []lz.Extra{many(138), noughts(10)}},
		{0, 149, []lz.Extra{many(138), many(11)}},
		{0, 277, []lz.Extra{many(138), many(138), one(0)}},
		{5, 1, []lz.Extra{one(5)}},
		{5, 2, []lz.Extra{one(5), one(5)}},
		{5, 3, []lz.Extra{one(5), one(5), one(5)}},
		{5, 4, []lz.Extra{one(5), again(3)}},
		{15, 7, []lz.Extra{one(15), again(6)}},
		{15, 8, []lz.Extra{one(15), again(6), one(15)}},
		{1, 9, []lz.Extra{one(1), again(6), one(1), one(1)}},
		{1, 10, []lz.Extra{one(1), again(6), again(3)}},
		{1, 13, []lz.Extra{one(1), again(6), again(6)}},
		{1, 14, []lz.Extra{one(1), again(6), again(6), one(1)}},
	} {
		l := slices.Repeat([]int{x.length}, x.n)
		if got := block.Pack(l); !slices.Equal(got, x.want) {
			t.Errorf("%d times %d: %v, not %v", x.n, x.length, got, x.want)
		}
	}
	// One run ends where another one begins.
	got := block.Pack([]int{3, 3, 3, 3, 0, 0, 0, 4, 4, 4, 4, 4, 3, 0})
	want := []lz.Extra{one(3), again(3), noughts(3), one(4), again(4), one(3), one(0)}
	if !slices.Equal(got, want) {
		t.Errorf("%v, not %v", got, want)
	}
}

// P9.1: any lengths; those that may not be.
func TestPackRandom(t *testing.T) {
	r := rand.New(rand.NewSource(6))
	for range 500 {
		var l []int
		for range r.Intn(12) {
			run := r.Intn(16)
			if r.Intn(4) == 0 {
				run = r.Intn(300)
			}
			l = append(l, slices.Repeat([]int{r.Intn(16) * r.Intn(2)}, run)...)
		}
		given := slices.Clone(l)
		if got, want := block.Pack(l), packedBy(l); !slices.Equal(got, want) {
			t.Fatalf("%v: %v, not %v", l, got, want)
		}
		if !slices.Equal(l, given) {
			t.Fatal("what was handed in is changed")
		}
		for _, bad := range []int{-1, 16, 17, 18, math.MinInt, math.MaxInt} {
			if got := block.Pack(slices.Insert(l, r.Intn(len(l)+1), bad)); len(got) != 0 {
				t.Fatalf("%d: %v", bad, got)
			}
		}
	}
	long := make([]int, 100003)
	if got := block.Pack(long); !slices.Equal(got, packedBy(long)) {
		t.Error("many noughts")
	}
}

// What is handed in isn't changed.
func TestKeeps(t *testing.T) {
	r := rand.New(rand.NewSource(7))
	room := randomTokens(r, 100, 256, 50)
	given := slices.Clone(room)
	for _, kind := range kinds {
		var w bits.Writer
		block.Write(&w, kind, true, "text", room[:60])
		block.Size(kind, "text", room[:60])
		block.Choose("text", room[:60])
	}
	if !slices.Equal(room, given) {
		t.Error("tokens are changed")
	}
}
