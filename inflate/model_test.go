package inflate_test

import (
	mathbits "math/bits"
	"slices"

	"lighter/api"
	"lighter/bits"
)

// bitList: bits, the first one first.
type bitList []byte

// bitsOf a text: of each byte the lowest bit first.
func bitsOf(s string) bitList {
	var l bitList
	for i := range len(s) {
		for k := range 8 {
			l = append(l, s[i]>>k&1)
		}
	}
	return l
}

// fault: what ends the model ahead of the stream's end.
type fault struct{ err api.Errno }

// model reads a stream of which no more will come, from its first bit on, as plainly as the document tells it.
type model struct {
	in   bitList
	at   int
	told []byte
}

// answer of the model: what is told of a stream's beginning, the error (ErrMore: it goes on), and how many bytes it has.
type answer struct {
	told string
	err  api.Errno
	used int
}

// modelOf a stream's beginning.
func modelOf(s string) (a answer) {
	m := &model{in: bitsOf(s)}
	defer func() {
		a.told = string(m.told)
		if x := recover(); x != nil {
			a.err = x.(fault).err
			return
		}
		a.used = (m.at + 7) / 8
	}()
	for !m.block() {
	}
	return
}

func fail(err api.Errno) { panic(fault{err}) }

// need: so many bits have to be there.
func (m *model) need(n int) {
	if m.at+n > len(m.in) {
		fail(api.ErrMore)
	}
}

func (m *model) number(n int) int {
	m.need(n)
	v := 0
	for i := range n {
		v |= int(m.in[m.at+i]) << i
	}
	m.at += n
	return v
}

// block: was it the last one?
func (m *model) block() bool {
	v := m.number(3)
	switch v >> 1 {
	case 0:
		m.storedBlock()
	case 1:
		m.symbols(codeOf(fixedWords()), codeOf(repeated(32, 5)))
	case 2:
		m.dynamicBlock()
	default:
		fail(api.ErrForm)
	}
	return v&1 == 1
}

func (m *model) storedBlock() {
	m.at = (m.at + 7) / 8 * 8
	m.need(32)
	n, against := m.number(16), m.number(16)
	if against != 65535-n {
		fail(api.ErrSize)
	}
	for range n {
		m.told = append(m.told, byte(m.number(8)))
	}
}

func repeated(n, length int) []int {
	l := make([]int, n)
	for i := range l {
		l[i] = length
	}
	return l
}

func fixedWords() []int {
	l := append(repeated(144, 8), repeated(112, 9)...)
	return append(append(l, repeated(24, 7)...), repeated(8, 8)...)
}

// code: words are numbers, the bit that comes first the highest, behind a bit that is set.
type code struct {
	symbols []int  // of each number the symbol, or -1
	begins  []bool // is it a beginning of a word, or a word?
}

// codeOf lengths: each symbol's word.
func codeOf(lengths []int) code {
	size := 2 << slices.Max(append([]int{0}, lengths...))
	c := code{repeated(size, -1), make([]bool, size)}
	next, ahead := 0, 0
	for n := 1; n <= 15; n++ {
		for symbol, length := range lengths {
			if length != n {
				continue
			}
			next <<= n - ahead
			ahead = n
			word := 1<<n | next
			c.symbols[word] = symbol
			for ; word > 0; word /= 2 {
				c.begins[word] = true
			}
			next++
		}
	}
	return c
}

// share of all words, of 2^15.
func share(lengths []int) int {
	sum := 0
	for _, n := range lengths {
		if n > 0 {
			sum += 1 << (15 - n)
		}
	}
	return sum
}

// check what a code's lengths are wrong in.
func check(lengths []int, loose bool) {
	sum, ones := share(lengths), 0
	for _, n := range lengths {
		if n == 1 {
			ones++
		}
	}
	if sum > 1<<15 {
		fail(api.ErrOver)
	}
	if sum < 1<<15 && !(loose && (sum == 0 || sum == 1<<14 && ones == 1)) {
		fail(api.ErrCode)
	}
}

// symbol whose word comes next.
func (m *model) symbol(c code) int {
	word := 1
	for {
		if symbol := c.symbols[word]; symbol >= 0 {
			return symbol
		}
		if !c.begins[word] {
			fail(api.ErrCode)
		}
		word = 2*word | m.number(1)
	}
}

func (m *model) dynamicBlock() {
	v := m.number(14)
	words, dists, triples := v&31+257, v>>5&31+1, v>>10+4
	if words > 286 || dists > 30 {
		fail(api.ErrRange)
	}
	m.need(3 * triples)
	tellers := make([]int, 19)
	for _, symbol := range []int{16, 17, 18, 0, 8, 7, 9, 6, 10, 5, 11, 4, 12, 3, 13, 2, 14, 1, 15}[:triples] {
		tellers[symbol] = m.number(3)
	}
	check(tellers, false)
	lengths := m.lengths(codeOf(tellers), words+dists)
	if lengths[256] == 0 {
		fail(api.ErrEnd)
	}
	check(lengths[:words], false)
	check(lengths[words:], true)
	m.symbols(codeOf(lengths[:words]), codeOf(lengths[words:]))
}

func (m *model) lengths(c code, n int) []int {
	var l []int
	for len(l) < n {
		symbol := m.symbol(c)
		switch {
		case symbol < 16:
			l = append(l, symbol)
		case symbol == 16 && len(l) == 0:
			fail(api.ErrForm)
		case symbol == 16:
			l = append(l, repeated(3+m.number(2), l[len(l)-1])...)
		case symbol == 17:
			l = append(l, repeated(3+m.number(3), 0)...)
		default:
			l = append(l, repeated(11+m.number(7), 0)...)
		}
	}
	if len(l) > n {
		fail(api.ErrRange)
	}
	return l
}

func (m *model) symbols(words, dists code) {
	lengthBases := []int{3, 4, 5, 6, 7, 8, 9, 10, 11, 13, 15, 17, 19, 23, 27, 31, 35, 43, 51, 59, 67, 83, 99, 115, 131, 163, 195, 227, 258}
	lengthBits := []int{0, 0, 0, 0, 0, 0, 0, 0, 1, 1, 1, 1, 2, 2, 2, 2, 3, 3, 3, 3, 4, 4, 4, 4, 5, 5, 5, 5, 0}
	distBases := []int{1, 2, 3, 4, 5, 7, 9, 13, 17, 25, 33, 49, 65, 97, 129, 193, 257, 385, 513, 769, 1025, 1537, 2049, 3073, 4097, 6145, 8193, 12289, 16385, 24577}
	for {
		symbol := m.symbol(words)
		if symbol == 256 {
			return
		}
		if symbol < 256 {
			m.told = append(m.told, byte(symbol))
			continue
		}
		if symbol > 285 {
			fail(api.ErrCode)
		}
		size := lengthBases[symbol-257] + m.number(lengthBits[symbol-257])
		symbol = m.symbol(dists)
		if symbol > 29 {
			fail(api.ErrCode)
		}
		dist := distBases[symbol] + m.number(max(0, symbol/2-1))
		if dist > len(m.told) || dist > 32768 {
			fail(api.ErrDist)
		}
		for range size {
			m.told = append(m.told, m.told[len(m.told)-dist])
		}
	}
}

// maker of streams, bit by bit.
type maker struct{ w bits.Writer }

// put numbers: how many bits, the number, and so on.
func (m *maker) put(l ...int) *maker {
	for i := 0; i < len(l); i += 2 {
		m.w.Write(uint64(l[i+1]), l[i])
	}
	return m
}

// symbols, by the words that lengths give them.
func (m *maker) symbols(lengths []int, l ...int) *maker {
	words := map[int]int{}
	for word, symbol := range codeOf(lengths).symbols {
		words[symbol] = word
	}
	for _, symbol := range l {
		word, ok := words[symbol]
		if !ok {
			panic("a symbol without a word")
		}
		for n := mathbits.Len(uint(word)) - 2; n >= 0; n-- {
			m.put(1, word>>n&1)
		}
	}
	return m
}

// fixed: symbols of bytes and lengths of a fixed block.
func (m *maker) fixed(l ...int) *maker { return m.symbols(fixedWords(), l...) }

// dist: a distance's symbol of a fixed block, and its extra bits.
func (m *maker) dist(symbol, bits, extra int) *maker {
	return m.symbols(repeated(32, 5), symbol).put(bits, extra)
}

// stream: all bytes, the last one filled up by noughts.
func (m *maker) stream() string {
	m.w.Align()
	return m.w.Drain()
}

// tellerLengths: all symbols that tell lengths have words.
func tellerLengths() []int { return append(repeated(13, 4), repeated(6, 5)...) }

// head of a dynamic block: last, so many lengths of each kind, and the lengths of three bits.
func (m *maker) head(last, words, dists int, tellers []int) *maker {
	m.put(1, last, 2, 2, 5, words-257, 5, dists-1, 4, 15)
	for _, symbol := range []int{16, 17, 18, 0, 8, 7, 9, 6, 10, 5, 11, 4, 12, 3, 13, 2, 14, 1, 15} {
		m.put(3, tellers[symbol])
	}
	return m
}

// lengths, one by one.
func (m *maker) lengths(l []int) *maker { return m.symbols(tellerLengths(), l...) }

// dynamic: a block's beginning, with these lengths.
func (m *maker) dynamic(last int, words, dists []int) *maker {
	return m.head(last, len(words), len(dists), tellerLengths()).lengths(words).lengths(dists)
}
