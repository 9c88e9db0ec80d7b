package block_test

import (
	"math/rand"
	"slices"
	"strconv"
	"strings"
	"testing"

	"lighter/api"
	"lighter/bits"
	"lighter/block"
	"lighter/lz"
	"lighter/merge"
)

// bitList: bits as signs, in the order of the stream.
type bitList struct{ strings.Builder }

// number in n bits, its lowest one first.
func (b *bitList) number(v, n int) {
	for k := range n {
		b.WriteString(strconv.Itoa(v >> k & 1))
	}
}

// wordsOf a code's symbols, by its rule: the highest bit first.
func wordsOf(lengths []int) []string {
	words := make([]string, len(lengths))
	next, size := 0, 0
	for n := 1; n <= api.MaxBits; n++ {
		for symbol, length := range lengths {
			if length != n {
				continue
			}
			next <<= n - size
			size = n
			var b bitList
			for k := n - 1; k >= 0; k-- {
				b.number(next>>k, 1)
			}
			words[symbol] = b.String()
			next++
		}
	}
	return words
}

// symbolsOf tokens, with the end's: those of distances have 1000 more.
func symbolsOf(l []lz.Token) []lz.Extra {
	var symbols []lz.Extra
	for _, t := range l {
		if t.Len == 0 {
			symbols = append(symbols, lz.Extra{Symbol: int(t.Byte)})
			continue
		}
		dist := lz.Dist(t.Dist)
		dist.Symbol += 1000
		symbols = append(symbols, lz.Length(t.Len), dist)
	}
	return append(symbols, lz.Extra{Symbol: 256})
}

// symbols with their extra bits, by the lengths of both codes.
func (b *bitList) symbols(l []lz.Extra, words, dists []int) {
	ofWords, ofDists := wordsOf(words), wordsOf(dists)
	for _, x := range l {
		if x.Symbol >= 1000 {
			b.WriteString(ofDists[x.Symbol-1000])
		} else {
			b.WriteString(ofWords[x.Symbol])
		}
		b.number(int(x.Value), x.Bits)
	}
}

// fixedWords: lengths of a block of the kind Fixed.
func fixedWords() []int {
	l := make([]int, 288)
	for symbol := range l {
		switch {
		case symbol <= 143:
			l[symbol] = 8
		case symbol <= 255:
			l[symbol] = 9
		case symbol <= 279:
			l[symbol] = 7
		default:
			l[symbol] = 8
		}
	}
	return l
}

// dynamicWords: lengths of both codes of a block of the kind Dynamic.
func dynamicWords(symbols []lz.Extra) ([]int, []int) {
	counts, distCounts := make([]int, 286), make([]int, 30)
	for _, x := range symbols {
		if x.Symbol >= 1000 {
			distCounts[x.Symbol-1000]++
		} else {
			counts[x.Symbol]++
		}
	}
	words, _ := merge.Lengths(counts, 15)
	dists, _ := merge.Lengths(distCounts, 15)
	if len(symbols) == 1 {
		words[0] = 1
	}
	for len(words) > 257 && words[len(words)-1] == 0 {
		words = words[:len(words)-1]
	}
	for len(dists) > 1 && dists[len(dists)-1] == 0 {
		dists = dists[:len(dists)-1]
	}
	return words, dists
}

// packedBy the document's words, place by place.
func packedBy(l []int) []lz.Extra {
	var packed []lz.Extra
	for i := 0; i < len(l); {
		same := 1
		for i+same < len(l) && l[i+same] == l[i] {
			same++
		}
		behindFirst := i > 0 && l[i-1] == l[i]
		x, told := lz.Extra{Symbol: l[i]}, 1
		switch {
		case l[i] == 0 && same >= 11:
			told = min(same, 138)
			x = lz.Extra{Symbol: 18, Bits: 7, Value: uint64(told - 11)}
		case l[i] == 0 && same >= 3:
			told = min(same, 10)
			x = lz.Extra{Symbol: 17, Bits: 3, Value: uint64(told - 3)}
		case l[i] != 0 && behindFirst && same >= 3:
			told = min(same, 6)
			x = lz.Extra{Symbol: 16, Bits: 2, Value: uint64(told - 3)}
		}
		packed = append(packed, x)
		i += told
	}
	return packed
}

// dynamic: what a block of the kind Dynamic has behind its three bits.
func (b *bitList) dynamic(symbols []lz.Extra) {
	words, dists := dynamicWords(symbols)
	b.number(len(words)-257, 5)
	b.number(len(dists)-1, 5)
	packed := packedBy(slices.Concat(words, dists))
	counts := make([]int, 19)
	for _, x := range packed {
		counts[x.Symbol]++
	}
	tellers, _ := merge.Lengths(counts, 7)
	triples := 4
	order := []int{16, 17, 18, 0, 8, 7, 9, 6, 10, 5, 11, 4, 12, 3, 13, 2, 14, 1, 15}
	for i, symbol := range order {
		if tellers[symbol] > 0 {
			triples = max(triples, i+1)
		}
	}
	b.number(triples-4, 4)
	for _, symbol := range order[:triples] {
		b.number(tellers[symbol], 3)
	}
	b.symbols(packed, tellers, nil)
	b.symbols(symbols, words, dists)
}

// modelOf a block behind so many bits: its bits.
func modelOf(kind int, last bool, s string, l []lz.Token, ahead int) string {
	var b bitList
	b.number(0, ahead)
	begin := 0
	if last {
		begin = 1
	}
	b.number(begin, 1)
	b.number(kind, 2)
	switch kind {
	case block.Stored:
		for b.Len()%8 > 0 {
			b.number(0, 1)
		}
		b.number(len(s), 16)
		b.number(65535-len(s), 16)
		for i := range len(s) {
			b.number(int(s[i]), 8)
		}
	case block.Fixed:
		b.symbols(symbolsOf(l), fixedWords(), slices.Repeat([]int{5}, 30))
	default:
		b.dynamic(symbolsOf(l))
	}
	return b.String()
}

// written: the bits that Write writes behind so many noughts.
func written(t testing.TB, kind int, last bool, s string, l []lz.Token, ahead int) string {
	t.Helper()
	var w bits.Writer
	for range ahead {
		w.Write(0, 1)
	}
	if e := block.Write(&w, kind, last, s, l); e != api.OK {
		t.Fatal(kind, len(s), len(l), e)
	}
	n := w.Len()
	w.Align()
	var r bits.Reader
	r.Feed(w.Drain())
	var b bitList
	for range n {
		v, _ := r.Read(1)
		b.number(int(v), 1)
	}
	return b.String()
}

// randomTokens that are told behind so many bytes.
func randomTokens(r *rand.Rand, n, letters, ahead int) []lz.Token {
	var l []lz.Token
	matches := r.Intn(4)
	for range n {
		if ahead > 0 && r.Intn(4) < matches {
			x := lz.Token{Len: 3 + r.Intn(8), Dist: 1 + r.Intn(min(ahead, 1<<r.Intn(16)))}
			if r.Intn(4) == 0 {
				x.Len = 3 + r.Intn(256)
			}
			l = append(l, x)
			ahead = min(ahead+x.Len, api.Window)
			continue
		}
		l = append(l, lz.Token{Byte: byte(min(r.Intn(letters), r.Intn(letters)))})
		ahead = min(ahead+1, api.Window)
	}
	return l
}
