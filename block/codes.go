package block

import (
	"slices"

	"lighter/api"
	"lighter/bits"
	"lighter/canon"
	"lighter/lz"
	"lighter/merge"
)

const (
	endSymbol = 256
	words     = 286 // symbols of bytes and lengths
	dists     = 30  // symbols of distances
)

// counts: how often each symbol comes in a block, and how many extra bits there are.
type counts struct {
	words [words]int
	dists [dists]int
	extra int
}

// count the symbols that tell tokens, and the end's.
func count(l []lz.Token) *counts {
	c := new(counts)
	for _, t := range l {
		if t.Len == 0 {
			c.words[t.Byte]++
			continue
		}
		size, dist := lz.Length(t.Len), lz.Dist(t.Dist)
		c.words[size.Symbol]++
		c.dists[dist.Symbol]++
		c.extra += size.Bits + dist.Bits
	}
	c.words[endSymbol]++
	return c
}

// size of all symbols, with their extra bits, by the lengths of their words.
func (c *counts) size(x lengths) int {
	return merge.Cost(c.words[:], x.words) + merge.Cost(c.dists[:], x.dists) + c.extra
}

// lengths of the words of both codes: of bytes and lengths, and of distances.
type lengths struct {
	words, dists []int
}

func fixedLengths() lengths {
	return lengths{
		words: slices.Concat(run(8, 144), run(9, 112), run(7, 24), run(8, 8)),
		dists: run(5, 32),
	}
}

// run of so many lengths, all the same.
func run(length, n int) []int { return slices.Repeat([]int{length}, n) }

// dynamicLengths that cost least.
func dynamicLengths(c *counts) lengths {
	ofWords, _ := merge.Lengths(c.words[:], api.MaxBits)
	ofDists, _ := merge.Lengths(c.dists[:], api.MaxBits)
	return lengths{words: paired(ofWords), dists: ofDists}
}

// paired: where just one symbol has a word the least other one has one too, since a code of one word alone isn't read.
func paired(l []int) []int {
	some := 0
	for _, n := range l {
		some += min(n, 1)
	}
	if some == 1 {
		l[slices.Index(l, 0)] = 1
	}
	return l
}

// write tokens, and the end's symbol.
func (x lengths) write(w *bits.Writer, l []lz.Token) {
	ofWords, _ := canon.New(x.words, false)
	ofDists, _ := canon.New(x.dists, true)
	for _, t := range l {
		if t.Len == 0 {
			ofWords.Write(w, int(t.Byte))
			continue
		}
		writeExtra(w, ofWords, lz.Length(t.Len))
		writeExtra(w, ofDists, lz.Dist(t.Dist))
	}
	ofWords.Write(w, endSymbol)
}

// writeExtra: a symbol, and its extra bits.
func writeExtra(w *bits.Writer, code *canon.Code, x lz.Extra) {
	code.Write(w, x.Symbol)
	w.Write(x.Value, x.Bits)
}
