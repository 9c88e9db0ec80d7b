package block

import (
	"slices"

	"lighter/api"
	"lighter/bits"
	"lighter/canon"
	"lighter/lz"
	"lighter/merge"
)

// Symbols that tell more lengths than one.
const (
	again       = 16 + iota // the one ahead, again
	noughts                 // some
	manyNoughts             // and many
	tellers                 // how many symbols tell lengths
)

const (
	leastRun     = 3 // of lengths that one symbol tells
	mostAgain    = 6
	leastMany    = 11 // noughts that one symbol more than noughts tells
	mostMany     = 138
	leastWords   = 257 // lengths of bytes and lengths that are told
	leastDists   = 1
	leastTriples = 4 // lengths of three bits
	mostTriple   = 7
)

// order of the symbols that tell lengths, by which their own lengths are told: those that seldom come stand behind.
var order = [tellers]int{16, 17, 18, 0, 8, 7, 9, 6, 10, 5, 11, 4, 12, 3, 13, 2, 14, 1, 15}

// Pack lengths as a block's beginning tells them: symbols with their extra bits.
func Pack(lengths []int) []lz.Extra {
	if slices.ContainsFunc(lengths, func(n int) bool { return n < 0 || n > api.MaxBits }) {
		return nil
	}
	var l []lz.Extra
	for begin := 0; begin < len(lengths); {
		end := begin + 1
		for end < len(lengths) && lengths[end] == lengths[begin] {
			end++
		}
		l = packRun(l, lengths[begin], end-begin)
		begin = end
	}
	return l
}

// packRun: n lengths, all the same, behind what is packed.
func packRun(l []lz.Extra, length, n int) []lz.Extra {
	if length > 0 {
		l = append(l, lz.Extra{Symbol: length})
		n--
	}
	for n > 0 {
		x, told := packPart(length, n)
		l = append(l, x)
		n -= told
	}
	return l
}

// packPart: the symbol that tells the first ones of n lengths, and how many it tells.
func packPart(length, n int) (lz.Extra, int) {
	switch {
	case n < leastRun:
		return lz.Extra{Symbol: length}, 1
	case length > 0:
		n = min(n, mostAgain)
		return lz.Extra{Symbol: again, Bits: 2, Value: uint64(n - leastRun)}, n
	case n < leastMany:
		return lz.Extra{Symbol: noughts, Bits: 3, Value: uint64(n - leastRun)}, n
	default:
		n = min(n, mostMany)
		return lz.Extra{Symbol: manyNoughts, Bits: 7, Value: uint64(n - leastMany)}, n
	}
}

// head: what a dynamic block tells ahead of its symbols.
type head struct {
	words, dists int        // how many lengths are told
	packed       []lz.Extra // both lists of them
	counts       [tellers]int
	tellers      []int // the lengths of the symbols that are packed
	triples      []int // as they are told
}

func headOf(x lengths) *head {
	ofWords, ofDists := told(x.words, leastWords), told(x.dists, leastDists)
	h := &head{words: len(ofWords), dists: len(ofDists)}
	h.packed = Pack(slices.Concat(ofWords, ofDists))
	for _, x := range h.packed {
		h.counts[x.Symbol]++
	}
	l, _ := merge.Lengths(h.counts[:], mostTriple)
	h.tellers = paired(l)
	triples := make([]int, tellers)
	for i, symbol := range order {
		triples[i] = h.tellers[symbol]
	}
	h.triples = told(triples, leastTriples)
	return h
}

// told: lengths up to the last one that isn't nought, and at least so many.
func told(l []int, least int) []int {
	n := len(l)
	for n > least && l[n-1] == 0 {
		n--
	}
	return l[:n]
}

// size in bits.
func (h *head) size() int {
	n := 5 + 5 + 4 + 3*len(h.triples) + merge.Cost(h.counts[:], h.tellers)
	for _, x := range h.packed {
		n += x.Bits
	}
	return n
}

func (h *head) write(w *bits.Writer) {
	w.Write(uint64(h.words-leastWords), 5)
	w.Write(uint64(h.dists-leastDists), 5)
	w.Write(uint64(len(h.triples)-leastTriples), 4)
	for _, n := range h.triples {
		w.Write(uint64(n), 3)
	}
	code, _ := canon.New(h.tellers, false)
	for _, x := range h.packed {
		writeExtra(w, code, x)
	}
}
