package match

import (
	"cmp"
	"math/bits"
	"slices"
	"strings"

	"lighter/api"
	"lighter/lz"
)

// Fewest tokens of a text, where another one stands ahead of it.
func Fewest(ahead, s string) []lz.Token {
	next := longestOfAll(ahead, s)
	// A match's beginning is a match, too: so each place can be told by as few tokens as the places that its longest one reaches allow.
	need := make([]int, len(s)+1)
	for i := len(s) - 1; i >= 0; i-- {
		longest := next[i]
		need[i], next[i] = need[i+1]+1, lz.Token{Byte: s[i]}
		for n := longest.Len; n >= api.MinMatch; n-- {
			if need[i+n]+1 < need[i] {
				need[i], next[i] = need[i+n]+1, lz.Token{Len: n, Dist: longest.Dist}
			}
		}
	}
	l := make([]lz.Token, 0, need[0])
	for i := 0; i < len(s); i += max(1, next[i].Len) {
		l = append(l, next[i])
	}
	return l
}

// longestOfAll: at each place of a text a longest match; the zero token, where there is none.
func longestOfAll(ahead, s string) []lz.Token {
	ahead = near(ahead)
	text := ahead + s
	l := make([]lz.Token, 0, len(s))
	for from := len(ahead); from < len(text); from += api.Window {
		l = append(l, longestOf(text, from, min(from+api.Window, len(text)))...)
	}
	return l
}

// longestOf the places from one up to another. By what stands there all places are sorted that these could go back to: of those within the window, the nearest ones in this order have most in common with a place.
func longestOf(text string, from, end int) []lz.Token {
	first := max(0, from-api.Window)
	sorted := sortedPlaces(text, first, end)
	rank := make([]int, len(sorted))
	for r, place := range sorted {
		rank[place-first] = r
	}
	window := newSet(len(sorted)) // ranks of places
	for place := first; place < from; place++ {
		window.put(rank[place-first])
	}
	l := make([]lz.Token, end-from)
	for at := from; at < end; at++ {
		r := rank[at-first]
		for _, other := range []int{window.below(r), window.above(r)} {
			if other < 0 {
				continue
			}
			x := matchOf(text, sorted[other], at)
			if x.Len > l[at-from].Len || x.Len == l[at-from].Len && x.Dist < l[at-from].Dist {
				l[at-from] = x
			}
		}
		window.put(r)
		if eldest := at - api.Window; eldest >= first {
			window.drop(rank[eldest-first])
		}
	}
	return l
}

// sortedPlaces from one up to another, by as many bytes as a match may have; where these are the same, by the places.
func sortedPlaces(text string, first, end int) []int {
	l := make([]int, end-first)
	for i := range l {
		l[i] = first + i
	}
	slices.SortFunc(l, func(a, b int) int {
		return cmp.Or(strings.Compare(beginning(text, a), beginning(text, b)), a-b)
	})
	return l
}

// beginning: the bytes at a place, as many as a match may have.
func beginning(text string, place int) string {
	return text[place:min(place+api.MaxMatch, len(text))]
}

// matchOf what two places have in common; the zero token, where that is too little.
func matchOf(text string, place, at int) lz.Token {
	a, b := beginning(text, place), beginning(text, at)
	n := 0
	for n < len(b) && a[n] == b[n] {
		n++
	}
	if n < api.MinMatch {
		return lz.Token{}
	}
	return lz.Token{Len: n, Dist: at - place}
}

// set of numbers, a bit for each.
type set []uint64

// newSet for numbers below n.
func newSet(n int) set { return make(set, n/64+1) }

func (s set) put(n int) { s[n/64] |= 1 << (n % 64) }

func (s set) drop(n int) { s[n/64] &^= 1 << (n % 64) }

// below: the greatest one below n; -1: there is none.
func (s set) below(n int) int {
	word := s[n/64] & (1<<(n%64) - 1)
	for i := n / 64; ; i-- {
		if word != 0 {
			return 64*i + bits.Len64(word) - 1
		}
		if i == 0 {
			return -1
		}
		word = s[i-1]
	}
}

// above: the least one above n, which isn't in the set itself; -1: there is none.
func (s set) above(n int) int {
	word := s[n/64] >> (n % 64) << (n % 64)
	for i := n / 64; ; i++ {
		if word != 0 {
			return 64*i + bits.TrailingZeros64(word)
		}
		if i == len(s)-1 {
			return -1
		}
		word = s[i+1]
	}
}
