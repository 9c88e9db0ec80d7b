package merge_test

import (
	"cmp"
	"math"
	"math/rand"
	"slices"
	"testing"

	"lighter/api"
	"lighter/merge"
)

// least: what lengths of these counts cost at least, by trying for each length how many symbols have it. The counts fall, none is 0, there are two at least.
func least(counts []int, most int) int {
	n := len(counts)
	behind := make([]int, n+1)
	for i := n - 1; i >= 0; i-- {
		behind[i] = behind[i+1] + counts[i]
	}
	type place struct{ depth, open, done int }
	known := map[place]int{}
	var try func(place) int
	try = func(p place) int {
		if p.open == n-p.done {
			return 0 // all that are left have this length
		}
		if p.depth == most || p.open == 0 || p.open > n-p.done {
			return math.MaxInt
		}
		if v, ok := known[p]; ok {
			return v
		}
		best := math.MaxInt
		for k := range p.open {
			rest := try(place{p.depth + 1, 2 * (p.open - k), p.done + k})
			if rest != math.MaxInt {
				best = min(best, rest+behind[p.done+k])
			}
		}
		known[p] = best
		return best
	}
	return try(place{1, 2, 0}) + behind[0]
}

// falling: the counts above 0, the greatest first.
func falling(counts []int) []int {
	l := slices.DeleteFunc(slices.Clone(counts), func(n int) bool { return n == 0 })
	slices.SortFunc(l, func(a, b int) int { return cmp.Compare(b, a) })
	return l
}

// share: how much of all words lengths take, of 2^15.
func share(lengths []int) int {
	sum := 0
	for _, n := range lengths {
		if n > 0 {
			sum += 1 << (api.MaxBits - n)
		}
	}
	return sum
}

// formed: are lengths of the form that the document asks for?
func formed(t *testing.T, counts []int, most int, lengths []int) {
	t.Helper()
	if len(lengths) != len(counts) {
		t.Fatalf("%d lengths of %d counts", len(lengths), len(counts))
	}
	for i, n := range lengths {
		if n < 0 || n > most || (n == 0) != (counts[i] == 0) {
			t.Fatalf("%v, at most %d: %v", counts, most, lengths)
		}
	}
	if k := len(falling(counts)); k > 1 && share(lengths) != 1<<api.MaxBits || k == 1 && slices.Max(lengths) != 1 {
		t.Fatalf("%v, at most %d: %v has too many words, or too few", counts, most, lengths)
	}
	for i := range counts {
		for k := range counts {
			if counts[i] == 0 || counts[k] == 0 {
				continue
			}
			if (counts[i] > counts[k] || counts[i] == counts[k] && i < k) && lengths[i] > lengths[k] {
				t.Fatalf("%v, at most %d: %v: %d has more than %d", counts, most, lengths, i, k)
			}
		}
	}
}

// asked: lengths, with all that the document says of them but their cost.
func asked(t *testing.T, counts []int, most int) []int {
	t.Helper()
	given := slices.Clone(counts)
	lengths, e := merge.Lengths(given, most)
	if e != api.OK || !slices.Equal(given, counts) {
		t.Fatal(counts, most, e, given)
	}
	formed(t, counts, most, lengths)
	again, _ := merge.Lengths(counts, most)
	if !slices.Equal(again, lengths) {
		t.Fatalf("%v, then %v", lengths, again)
	}
	return lengths
}

// bestOf: lengths of these counts, and no others cost less.
func bestOf(t *testing.T, counts []int, most int) {
	t.Helper()
	lengths := asked(t, counts, most)
	if cost, want := merge.Cost(counts, lengths), least(falling(counts), most); cost != want {
		t.Fatalf("%v, at most %d: %v cost %d, not %d", counts, most, lengths, cost, want)
	}
}

// drawn: random counts of a kind, some of them 0.
func drawn(r *rand.Rand, n int) []int {
	counts := make([]int, n)
	kind := r.Intn(4)
	for i := range counts {
		switch kind {
		case 0:
			counts[i] = r.Intn(4)
		case 1:
			counts[i] = r.Intn(1000)
		case 2:
			counts[i] = 1 << r.Intn(41)
		default:
			counts[i] = r.Intn(1<<40 + 1)
		}
		if r.Intn(8) == 0 {
			counts[i] = 0
		}
	}
	return counts
}

// P4.1, and the chapter's example.
func TestLengths(t *testing.T) {
	for _, x := range []struct {
		counts []int
		most   int
		want   []int
	}{
		{[]int{1, 1, 2, 4}, 2, []int{2, 2, 2, 2}},
		{[]int{1, 1, 2, 4}, 3, []int{3, 3, 2, 1}},
		{[]int{1, 1, 2, 4}, 15, []int{3, 3, 2, 1}},
		{[]int{1, 1, 1}, 2, []int{1, 2, 2}},
		{[]int{1, 1, 1}, 15, []int{1, 2, 2}},
		{[]int{5, 0, 5, 9}, 15, []int{2, 0, 2, 1}},
		{[]int{3, 4}, 1, []int{1, 1}},
		{[]int{0, 1 << 40, 0, 1}, 15, []int{0, 1, 0, 1}},
	} {
		lengths := asked(t, x.counts, x.most)
		if !slices.Equal(lengths, x.want) {
			t.Errorf("%v, at most %d: %v, not %v", x.counts, x.most, lengths, x.want)
		}
	}
}

// P4.1: no symbol comes, or just one.
func TestLengthsFew(t *testing.T) {
	for most := 1; most <= api.MaxBits; most++ {
		for _, counts := range [][]int{nil, {0}, {0, 0, 0}, make([]int, api.MaxSymbols)} {
			if lengths := asked(t, counts, most); slices.ContainsFunc(lengths, func(n int) bool { return n != 0 }) {
				t.Errorf("%v: %v", counts, lengths)
			}
		}
		for _, n := range []int{1, 7, 1 << 40} {
			asked(t, []int{n}, most)
			asked(t, []int{0, 0, n, 0}, most)
		}
	}
}

// P4.1: all small counts, against all lengths.
func TestLengthsSmall(t *testing.T) {
	for a := range 7 {
		for b := range 7 {
			for c := range 7 {
				for d := range 7 {
					counts := []int{1 + a, 1 + b, 1 + c, d}
					for most := 2; most <= 4; most++ {
						bestOf(t, counts, most)
					}
				}
			}
		}
	}
}

// P4.1: random counts cost least at each length that may be.
func TestLengthsBest(t *testing.T) {
	r := rand.New(rand.NewSource(1))
	for range 300 {
		counts := append(drawn(r, r.Intn(30)), 1, 1)
		for most := 1; most <= api.MaxBits; most++ {
			if len(falling(counts)) <= 1<<most {
				bestOf(t, counts, most)
			}
		}
	}
	grown := []int{1, 1}
	for len(grown) < 30 {
		grown = append(grown, grown[len(grown)-1]+grown[len(grown)-2])
	}
	for most := 5; most <= api.MaxBits; most++ {
		bestOf(t, grown, most)
	}
}

// P4.1: as many symbols as may be.
func TestLengthsMany(t *testing.T) {
	r := rand.New(rand.NewSource(2))
	for range 20 {
		for most := 9; most <= api.MaxBits; most++ {
			asked(t, drawn(r, api.MaxSymbols), most)
		}
	}
	bestOf(t, slices.Repeat([]int{1 << 40}, api.MaxSymbols), 15)
	for most := 1; most <= 8; most++ {
		counts := slices.Repeat([]int{3}, 1<<most)
		for _, n := range asked(t, counts, most) {
			if n != most {
				t.Fatal(most, n)
			}
		}
		asked(t, append(counts, 0), most)
	}
}

// P4.1: what may not be, and what is too much.
func TestLengthsWrong(t *testing.T) {
	for _, x := range []struct {
		told   string
		counts []int
		most   int
		want   api.Errno
	}{
		{"no bits", []int{1, 1}, 0, api.ErrArg},
		{"no bits, no counts", nil, 0, api.ErrArg},
		{"less", []int{1, 1}, -1, api.ErrArg},
		{"the least", []int{1, 1}, math.MinInt, api.ErrArg},
		{"16 bits", []int{1, 1}, 16, api.ErrArg},
		{"the most", []int{1, 1}, math.MaxInt, api.ErrArg},
		{"289 counts", make([]int, 289), 15, api.ErrArg},
		{"below 0", []int{1, -1, 1}, 15, api.ErrArg},
		{"the least count", []int{math.MinInt}, 15, api.ErrArg},
		{"above 2^40", []int{1<<40 + 1}, 15, api.ErrArg},
		{"the greatest count", []int{1, math.MaxInt}, 15, api.ErrArg},
		{"below 0, and too many", []int{1, 1, 1, -1}, 1, api.ErrArg},
		{"three in one bit", []int{1, 1, 1}, 1, api.ErrLimit},
		{"five in two bits", []int{1, 1, 1, 1, 0, 1}, 2, api.ErrLimit},
		{"257 in 8 bits", slices.Repeat([]int{1}, 257), 8, api.ErrLimit},
		{"288 in 8 bits", slices.Repeat([]int{1}, 288), 8, api.ErrLimit},
	} {
		if lengths, e := merge.Lengths(x.counts, x.most); len(lengths) != 0 || e != x.want {
			t.Errorf("%s: %v, %v, not %v", x.told, lengths, e, x.want)
		}
	}
}

// P4.2.
func TestCost(t *testing.T) {
	for _, x := range []struct {
		counts, lengths []int
		want            int
	}{
		{nil, nil, 0},
		{[]int{1, 2}, nil, 0},
		{nil, []int{1, 2}, 0},
		{[]int{1, 1, 2, 4}, []int{3, 3, 2, 1}, 14},
		{[]int{1, 1, 2, 4}, []int{2, 2, 2, 2}, 16},
		{[]int{5, 7, 100}, []int{2, 3}, 31},
		{[]int{5, 7}, []int{2, 3, 100}, 31},
		{[]int{-2, 3}, []int{4, -5}, -23},
		{[]int{math.MaxInt}, []int{2}, -2},
		{[]int{math.MaxInt, 1}, []int{1, 1}, math.MinInt},
		{[]int{math.MinInt, math.MinInt}, []int{1, 1}, 0},
		{[]int{1 << 40}, []int{1 << 40}, 0},
	} {
		if n := merge.Cost(x.counts, x.lengths); n != x.want {
			t.Errorf("%v, %v: %d, not %d", x.counts, x.lengths, n, x.want)
		}
	}
}
