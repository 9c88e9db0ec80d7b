package serial_test

import (
	"math"
	"math/rand"
	"slices"
	"sort"
	"testing"

	"lighter/serial"
)

const all = 1 << 32

// edges: the numbers around which something turns.
var edges = []uint32{
	0, 1, 2, 3, 1<<30 - 1, 1 << 30, 1<<30 + 1, 1<<31 - 2, 1<<31 - 1, 1 << 31, 1<<31 + 1, 1<<31 + 2,
	3<<30 - 1, 3 << 30, 3<<30 + 1, math.MaxUint32 - 2, math.MaxUint32 - 1, math.MaxUint32,
}

// above: how much one number is above another one, modulo 2^32.
func above(a, b uint32) int { return (int(b) + all - int(a)) % all }

// gapOf two numbers, by the document's words.
func gapOf(a, b uint32) int {
	n := above(a, b)
	if n >= 1<<31 {
		n -= all
	}
	return n
}

func checkPair(t *testing.T, a, b uint32) {
	t.Helper()
	n := above(a, b)
	less := n >= 1 && n <= 1<<31-1
	if serial.Less(a, b) != less {
		t.Fatal("Less", a, b, !less)
	}
	if gap := serial.Gap(a, b); gap != gapOf(a, b) {
		t.Fatal("Gap", a, b, gap, gapOf(a, b))
	}
	greater := a
	if less {
		greater = b
	}
	if got := serial.Max(a, b); got != greater {
		t.Fatal("Max", a, b, got, greater)
	}
}

// The chapter's example.
func TestExample(t *testing.T) {
	if !serial.Less(math.MaxUint32, 0) {
		t.Error("Less")
	}
	if n := serial.Gap(math.MaxUint32, 1); n != 2 {
		t.Error("Gap", n)
	}
}

// P21.1: pairs of numbers near the edges, and any others.
func TestPairs(t *testing.T) {
	for _, a := range edges {
		for _, b := range edges {
			checkPair(t, a, b)
			checkPair(t, a, a+b)
		}
	}
	r := rand.New(rand.NewSource(1))
	for range 200000 {
		a := r.Uint32()
		checkPair(t, a, r.Uint32())
		checkPair(t, a, a+uint32(r.Intn(9))-4)
		checkPair(t, a, a+1<<31+uint32(r.Intn(9))-4)
	}
}

// P21.1: numbers just half of all apart: none comes ahead.
func TestHalf(t *testing.T) {
	for _, a := range edges {
		b := a + 1<<31
		if serial.Less(a, b) || serial.Less(b, a) {
			t.Error("Less", a, b)
		}
		if x, y := serial.Gap(a, b), serial.Gap(b, a); x != -1<<31 || y != -1<<31 {
			t.Error("Gap", a, b, x, y)
		}
		if x, y := serial.Max(a, b), serial.Max(b, a); x != a || y != b {
			t.Error("Max", a, b, x, y)
		}
		if n := serial.Gap(a, b-1); n != 1<<31-1 {
			t.Error("Gap", a, b-1, n)
		}
	}
}

// P21.1: few numbers, from any one on, counted one by one.
func TestInFew(t *testing.T) {
	for _, first := range edges {
		for n := -3; n < 6; n++ {
			var in []uint32
			next := first
			for range max(n, 0) {
				in = append(in, next)
				next++
			}
			for a := first - 4; a != first+9; a++ {
				if serial.In(a, first, n) != slices.Contains(in, a) {
					t.Error(a, first, n)
				}
			}
			for _, a := range edges {
				if serial.In(a, first, n) != slices.Contains(in, a) {
					t.Error(a, first, n)
				}
			}
		}
	}
}

// P21.1: none of less than one, all of 2^32 and more, and so many as there are between.
func TestInMany(t *testing.T) {
	counts := []int{
		math.MinInt, math.MinInt + 1, -all - 1, -all, -all + 1, -1, 0, 1, 2, 1<<31 - 1, 1 << 31, 1<<31 + 1,
		all - 1, all, all + 1, 2*all - 1, 2 * all, 2*all + 1, 1 << 62, math.MaxInt - 1, math.MaxInt,
	}
	for _, n := range counts {
		for _, first := range edges {
			for _, a := range append(slices.Clone(edges), first-1, first, first+1, first+uint32(n)-1, first+uint32(n)) {
				want := n >= 1 && (n >= all || above(first, a) < n)
				if serial.In(a, first, n) != want {
					t.Error(a, first, n, !want)
				}
			}
		}
	}
}

// sorted by the document's words.
func sorted(l []uint32) ([]uint32, bool) {
	if len(l) == 0 {
		return nil, true
	}
	gaps := make([]int, len(l))
	for i, n := range l {
		gaps[i] = gapOf(l[0], n)
	}
	sort.Ints(gaps)
	if gaps[len(gaps)-1]-gaps[0] >= 1<<31 {
		return nil, false
	}
	s := make([]uint32, len(l))
	for i, gap := range gaps {
		s[i] = uint32(int(l[0]) + gap + all)
	}
	return s, true
}

func checkSort(t *testing.T, l []uint32) {
	t.Helper()
	room := append(slices.Clone(l), 7, 8, 9)
	given := slices.Clone(room)
	got, ok := serial.Sort(room[:len(l)])
	want, may := sorted(l)
	if ok != may || !slices.Equal(got, want) {
		t.Fatal(l, got, ok, want, may)
	}
	if !slices.Equal(room, given) {
		t.Fatal(l, "is changed")
	}
	for i := range got {
		for _, n := range got[i:] {
			if n != got[i] && !serial.Less(got[i], n) {
				t.Fatal(l, got[i], "doesn't come ahead of", n)
			}
		}
	}
	for i := range got {
		got[i]++
	}
	if !slices.Equal(room, given) {
		t.Fatal(l, "is shared")
	}
}

// P21.2: all lists of up to three numbers near the edges.
func TestSortSmall(t *testing.T) {
	checkSort(t, nil)
	checkSort(t, []uint32{})
	for _, a := range edges {
		checkSort(t, []uint32{a})
		for _, b := range edges {
			checkSort(t, []uint32{a, b})
			for _, c := range edges {
				checkSort(t, []uint32{a, b, c})
			}
		}
	}
}

// P21.2: how far apart the numbers may be, wherever the first one of the list stands.
func TestSortEdges(t *testing.T) {
	for _, least := range edges {
		middle, greatest, beyond := least+1<<30, least+1<<31-1, least+1<<31
		for _, l := range [][]uint32{
			{least, greatest}, {greatest, least}, {middle, least, greatest}, {middle, greatest, least},
			{least, middle, greatest}, {greatest, middle, least}, {greatest, least, greatest, least},
		} {
			got, ok := serial.Sort(l)
			if !ok || len(got) != len(l) || got[0] != least || got[len(got)-1] != greatest {
				t.Error(l, got, ok)
			}
			checkSort(t, l)
		}
		for _, l := range [][]uint32{
			{least, beyond}, {beyond, least}, {middle, least, beyond}, {middle, beyond, least}, {least, middle, beyond},
			{beyond, middle, least}, {least, greatest, least + 3<<30}, {least, greatest, least - 1},
			{middle, greatest, middle - 1<<31},
		} {
			if got, ok := serial.Sort(l); ok || len(got) > 0 {
				t.Error(l, got, ok)
			}
			checkSort(t, l)
		}
	}
}

// P21.2: longer lists, near one another, or not; some numbers come twice.
func TestSortAny(t *testing.T) {
	r := rand.New(rand.NewSource(2))
	for _, width := range []int{1, 3, 50, 1 << 16, 1<<31 - 1, 1 << 31, 1<<31 + 1<<29, all} {
		for range 500 {
			first := r.Uint32()
			l := make([]uint32, r.Intn(40))
			for i := range l {
				l[i] = first + uint32(r.Intn(width))
			}
			checkSort(t, l)
		}
	}
	l := make([]uint32, 5000)
	for i, n := range r.Perm(len(l)) {
		l[i] = uint32(n) - 2500
	}
	checkSort(t, l)
}
