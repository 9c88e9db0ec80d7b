package crc_test

import (
	"hash/crc32"
	"math"
	"math/rand"
	"strings"
	"testing"

	"lighter/crc"
)

// someSums: numbers of 32 bits, such as are sums and such as needn't be.
var someSums = []uint32{0, 1, 7, 0x80000000, 0xffffffff, 0xcbf43926, 0xedb88320, 0xdeadbeef}

// bitByBit: the sum by the document's words.
func bitByBit(s string) uint32 {
	sum := uint32(math.MaxUint32)
	for i := range len(s) {
		sum ^= uint32(s[i])
		for range 8 {
			went := sum & 1
			sum >>= 1
			if went == 1 {
				sum ^= 0xedb88320
			}
		}
	}
	return ^sum
}

func randomText(r *rand.Rand, size int) string {
	s := make([]byte, size)
	r.Read(s)
	return string(s)
}

// P2.1: t[b] is what eight turns make of b.
func TestMake(t *testing.T) {
	c := crc.Make()
	known := crc32.MakeTable(crc32.IEEE)
	for b := range 256 {
		if c[b] != known[b] {
			t.Errorf("%d: %x, not %x", b, c[b], known[b])
		}
	}
	c[1] = 0
	if crc.Make()[1] != 0x77073096 {
		t.Error("a table isn't new memory")
	}
}

// P2.1: the sum, and the chapter's example.
func TestSum(t *testing.T) {
	c := crc.Make()
	for s, want := range map[string]uint32{
		"":                   0,
		"123456789":          0xcbf43926,
		"a":                  0xe8b7be43,
		"\x00":               0xd202ef8d,
		"\x00\x00\x00\x00":   0x2144df1c,
		"\xff\xff\xff\xff":   0xffffffff,
		"a text, not so few": bitByBit("a text, not so few"),
	} {
		if sum := c.Sum(s); sum != want {
			t.Errorf("%q: %x, not %x", s, sum, want)
		}
	}
	r := rand.New(rand.NewSource(1))
	for size := range 300 {
		s := randomText(r, size)
		if sum := c.Sum(s); sum != bitByBit(s) || sum != crc32.ChecksumIEEE([]byte(s)) {
			t.Errorf("%x: %x", s, sum)
		}
	}
}

// P2.1: a text's pieces, one behind the other, wherever it is cut.
func TestMore(t *testing.T) {
	c := crc.Make()
	s := randomText(rand.New(rand.NewSource(2)), 70)
	want := bitByBit(s)
	for at := range len(s) + 1 {
		if sum := c.More(c.Sum(s[:at]), s[at:]); sum != want {
			t.Errorf("cut at %d: %x, not %x", at, sum, want)
		}
	}
	sum := c.Sum("")
	for i := range len(s) {
		sum = c.More(sum, s[i:i+1])
	}
	if sum != want {
		t.Errorf("byte by byte: %x, not %x", sum, want)
	}
	for _, sum := range someSums {
		if c.More(sum, "") != sum {
			t.Errorf("%x: nothing behind it changes it", sum)
		}
	}
}

// P2.1: a nil table.
func TestNilTable(t *testing.T) {
	var c *crc.Table
	if c.Sum("a") != 0 || c.Sum("") != 0 || c.More(7, "a") != 0 || c.More(7, "") != 0 {
		t.Error("a nil table has sums")
	}
}

// P2.2: as many bytes 0 as are put there.
func TestNoughts(t *testing.T) {
	c := crc.Make()
	for _, n := range []int{0, 1, 2, 3, 4, 7, 8, 31, 32, 33, 255, 256, 257, 1000, 65535, 65536, 1 << 20} {
		zeros := strings.Repeat("\x00", n)
		for _, sum := range someSums {
			if got := crc.Noughts(sum, n); got != c.More(sum, zeros) {
				t.Errorf("Noughts(%x, %d): %x, not %x", sum, n, got, c.More(sum, zeros))
			}
		}
	}
	if crc.Noughts(c.Sum("a"), 3) != bitByBit("a\x00\x00\x00") {
		t.Error("behind a text")
	}
}

// P2.2: n below 0.
func TestNoughtsBelow(t *testing.T) {
	for _, sum := range someSums {
		for _, n := range []int{-1, -8, -1 << 32, math.MinInt} {
			if got := crc.Noughts(sum, n); got != sum {
				t.Errorf("Noughts(%x, %d): %x", sum, n, got)
			}
		}
	}
}

// P2.2: great n: twice as many are as many, twice; so from the few that
// TestNoughts counts one by one all powers of two follow.
func TestNoughtsDoubled(t *testing.T) {
	for k := range 62 {
		n := 1 << k
		for _, sum := range someSums {
			twice := crc.Noughts(crc.Noughts(sum, n), n)
			if got := crc.Noughts(sum, 2*n); got != twice {
				t.Errorf("Noughts(%x, 2^%d): %x, not %x", sum, k+1, got, twice)
			}
		}
	}
}

// P2.2: great n, of all kinds: they add up.
func TestNoughtsAddUp(t *testing.T) {
	r := rand.New(rand.NewSource(3))
	for range 2000 {
		sum, a, b := r.Uint32(), r.Int()>>(1+r.Intn(62)), r.Int()>>(1+r.Intn(62))
		if crc.Noughts(crc.Noughts(sum, a), b) != crc.Noughts(sum, a+b) {
			t.Fatalf("%x, %d, %d", sum, a, b)
		}
	}
	for _, n := range []int{1<<32 - 2, 1<<32 - 1, 1 << 32, 1<<33 - 2, math.MaxInt - 1} {
		if crc.Noughts(crc.Noughts(7, n), 1) != crc.Noughts(7, n+1) {
			t.Errorf("%d, and one more", n)
		}
	}
}

// P2.2: two texts, one behind the other, wherever they meet.
func TestJoin(t *testing.T) {
	c := crc.Make()
	if crc.Join(c.Sum("12"), c.Sum("3456789"), 7) != 0xcbf43926 {
		t.Error("the example's text")
	}
	s := randomText(rand.New(rand.NewSource(4)), 300)
	for at := range len(s) + 1 {
		got := crc.Join(c.Sum(s[:at]), c.Sum(s[at:]), len(s)-at)
		if got != bitByBit(s) {
			t.Errorf("they meet at %d: %x", at, got)
		}
	}
}

// P2.2: of all numbers, also such as are no sums of n bytes.
func TestJoinAnyNumbers(t *testing.T) {
	for _, a := range someSums {
		for _, b := range someSums {
			for _, n := range []int{0, 1, 2, 100, 1 << 32, math.MaxInt} {
				want := crc.Noughts(a, n) ^ crc.Noughts(0, n) ^ b
				if got := crc.Join(a, b, n); got != want {
					t.Errorf("Join(%x, %x, %d): %x, not %x", a, b, n, got, want)
				}
			}
			for _, n := range []int{-1, math.MinInt} {
				if got := crc.Join(a, b, n); got != a {
					t.Errorf("Join(%x, %x, %d): %x", a, b, n, got)
				}
			}
			if got := crc.Join(a, b, 0); got != a^b {
				t.Errorf("Join(%x, %x, 0): %x", a, b, got)
			}
		}
	}
}

// P2.2: few steps: many calls of the greatest n end in a short time.
func TestFewSteps(t *testing.T) {
	sum := uint32(7)
	for k := range 10000 {
		sum = crc.Join(sum, 1, math.MaxInt-k)
		sum = crc.Noughts(sum, math.MaxInt-k)
	}
	if sum == 7 {
		t.Error("nothing was joined")
	}
}
