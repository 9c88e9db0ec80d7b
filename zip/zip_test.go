package zip_test

import (
	"encoding/hex"
	"math"
	"math/rand"
	"strings"
	"testing"

	"lighter/dos"
	"lighter/zip"
)

func someTime() dos.Time {
	return dos.Time{Year: 2024, Month: 2, Day: 29, Hour: 23, Minute: 59, Second: 58}
}

func firstTime() dos.Time { return dos.Time{Year: 1980, Month: 1, Day: 1} }

func lastTime() dos.Time {
	return dos.Time{Year: 2107, Month: 12, Day: 31, Hour: 23, Minute: 59, Second: 58}
}

// someHeads that may be: all edges with one another.
func someHeads() []zip.Head {
	numbers := []uint64{0, 1, 255, 65536, edge - 1, edge, edge + 1, 1<<32 - 2, 1<<32 - 1, 1 << 32, 1<<62 - 1}
	places := []uint64{0, 1, edge + 1, 1<<32 - 2, 1<<32 - 1, 1 << 32, 1<<62 - 1}
	var l []zip.Head
	for _, name := range []string{"a", "dir/file.txt", "\xc3\xa9", "a/\u20ac/\U0001f600"} {
		for _, at := range places {
			for _, t := range []dos.Time{firstTime(), someTime(), lastTime()} {
				l = append(l, zip.Head{Name: name, Time: t, At: at, Kept: true}, zip.Head{Name: name, Time: t, At: at, Kept: true, Sum: 0x12345678})
			}
			for _, packed := range numbers {
				for _, size := range numbers {
					l = append(l, zip.Head{Name: name, Time: someTime(), Packed: packed, Size: size, Sum: 0xfedcba98, At: at})
				}
			}
		}
	}
	for _, size := range []int{255, 256, 65534, 65535} {
		l = append(l, zip.Head{Name: strings.Repeat("n", size), Time: someTime(), Size: 5}, zip.Head{Name: strings.Repeat("n", size), Time: someTime(), Size: edge + 1, At: 1 << 40})
	}
	return l
}

// badHeads: none of these may be.
func badHeads() []zip.Head {
	var l []zip.Head
	for _, name := range []string{"", "/", "a/", "/a", "a//b", ".", "..", "a/../b", "a\\b", "a\x00", "\x7f", "\xff", "\xc0\x80", strings.Repeat("n", 65536)} {
		l = append(l, zip.Head{Name: name, Time: someTime()}, zip.Head{Name: name, Time: someTime(), Kept: true})
	}
	odd, early, noDay := someTime(), someTime(), someTime()
	odd.Second, early.Year, noDay.Year = 57, 1979, 2023
	for _, t := range []dos.Time{{}, odd, early, noDay} {
		l = append(l, zip.Head{Name: "a", Time: t}, zip.Head{Name: "a", Time: t, Kept: true})
	}
	for _, n := range []uint64{1 << 62, 1<<62 + 1, 1 << 63, math.MaxUint64} {
		l = append(l, zip.Head{Name: "a", Time: someTime(), Packed: n}, zip.Head{Name: "a", Time: someTime(), Size: n}, zip.Head{Name: "a", Time: someTime(), At: n}, zip.Head{Name: "a", Time: someTime(), At: n, Kept: true})
	}
	for _, n := range []uint64{1, edge, edge + 1, 1<<62 - 1} {
		l = append(l, zip.Head{Name: "a", Time: someTime(), Packed: n, Kept: true}, zip.Head{Name: "a", Time: someTime(), Size: n, Kept: true})
	}
	return append(l, zip.Head{})
}

// sixteens of bytes that stand apart.
func sixteens(t *testing.T, s string) string {
	t.Helper()
	b, err := hex.DecodeString(strings.ReplaceAll(s, " ", ""))
	if err != nil {
		t.Fatal(err)
	}
	return string(b)
}

func check(t *testing.T, what, got, want string) {
	t.Helper()
	if got != want {
		t.Errorf("%s:\n%x, not\n%x", what, got, want)
	}
}

// The chapter's example, and the bytes of some headers, written out.
func TestExamples(t *testing.T) {
	kept := zip.Head{Name: "a", Time: firstTime(), Kept: true}
	if n := len(kept.Local()); n != 31 {
		t.Error(n)
	}
	check(t, "kept", kept.Local(), sixteens(t, "504b0304 1400 0000 0000 0000 2100 00000000 00000000 00000000 0100 0000 61"))
	check(t, "kept", kept.Descr(), "")
	check(t, "kept", kept.Central(), sixteens(t, "504b0102 1400 1400 0000 0000 0000 2100 00000000 00000000 00000000 0100 0000 0000 0000 0000 00000000 00000000 61"))

	packed := zip.Head{Name: "\xc3\xa9/b", Time: someTime(), Packed: 0x0102, Size: 0x030405, Sum: 0xcbf43926, At: 0x11223344}
	check(t, "packed", packed.Local(), sixteens(t, "504b0304 1400 0808 0800 7dbf 5d58 00000000 00000000 00000000 0400 0000 c3a92f62"))
	check(t, "packed", packed.Descr(), sixteens(t, "504b0708 2639f4cb 02010000 05040300"))
	check(t, "packed", packed.Central(), sixteens(t, "504b0102 1400 1400 0808 0800 7dbf 5d58 2639f4cb 02010000 05040300 0400 0000 0000 0000 0000 00000000 44332211 c3a92f62"))

	far := packed
	far.At = 1<<32 - 1
	check(t, "far", far.Local(), packed.Local())
	check(t, "far", far.Descr(), packed.Descr())
	check(t, "far", far.Central(), sixteens(t, "504b0102 2d00 2d00 0808 0800 7dbf 5d58 2639f4cb 02010000 05040300 0400 0c00 0000 0000 0000 00000000 ffffffff c3a92f62 0100 0800 ffffffff00000000"))

	big := far
	big.Size = 1 << 32
	check(t, "big", big.Local(), sixteens(t, "504b0304 2d00 0808 0800 7dbf 5d58 00000000 ffffffff ffffffff 0400 1400 c3a92f62 0100 1000 0000000000000000 0000000000000000"))
	check(t, "big", big.Descr(), sixteens(t, "504b0708 2639f4cb 0201000000000000 0000000001000000"))
	check(t, "big", big.Central(), sixteens(t, "504b0102 2d00 2d00 0808 0800 7dbf 5d58 2639f4cb ffffffff ffffffff 0400 1c00 0000 0000 0000 00000000 ffffffff c3a92f62 0100 1800 0000000001000000 0201000000000000 ffffffff00000000"))

	check(t, "no files", zip.End(0, 0, 0), sixteens(t, "504b0506 0000 0000 0000 0000 00000000 00000000 0000"))
	check(t, "some files", zip.End(0x0203, 0x04050607, 0x08090a0b), sixteens(t, "504b0506 0000 0000 0302 0302 07060504 0b0a0908 0000"))
	check(t, "many files", zip.End(65535, 7, 9), sixteens(t, "504b0606 2c00000000000000 2d00 2d00 00000000 00000000 ffff000000000000 ffff000000000000 0700000000000000 0900000000000000 504b0607 00000000 1000000000000000 01000000 504b0506 0000 0000 ffff ffff 07000000 09000000 0000"))
}

// P13.1: which heads may be.
func TestGood(t *testing.T) {
	for _, h := range someHeads() {
		if !h.Good() {
			t.Fatal("may not be", h)
		}
	}
	for _, h := range badHeads() {
		if h.Good() {
			t.Error("may be", h)
		}
		check(t, "local", h.Local(), "")
		check(t, "descriptor", h.Descr(), "")
		check(t, "central", h.Central(), "")
	}
}

// P13.1: above 2^32 - 7 - 2^18, of one that may not be as well.
func TestBig(t *testing.T) {
	for n, want := range map[uint64]bool{0: false, 1: false, 1 << 31: false, edge - 1: false, edge: false, edge + 1: true, 1<<32 - 1: true, 1 << 32: true, 1 << 62: true, math.MaxUint64: true} {
		for _, h := range []zip.Head{{Size: n}, {Packed: n}, {Size: n, Kept: true}, {Name: "a", Time: someTime(), Packed: n, Size: 3}, {Packed: 1, Size: n}} {
			if h.Big() != want {
				t.Error(n, h, h.Big())
			}
		}
		if (zip.Head{At: n}).Big() {
			t.Error("big by its place", n)
		}
	}
}

// P13.1: the bytes of headers and descriptors, at all edges.
func TestHeaders(t *testing.T) {
	for _, h := range someHeads() {
		check(t, "local", h.Local(), modelLocal(h))
		check(t, "descriptor", h.Descr(), modelDescr(h))
		check(t, "central", h.Central(), modelCentral(h))
		if h.Big() != modelBig(h) || t.Failed() {
			t.Fatal(h)
		}
	}
}

// P13.1: random heads.
func TestRandomHeaders(t *testing.T) {
	r := rand.New(rand.NewSource(1))
	for range 3000 {
		h := randomHead(r)
		check(t, "local", h.Local(), modelLocal(h))
		check(t, "descriptor", h.Descr(), modelDescr(h))
		check(t, "central", h.Central(), modelCentral(h))
		if h.Good() != modelGood(h) || t.Failed() {
			t.Fatal(h)
		}
	}
}

func randomHead(r *rand.Rand) zip.Head {
	names := []string{"a", "b/c", "\xce\xb1", "d\u4e16/x", "bad/", "", strings.Repeat("long/", 60) + "x"}
	when, _ := dos.Of(r.Intn(46751 * 43200))
	h := zip.Head{Name: names[r.Intn(len(names))], Time: when, Packed: randomNumber(r), Size: randomNumber(r), Sum: r.Uint32(), At: randomNumber(r)}
	if r.Intn(3) == 0 {
		h.Kept = true
		if r.Intn(4) > 0 {
			h.Packed, h.Size = 0, 0
		}
	}
	return h
}

func randomNumber(r *rand.Rand) uint64 { return r.Uint64() >> (1 + r.Intn(63)) }

// P13.1: the end, at all edges.
func TestEnd(t *testing.T) {
	counts := []uint64{0, 1, 65533, 65534, 65535, 65536, 1 << 20, 1<<32 - 1, 1<<62 - 1, 1 << 62, math.MaxUint64}
	numbers := []uint64{0, 1, 65535, edge + 1, 1<<32 - 3, 1<<32 - 2, 1<<32 - 1, 1 << 32, 1<<62 - 1, 1 << 62, 1 << 63, math.MaxUint64}
	for _, count := range counts {
		for _, size := range numbers {
			for _, at := range numbers {
				check(t, "end", zip.End(count, size, at), modelEnd(count, size, at))
			}
		}
	}
	for want, l := range map[int][][3]uint64{
		22: {{65534, 1<<32 - 2, 1<<32 - 2}},
		98: {{65535, 0, 0}, {0, 1<<32 - 1, 0}, {0, 0, 1<<32 - 1}, {1<<62 - 1, 1<<62 - 1, 1<<62 - 1}},
		0:  {{1 << 62, 0, 0}, {0, 1 << 62, 0}, {0, 0, 1 << 62}},
	} {
		for _, x := range l {
			if n := len(zip.End(x[0], x[1], x[2])); n != want {
				t.Error(x, n)
			}
		}
	}
}
