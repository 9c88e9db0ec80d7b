package dgram_test

import (
	"encoding/binary"
	"math/rand"
	"slices"
	"strings"
	"testing"

	"lighter/dgram"
)

// joined by the document's words.
func joined(l []string) string {
	var b []byte
	for _, s := range l {
		if len(s) < 65536 {
			b = binary.LittleEndian.AppendUint16(b, uint16(len(s)))
			b = append(b, s...)
		}
	}
	return string(b)
}

func checkJoin(t *testing.T, l []string) {
	t.Helper()
	room := append(slices.Clone(l), "behind", "them")
	given := slices.Clone(room)
	want := joined(l)
	if got := dgram.Join(room[:len(l)]); got != want {
		t.Fatalf("of %d texts: %d bytes, not %d", len(l), len(got), len(want))
	}
	if !slices.Equal(room, given) {
		t.Fatal("the list is changed")
	}
	kept := slices.DeleteFunc(slices.Clone(l), func(s string) bool { return len(s) >= 65536 })
	if got, ok := dgram.Split(want); !ok || !slices.Equal(got, kept) {
		t.Fatalf("of %d texts: %d, %v", len(kept), len(got), ok)
	}
}

// P22.3: texts, joined and split.
func TestJoin(t *testing.T) {
	if s := dgram.Join([]string{"ab", "", "c"}); s != "\x02\x00ab\x00\x00\x01\x00c" {
		t.Errorf("%q", s)
	}
	checkJoin(t, nil)
	checkJoin(t, []string{})
	checkJoin(t, []string{""})
	checkJoin(t, []string{"", "", ""})
	checkJoin(t, []string{"a"})
	for _, size := range []int{1, 255, 256, 257, 511, 512, 65534, 65535} {
		checkJoin(t, []string{"ahead", strings.Repeat("\x01", size), "", "behind"})
	}
	r := rand.New(rand.NewSource(1))
	for range 2000 {
		l := make([]string, r.Intn(9))
		for i := range l {
			l[i] = anyText(r, []int{0, 3, 300, 2000}[r.Intn(4)])
		}
		checkJoin(t, l)
	}
}

// P22.3: texts that are too long are left out.
func TestJoinLong(t *testing.T) {
	for _, size := range []int{65536, 65537, 65536 + 3, 2 * 65536, 1 << 20} {
		long := strings.Repeat("a", size)
		if s := dgram.Join([]string{long}); s != "" {
			t.Error(size, len(s))
		}
		if s := dgram.Join([]string{"x", long, "y", long}); s != "\x01\x00x\x01\x00y" {
			t.Error(size, len(s))
		}
		checkJoin(t, []string{long, "ahead", long, long, strings.Repeat("b", 65535), "behind", long})
	}
}

// P22.3: what isn't the Join of any texts.
func TestSplitWrong(t *testing.T) {
	for _, s := range []string{
		"\x00", "\x01", "\xff", "\x01\x00", "\xff\xff", "\x02\x00a", "\x00\x01a", "\x00\x00\x00", "\x01\x00ab", "\x00\x00\x01\x00",
		"\x01\x00a\x01\x00", "\xff\xff" + strings.Repeat("a", 65534), "\xff\xff" + strings.Repeat("a", 65536),
	} {
		if l, ok := dgram.Split(s); ok || len(l) > 0 {
			t.Errorf("%.20q: %.20q, %v", s, l, ok)
		}
	}
}

// P22.3: what was joined, cut at each byte: there are texts just where one of them ends.
func TestSplitCut(t *testing.T) {
	l := []string{"abc", "", "d", strings.Repeat("e", 300), "", "fg"}
	s := joined(l)
	ends := map[int]int{0: 0} // by a text's end how many there are
	for i := range l {
		ends[len(joined(l[:i+1]))] = i + 1
	}
	for end := range len(s) + 1 {
		n, whole := ends[end]
		got, ok := dgram.Split(s[:end])
		if ok != whole || !slices.Equal(got, l[:n]) {
			t.Error(end, got, ok)
		}
	}
}

// P22.3: any bytes are joined again, or are none that were.
func TestSplitAny(t *testing.T) {
	r := rand.New(rand.NewSource(2))
	told := 0
	for range 100000 {
		s := make([]byte, r.Intn(12))
		for i := range s {
			s[i] = byte(r.Intn(3)) * byte(r.Intn(2))
		}
		l, ok := dgram.Split(string(s))
		if ok != isJoined(string(s)) {
			t.Fatalf("%q: %q, %v", s, l, ok)
		}
		if ok && joined(l) != string(s) || !ok && len(l) > 0 {
			t.Fatalf("%q: %q, %v", s, l, ok)
		}
		if ok {
			told++
		}
	}
	if told < 1000 {
		t.Error("too few were told", told)
	}
}

// isJoined: are there texts whose Join it is?
func isJoined(s string) bool {
	if len(s) < 2 {
		return s == ""
	}
	end := 2 + int(s[0]) + 256*int(s[1])
	return end <= len(s) && isJoined(s[end:])
}
