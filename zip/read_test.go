package zip_test

import (
	"math/rand"
	"strings"
	"testing"

	"lighter/dos"
	"lighter/zip"
)

// reader of one of both kinds of headers, and what it is held against.
type reader struct {
	what        string
	read, model func(s string) (zip.Head, int)
	show        func(h zip.Head) string
	told        func(h zip.Head) zip.Head // what of a head the header tells
	magic       string
	fixed       int
}

func readers() []reader {
	return []reader{
		{"local", zip.Read, modelRead, zip.Head.Local, toldByLocal, "PK\x03\x04", 30},
		{"central", zip.ReadCentral, modelReadCentral, zip.Head.Central, func(h zip.Head) zip.Head { return h }, "PK\x01\x02", 46},
	}
}

func toldByLocal(h zip.Head) zip.Head {
	told := zip.Head{Name: h.Name, Time: h.Time, Kept: h.Kept}
	if h.Big() {
		told.Size = 1<<32 - 1
	}
	return told
}

func (x reader) expect(t *testing.T, s string, want zip.Head, size int) {
	t.Helper()
	h, n := x.read(s)
	if h != want || n != size {
		t.Fatalf("%s of %.200x: %v, %d, not %v, %d", x.what, s, h, n, want, size)
	}
}

// against the model.
func (x reader) against(t *testing.T, s string) {
	t.Helper()
	h, n := x.model(s)
	x.expect(t, s, h, n)
}

// P13.2: what is written is read, whatever stands behind it.
func TestRead(t *testing.T) {
	for _, x := range readers() {
		for _, h := range someHeads() {
			s := x.show(h)
			for _, more := range []string{"", "a", "PK\x03\x04", s} {
				x.expect(t, s+more, x.told(h), len(s))
			}
		}
	}
}

// P13.2: of each beginning more is needed.
func TestReadBeginnings(t *testing.T) {
	heads := someHeads()
	r := rand.New(rand.NewSource(2))
	for _, x := range readers() {
		for range 200 {
			s := x.show(heads[r.Intn(len(heads)-8)])
			for i := range len(s) {
				x.expect(t, s[:i], zip.Head{}, 0)
			}
		}
		long := x.show(heads[len(heads)-1])
		for _, size := range []int{0, 3, 4, x.fixed - 1, x.fixed, x.fixed + 1, x.fixed + 65535, len(long) - 1} {
			x.expect(t, long[:size], zip.Head{}, 0)
		}
	}
}

// P13.2: what doesn't begin with the four bytes is none, as soon as that can be told.
func TestReadNone(t *testing.T) {
	for _, x := range readers() {
		for i := range 4 {
			for b := range 256 {
				s := x.magic[:i] + string([]byte{byte(b)})
				want := -1
				if s[i] == x.magic[i] {
					want = 0
				}
				x.expect(t, s, zip.Head{}, want)
				if i < 3 {
					want = -1
				}
				x.expect(t, s+strings.Repeat("\x00", 10), zip.Head{}, want)
			}
		}
		for _, other := range []string{"PK\x07\x08", "PK\x05\x06", "PK\x06\x06", "PK\x06\x07", "K", "kp", "\x00"} {
			x.expect(t, other, zip.Head{}, -1)
			x.expect(t, other+strings.Repeat("a", 100), zip.Head{}, -1)
		}
		for _, y := range readers() {
			if y.what != x.what {
				x.expect(t, y.show(zip.Head{Name: "a", Time: someTime()}), zip.Head{}, -1)
			}
		}
	}
}

// P13.2: wrong bytes ahead of the name count once all is there, as its lengths tell, and not ahead of that.
func TestReadWrongWaits(t *testing.T) {
	for _, x := range readers() {
		for _, h := range []zip.Head{{Name: "abc", Time: someTime()}, {Name: "abc", Time: someTime(), Size: 1 << 40, At: 1 << 40}} {
			right := x.show(h)
			wrong := right[:4] + "\xff" + right[5:]
			for i := range len(wrong) {
				x.expect(t, wrong[:i], zip.Head{}, 0)
			}
			x.expect(t, wrong, zip.Head{}, -1)
			x.expect(t, wrong+right, zip.Head{}, -1)
		}
		huge := x.magic + strings.Repeat("\xff", x.fixed-4)
		x.expect(t, huge+strings.Repeat("a", 2*65535-1), zip.Head{}, 0)
		x.expect(t, huge+strings.Repeat("a", 2*65535), zip.Head{}, -1)
	}
}

// readHeads: one of each kind.
func readHeads() []zip.Head {
	var l []zip.Head
	for _, name := range []string{"a", "b/\xc3\xa9"} {
		for _, at := range []uint64{0, 77, 1<<32 - 2, 1<<32 - 1, 1<<62 - 1} {
			l = append(l, zip.Head{Name: name, Time: someTime(), At: at, Kept: true}, zip.Head{Name: name, Time: firstTime(), At: at, Packed: 2, Size: 3, Sum: 4},
				zip.Head{Name: name, Time: lastTime(), At: at, Packed: edge, Size: edge, Sum: 5}, zip.Head{Name: name, Time: someTime(), At: at, Packed: 1, Size: edge + 1},
				zip.Head{Name: name, Time: someTime(), At: at, Packed: 1<<32 - 1, Size: 1<<32 - 1, Sum: 1<<32 - 1})
		}
	}
	return l
}

// P13.2: each byte another one.
func TestReadChanged(t *testing.T) {
	for _, x := range readers() {
		for _, h := range readHeads() {
			s := []byte(x.show(h))
			for i, b := range s {
				for _, other := range []byte{b ^ 1, b ^ 2, b ^ 4, b ^ 8, b ^ 16, b ^ 32, b ^ 64, b ^ 128, 0, 20, 45, 255, ^b} {
					s[i] = other
					x.against(t, string(s))
					x.against(t, string(s)+"more bytes behind it, which lengths may reach")
				}
				s[i] = b
			}
		}
	}
}

// P13.2: two bytes others, bytes that are missing, bytes between.
func TestReadSpoilt(t *testing.T) {
	r := rand.New(rand.NewSource(3))
	heads := readHeads()
	for _, x := range readers() {
		for range 30000 {
			s := x.show(heads[r.Intn(len(heads))])
			for range 1 + r.Intn(3) {
				i := 4 + r.Intn(len(s)-4)
				switch r.Intn(4) {
				case 0:
					s = s[:i] + s[i+1:]
				case 1:
					s = s[:i] + string([]byte{byte(r.Intn(256))}) + s[i:]
				default:
					s = s[:i] + string([]byte{byte(r.Intn(4))}) + s[i+1:]
				}
			}
			x.against(t, s)
			x.against(t, s+s)
		}
	}
}

// P13.2: fields that don't go together, of heads that may not be.
func TestReadNoHead(t *testing.T) {
	local := func(version, flags, method, clock, date, sum, packed, size uint64, name, extra string) string {
		return "PK\x03\x04" + le(version, 2) + le(flags, 2) + le(method, 2) + le(clock, 2) + le(date, 2) + le(sum, 4) + le(packed, 4) + le(size, 4) + le(uint64(len(name)), 2) + le(uint64(len(extra)), 2) + name + extra
	}
	wide := "\x01\x00\x10\x00" + strings.Repeat("\x00", 16)
	x := readers()[0]
	good := zip.Head{Name: "a", Time: firstTime()}
	x.expect(t, local(20, 8, 8, 0, 33, 0, 0, 0, "a", ""), good, 31)
	x.expect(t, local(20, 0, 0, 0, 33, 0, 0, 0, "a", ""), zip.Head{Name: "a", Time: firstTime(), Kept: true}, 31)
	x.expect(t, local(45, 8, 8, 0, 33, 0, 1<<32-1, 1<<32-1, "a", wide), zip.Head{Name: "a", Time: firstTime(), Size: 1<<32 - 1}, 51)
	for what, s := range map[string]string{
		"another version":             local(10, 8, 8, 0, 33, 0, 0, 0, "a", ""),
		"the version of a big one":    local(45, 8, 8, 0, 33, 0, 0, 0, "a", ""),
		"no flag":                     local(20, 0, 8, 0, 33, 0, 0, 0, "a", ""),
		"a kept one's flag":           local(20, 8, 0, 0, 33, 0, 0, 0, "a", ""),
		"a plain name's flag":         local(20, 2056, 8, 0, 33, 0, 0, 0, "a", ""),
		"no flag of a name":           local(20, 8, 8, 0, 33, 0, 0, 0, "\xc3\xa9", ""),
		"another flag":                local(20, 9, 8, 0, 33, 0, 0, 0, "a", ""),
		"another method":              local(20, 8, 9, 0, 33, 0, 0, 0, "a", ""),
		"no time":                     local(20, 8, 8, 30, 33, 0, 0, 0, "a", ""),
		"no date":                     local(20, 8, 8, 0, 0, 0, 0, 0, "a", ""),
		"a sum":                       local(20, 8, 8, 0, 33, 1, 0, 0, "a", ""),
		"a packed size":               local(20, 8, 8, 0, 33, 0, 1, 0, "a", ""),
		"a size":                      local(20, 8, 8, 0, 33, 0, 0, 1, "a", ""),
		"no name":                     local(20, 8, 8, 0, 33, 0, 0, 0, "", ""),
		"a name that may not be":      local(20, 8, 8, 0, 33, 0, 0, 0, "a/", ""),
		"a name that isn't right":     local(20, 2056, 8, 0, 33, 0, 0, 0, "\xff", ""),
		"an extra field":              local(20, 8, 8, 0, 33, 0, 0, 0, "a", wide),
		"another extra field":         local(20, 8, 8, 0, 33, 0, 0, 0, "a", "\x02\x00\x00\x00"),
		"a big one that is kept":      local(45, 0, 0, 0, 33, 0, 1<<32-1, 1<<32-1, "a", wide),
		"a big one without its field": local(45, 8, 8, 0, 33, 0, 1<<32-1, 1<<32-1, "a", ""),
		"a big one's numbers":         local(45, 8, 8, 0, 33, 0, 1<<32-1, 1<<32-1, "a", wide[:19]+"\x01"),
		"a big one's longer field":    local(45, 8, 8, 0, 33, 0, 1<<32-1, 1<<32-1, "a", wide+"\x00"),
		"a big one's version":         local(20, 8, 8, 0, 33, 0, 1<<32-1, 1<<32-1, "a", wide),
		"a big one's small size":      local(45, 8, 8, 0, 33, 0, 0, 0, "a", wide),
	} {
		if h, n := zip.Read(s); h != (zip.Head{}) || n != -1 {
			t.Error(what, h, n)
		}
		if _, n := modelRead(s); n != -1 {
			t.Error("the model takes", what)
		}
	}
}

// P13.2: numbers of 64 bits where four bytes are enough, and the other way round.
func TestReadCentralNoHead(t *testing.T) {
	date, clock, _ := someTime().Pack()
	central := func(version, packed, size, at uint64, extra string) string {
		return "PK\x01\x02" + le(version, 2) + le(version, 2) + le(8, 2) + le(8, 2) + le(clock, 2) + le(date, 2) + le(6, 4) + le(packed, 4) + le(size, 4) +
			le(1, 2) + le(uint64(len(extra)), 2) + strings.Repeat("\x00", 10) + le(at, 4) + "a" + extra
	}
	field := func(numbers ...uint64) string {
		s := "\x01\x00" + le(uint64(8*len(numbers)), 2)
		for _, n := range numbers {
			s += le(n, 8)
		}
		return s
	}
	const all = 1<<32 - 1
	x := readers()[1]
	head := zip.Head{Name: "a", Time: someTime(), Packed: 2, Size: 3, Sum: 6, At: 4}
	x.expect(t, central(20, 2, 3, 4, ""), head, 47)
	head.At = all
	x.expect(t, central(45, 2, 3, all, field(all)), head, 59)
	head.Size = edge + 1
	x.expect(t, central(45, all, all, all, field(edge+1, 2, all)), head, 75)
	head.At = all - 1
	x.expect(t, central(45, all, all, all-1, field(edge+1, 2)), head, 67)
	for what, s := range map[string]string{
		"the other version":         central(45, 2, 3, 4, ""),
		"a field for nothing":       central(45, 2, 3, 4, field(4)),
		"a field without numbers":   central(45, 2, 3, 4, field()),
		"a size above the edge":     central(20, 2, edge+1, 4, ""),
		"a packed size above it":    central(20, edge+1, 3, 4, ""),
		"no field of a size":        central(20, all, all, 4, ""),
		"no field of a place":       central(20, 2, 3, all, ""),
		"sizes that aren't big":     central(45, all, all, 4, field(3, 2)),
		"sizes at the edge":         central(45, all, all, 4, field(edge, edge)),
		"just the packed size":      central(45, all, 3, 4, field(edge+1)),
		"just the size":             central(45, 2, all, 4, field(edge+1)),
		"a place that isn't far":    central(45, 2, 3, all, field(all-1)),
		"a field that is too short": central(45, all, all, all, field(edge+1, 2)),
		"a field that is too long":  central(45, all, all, 4, field(edge+1, 2, 4)),
		"a size beyond":             central(45, all, all, 4, field(1<<62, 2)),
		"a packed size beyond":      central(45, all, all, 4, field(edge+1, 1<<62)),
		"a place beyond":            central(45, 2, 3, all, field(1<<62)),
		"another field":             central(45, 2, 3, all, "\x02"+field(all)[1:]),
		"half a field":              central(45, 2, 3, all, "\x01\x00"),
	} {
		if h, n := zip.ReadCentral(s); h != (zip.Head{}) || n != -1 {
			t.Error(what, h, n)
		}
		if _, n := modelReadCentral(s); n != -1 {
			t.Error("the model takes", what)
		}
	}
}

// P13.2: any bytes.
func TestReadAny(t *testing.T) {
	r := rand.New(rand.NewSource(4))
	for _, x := range readers() {
		for range 20000 {
			s := make([]byte, r.Intn(120))
			r.Read(s)
			x.against(t, string(s))
			x.against(t, x.magic+string(s))
			for i := range s {
				s[i] &= 3
			}
			x.against(t, x.magic+string(s))
		}
	}
}

// P13.2: every time is told.
func TestReadTimes(t *testing.T) {
	r := rand.New(rand.NewSource(5))
	for range 5000 {
		when, _ := dos.Of(r.Intn(46751 * 43200))
		h := zip.Head{Name: "a", Time: when, Kept: r.Intn(2) == 0}
		for _, x := range readers() {
			x.expect(t, x.show(h), h, len(x.show(h)))
		}
	}
}
