package wal_test

import (
	"math"
	"slices"
	"strings"
	"testing"

	"lighter/api"
	"lighter/disk"
	"lighter/wal"
)

const most = math.MaxUint64

var (
	nought = strings.Repeat("\x00", 64)
	full   = strings.Repeat("n", 23) // a note of as many bytes as there may be
)

func newDisk(t *testing.T, sectors int) *disk.Disk {
	t.Helper()
	d, err := disk.New(sectors)
	if err != api.OK {
		t.Fatal(err)
	}
	return d
}

// diskOf sectors that last.
func diskOf(t *testing.T, sectors ...string) *disk.Disk {
	t.Helper()
	d, err := disk.Load(strings.Join(sectors, ""))
	if err != api.OK {
		t.Fatal(err)
	}
	return d
}

func open(t *testing.T, d *disk.Disk, at, sectors int) *wal.Log {
	t.Helper()
	l, err := wal.Open(d, at, sectors)
	if l == nil || err != api.OK {
		t.Fatal("Open", at, sectors, err)
	}
	return l
}

func put(t *testing.T, l *wal.Log, s string) {
	t.Helper()
	if err := l.Put(s); err != api.OK {
		t.Fatal("Put", s, err)
	}
}

// expect a note of a log, and its number.
func expect(t *testing.T, l *wal.Log, s string, n uint64) {
	t.Helper()
	if note, number := l.Note(); note != s || number != n {
		t.Errorf("%q, %d, not %q, %d", note, number, s, n)
	}
}

func expectEntries(t *testing.T, l *wal.Log, want ...wal.Entry) {
	t.Helper()
	if entries, err := l.Entries(); !slices.Equal(entries, want) || err != api.OK {
		t.Error(entries, want, err)
	}
}

// Of a log without notes, Put("a"): Note is "a", 1.
func TestExample(t *testing.T) {
	l := open(t, newDisk(t, 2), 0, 2)
	expect(t, l, "", 0)
	put(t, l, "a")
	expect(t, l, "a", 1)
}

// P18.1: which logs there are; which error goes ahead.
func TestOpen(t *testing.T) {
	d := newDisk(t, 5)
	for _, x := range []struct {
		at, sectors int
		err         api.Errno
	}{
		{0, 2, api.OK}, {0, 5, api.OK}, {1, 4, api.OK}, {3, 2, api.OK}, {2, 2, api.OK},
		{0, 1, api.ErrArg}, {0, 0, api.ErrArg}, {0, -1, api.ErrArg}, {9, 1, api.ErrArg}, {-1, math.MinInt, api.ErrArg},
		{0, 6, api.ErrRange}, {1, 5, api.ErrRange}, {4, 2, api.ErrRange}, {5, 2, api.ErrRange}, {-1, 2, api.ErrRange},
		{-2, 4, api.ErrRange}, {math.MaxInt, 2, api.ErrRange}, {math.MaxInt, math.MaxInt, api.ErrRange},
		{0, math.MaxInt, api.ErrRange}, {3, math.MaxInt - 1, api.ErrRange}, {math.MinInt, 2, api.ErrRange},
		{math.MinInt, math.MaxInt, api.ErrRange},
	} {
		l, err := wal.Open(d, x.at, x.sectors)
		if err != x.err || (l != nil) != (err == api.OK) {
			t.Error(x, l, err)
		}
		off := d.Copy()
		off.Crash(nil)
		if x.err == api.OK {
			x.err = api.ErrPower
		}
		if l, err := wal.Open(off, x.at, x.sectors); l != nil || err != x.err {
			t.Error("without power", x, l, err)
		}
		if l, err := wal.Open(nil, x.at, x.sectors); l != nil || err != api.ErrArg {
			t.Error("of nil", x, l, err)
		}
	}
	if len(d.Dirty()) > 0 || d.Image() != strings.Repeat(nought, 5) {
		t.Error("Open changes the disk")
	}
}

// P18.1: what counts: the greatest number, of the same one the first sector's.
func TestWhatCounts(t *testing.T) {
	for _, x := range []struct {
		sectors []string
		note    string
		n       uint64
	}{
		{[]string{nought, nought, nought}, "", 0},
		{[]string{nought, nought, wal.Slot(7, "c")}, "c", 7},
		{[]string{wal.Slot(7, ""), nought, nought}, "", 7},
		{[]string{wal.Slot(7, "a"), wal.Slot(9, "b"), wal.Slot(8, "c")}, "b", 9},
		{[]string{wal.Slot(7, "a"), wal.Slot(7, "b"), wal.Slot(6, "c")}, "a", 7},
		{[]string{wal.Slot(3, "a"), wal.Slot(7, "b"), wal.Slot(7, "c")}, "b", 7},
		{[]string{wal.Slot(255, "a"), wal.Slot(256, "b"), wal.Slot(1, "c")}, "b", 256},
		{[]string{wal.Slot(1<<32, "a"), wal.Slot(1<<63, "b"), wal.Slot(1<<63-1, "c")}, "b", 1 << 63},
		{[]string{wal.Slot(1, "a"), wal.Slot(2, "b"), wal.Slot(most, full)}, full, most},
	} {
		l := open(t, diskOf(t, x.sectors...), 0, 3)
		expect(t, l, x.note, x.n)
		// Sectors beside the log's don't count.
		d := diskOf(t, append(append([]string{wal.Slot(most, "ahead")}, x.sectors...), wal.Slot(most, "behind"))...)
		expect(t, open(t, d, 1, 3), x.note, x.n)
	}
	expect(t, nil, "", 0)
}

// P18.1: what is in a disk's cache is read too.
func TestOpenCached(t *testing.T) {
	d := diskOf(t, wal.Slot(4, "a"), wal.Slot(5, "b"))
	d.Write(0, wal.Slot(6, "c"))
	expect(t, open(t, d, 0, 2), "c", 6)
	if l := d.Dirty(); len(l) != 1 {
		t.Error("Open syncs", l)
	}
}

// P18.2: which sector a note is written to, and that it lasts.
func TestPut(t *testing.T) {
	const at, sectors = 2, 3
	d := newDisk(t, 7)
	d.Write(0, wal.Slot(99, "elsewhere"))
	d.Sync()
	want := []string{wal.Slot(99, "elsewhere"), nought, nought, nought, nought, nought, nought}
	l := open(t, d, at, sectors)
	for i, s := range []string{"", "a", full, "\x00", "b", "", "c", "d", strings.Repeat("\xff", 23), "e"} {
		n := uint64(i + 1)
		put(t, l, s)
		want[at+n%sectors] = wal.Slot(n, s)
		if d.Image() != strings.Join(want, "") || len(d.Dirty()) > 0 {
			t.Fatalf("%d: %q", n, d.Image())
		}
		expect(t, l, s, n)
		expect(t, open(t, d, at, sectors), s, n)
	}
	// Opened anew it goes on there, also as a log of other sectors.
	l = open(t, d, at, sectors)
	put(t, l, "f")
	want[at+11%sectors] = wal.Slot(11, "f")
	l = open(t, d, 0, 7)
	expect(t, l, "elsewhere", 99)
	put(t, l, "g")
	want[100%7] = wal.Slot(100, "g")
	if d.Image() != strings.Join(want, "") {
		t.Errorf("%q", d.Image())
	}
}

// P18.2: great numbers, and no number behind the greatest.
func TestGreatNumbers(t *testing.T) {
	for _, sectors := range []int{2, 3, 7} {
		d := newDisk(t, sectors)
		d.Write(1, wal.Slot(most-3, "x"))
		d.Sync()
		l := open(t, d, 0, sectors)
		for n := uint64(most - 2); n != 0; n++ {
			put(t, l, "y")
			expect(t, l, "y", n)
			if s, _ := d.Read(int(n % uint64(sectors))); s != wal.Slot(n, "y") {
				t.Errorf("%d sectors, %d: %q", sectors, n, s)
			}
		}
		lasted := d.Image()
		for _, l := range []*wal.Log{l, open(t, d, 0, sectors)} {
			if err := l.Put(full + "n"); err != api.ErrArg {
				t.Error(err)
			}
			for range 2 {
				if err := l.Put("z"); err != api.ErrFull {
					t.Error(err)
				}
			}
			expect(t, l, "y", most)
		}
		if d.Image() != lasted || len(d.Dirty()) > 0 {
			t.Error("ErrFull changes the disk")
		}
		d.Crash(nil)
		if err := l.Put("z"); err != api.ErrFull {
			t.Error("without power", err)
		}
	}
}

// P18.2: errors that aren't the disk's change nothing.
func TestPutErrors(t *testing.T) {
	var none *wal.Log
	for _, s := range []string{"", "a", full + "n"} {
		if err := none.Put(s); err != api.ErrArg {
			t.Error("of nil", err)
		}
	}
	d := newDisk(t, 4)
	l := open(t, d, 1, 2)
	put(t, l, "a")
	lasted := d.Image()
	for _, n := range []int{24, 25, 60, 64, 255, 256, 279, 1 << 20} {
		if err := l.Put(strings.Repeat("x", n)); err != api.ErrArg {
			t.Error(n, err)
		}
	}
	expect(t, l, "a", 1)
	if d.Image() != lasted || len(d.Dirty()) > 0 {
		t.Error("ErrArg changes the disk")
	}
	put(t, l, "b")
	expect(t, l, "b", 2)
}

// P18.2: behind an error of the disk's there is no Put any more.
func TestPutWithoutPower(t *testing.T) {
	for fuse := range 2 {
		d := newDisk(t, 3)
		l := open(t, d, 0, 3)
		put(t, l, "a")
		lasted := d.Image()
		d.Fuse(fuse)
		if err := l.Put("b"); err != api.ErrPower || d.On() {
			t.Error(err, d.On())
		}
		d.Start()
		for range 2 {
			if err := l.Put("b"); err != api.ErrState {
				t.Error(err)
			}
			if err := l.Put(full + "n"); err != api.ErrArg {
				t.Error(err)
			}
		}
		expect(t, l, "a", 1)
		expectEntries(t, l, wal.Entry{Number: 1, Note: "a"})
		if d.Image() != lasted || len(d.Dirty()) > 0 {
			t.Errorf("%q", d.Image())
		}
		l = open(t, d, 0, 3)
		put(t, l, "c")
		expect(t, l, "c", 2)
	}
	d := newDisk(t, 2)
	l := open(t, d, 0, 2)
	d.Crash(nil)
	if err := l.Put(""); err != api.ErrPower {
		t.Error(err)
	}
	expect(t, l, "", 0)
	if entries, err := l.Entries(); len(entries) > 0 || err != api.ErrPower {
		t.Error("Entries without power", entries, err)
	}
}

// P18.4: all slots, by their numbers, of the same by their sectors.
func TestEntries(t *testing.T) {
	var none *wal.Log
	if entries, err := none.Entries(); len(entries) > 0 || err != api.ErrArg {
		t.Error("of nil", entries, err)
	}
	d := diskOf(t, wal.Slot(1, "ahead"),
		wal.Slot(9, "a"), wal.Slot(256, "b"), nought, wal.Slot(9, "c"), wal.Slot(most, full), wal.Slot(3, ""), wal.Slot(9, "b"),
		wal.Slot(2, "behind"))
	l := open(t, d, 1, 7)
	for range 2 {
		expectEntries(t, l, wal.Entry{3, ""}, wal.Entry{9, "a"}, wal.Entry{9, "c"}, wal.Entry{9, "b"}, wal.Entry{256, "b"}, wal.Entry{most, full})
	}
	expectEntries(t, open(t, d, 0, 2), wal.Entry{1, "ahead"}, wal.Entry{9, "a"})
	expectEntries(t, open(t, newDisk(t, 2), 0, 2))
}

// P18.4: of many slots of the same numbers.
func TestManyAlike(t *testing.T) {
	var sectors []string
	var want [3][]wal.Entry
	for i := range 99 {
		e := wal.Entry{Number: uint64(1 + i*7%3), Note: strings.Repeat("x", i*5%23)}
		sectors = append(sectors, wal.Slot(e.Number, e.Note))
		want[e.Number-1] = append(want[e.Number-1], e)
	}
	l := open(t, diskOf(t, sectors...), 0, 99)
	expectEntries(t, l, slices.Concat(want[0], want[1], want[2])...)
}

// P18.4: the last notes, as many as there are sectors.
func TestLastEntries(t *testing.T) {
	for sectors := 2; sectors < 6; sectors++ {
		d := newDisk(t, 9)
		l := open(t, d, 3, sectors)
		var want []wal.Entry
		for n := uint64(1); n < 20; n++ {
			note := strings.Repeat("x", int(n))
			put(t, l, note)
			want = append(want, wal.Entry{Number: n, Note: note})
			want = want[max(0, len(want)-sectors):]
			expectEntries(t, l, want...)
			expectEntries(t, open(t, d, 3, sectors), want...)
		}
	}
}

// P1: as many sectors as a disk may have.
func TestManySectors(t *testing.T) {
	d := newDisk(t, api.MaxSectors)
	for i := range api.MaxSectors {
		d.Write(i, wal.Slot(uint64(api.MaxSectors-i), "x"))
	}
	l := open(t, d, 0, api.MaxSectors)
	expect(t, l, "x", api.MaxSectors)
	entries, err := l.Entries()
	if len(entries) != api.MaxSectors || err != api.OK {
		t.Fatal(len(entries), err)
	}
	for i, e := range entries {
		if e != (wal.Entry{Number: uint64(i) + 1, Note: "x"}) {
			t.Fatal(i, e)
		}
	}
}
