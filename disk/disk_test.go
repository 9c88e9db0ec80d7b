package disk_test

import (
	"math"
	"slices"
	"strings"
	"testing"

	"lighter/api"
	"lighter/disk"
)

var nought = strings.Repeat("\x00", 64)

// sector of one byte 64 times.
func sector(b byte) string { return strings.Repeat(string([]byte{b}), 64) }

// halves of a sector, each of one byte 32 times.
func halves(a, b byte) string { return sector(a)[:32] + sector(b)[32:] }

func newDisk(t *testing.T, sectors int) *disk.Disk {
	t.Helper()
	d, err := disk.New(sectors)
	if d == nil || err != api.OK {
		t.Fatal(sectors, err)
	}
	return d
}

// put sectors of a byte each, which must be written.
func put(t *testing.T, d *disk.Disk, i int, s string) {
	t.Helper()
	if err := d.Write(i, s); err != api.OK {
		t.Fatal("Write", i, err)
	}
}

// fill a disk's sectors with a, b, c and so on, so that they last.
func fill(t *testing.T, d *disk.Disk) {
	t.Helper()
	for i := range d.Sectors() {
		put(t, d, i, sector('a'+byte(i)))
	}
	if err := d.Sync(); err != api.OK {
		t.Fatal("Sync", err)
	}
}

func expect(t *testing.T, d *disk.Disk, i int, want string) {
	t.Helper()
	if s, err := d.Read(i); s != want || err != api.OK {
		t.Errorf("sector %d: %q, %d", i, s, err)
	}
}

// Write(0, a), Crash(1), Start: the sector 0 is a.
func TestExample(t *testing.T) {
	d := newDisk(t, 1)
	put(t, d, 0, sector('a'))
	d.Crash([]int{1})
	d.Start()
	expect(t, d, 0, sector('a'))
}

// P17.1: how many sectors there may be.
func TestNew(t *testing.T) {
	for _, n := range []int{0, -1, 65537, math.MaxInt, math.MinInt} {
		if d, err := disk.New(n); d != nil || err != api.ErrArg {
			t.Error(n, d, err)
		}
	}
	for _, n := range []int{1, 2, 9, 65535, 65536} {
		d := newDisk(t, n)
		if d.Sectors() != n || !d.On() || len(d.Dirty()) > 0 {
			t.Error(n, d.Sectors(), d.On(), d.Dirty())
		}
		if d.Image() != strings.Repeat(nought, n) {
			t.Error(n, "not of noughts")
		}
		expect(t, d, 0, nought)
		expect(t, d, n-1, nought)
		put(t, d, 0, sector('x'))
		put(t, d, n-1, sector('x'))
		expect(t, d, 0, sector('x'))
		expect(t, d, n-1, sector('x'))
		if err := d.Sync(); err != api.OK { // there is no fuse
			t.Error(err)
		}
	}
}

// P17.1: a Write is read at once, and just there.
func TestWrite(t *testing.T) {
	d := newDisk(t, 3)
	put(t, d, 1, halves('a', 'b'))
	expect(t, d, 0, nought)
	expect(t, d, 1, halves('a', 'b'))
	expect(t, d, 2, nought)
	put(t, d, 1, sector('c'))
	expect(t, d, 1, sector('c'))
	if d.Image() != strings.Repeat(nought, 3) {
		t.Error("what is in the cache lasts")
	}
	d.Sync()
	expect(t, d, 1, sector('c'))
	if d.Image() != nought+sector('c')+nought {
		t.Error("what was synced doesn't last")
	}
}

// P17.1: which error goes ahead, and that nothing is changed beside one.
func TestErrors(t *testing.T) {
	d := newDisk(t, 2)
	fill(t, d)
	put(t, d, 1, sector('x'))
	for _, i := range []int{-1, 2, 3, math.MaxInt, math.MinInt} {
		if s, err := d.Read(i); s != "" || err != api.ErrRange {
			t.Error("Read", i, s, err)
		}
		if err := d.Write(i, sector('y')); err != api.ErrRange {
			t.Error("Write", i, err)
		}
	}
	for _, n := range []int{0, 1, 32, 63, 65, 128} {
		for _, i := range []int{0, 1, -1, 2} {
			if err := d.Write(i, strings.Repeat("y", n)); err != api.ErrArg {
				t.Error("Write", i, n, err)
			}
		}
	}
	expect(t, d, 0, sector('a'))
	expect(t, d, 1, sector('x'))
	if l := d.Dirty(); !slices.Equal(l, []int{1}) {
		t.Error(l)
	}
	d.Crash(nil)
	for _, i := range []int{0, 1, -1, 2} {
		if s, err := d.Read(i); s != "" || err != api.ErrPower {
			t.Error("Read without power", i, s, err)
		}
		if err := d.Write(i, sector('y')); err != api.ErrPower {
			t.Error("Write without power", i, err)
		}
		if err := d.Write(i, "y"); err != api.ErrArg {
			t.Error("Write without power", i, err)
		}
	}
	if err := d.Sync(); err != api.ErrPower {
		t.Error("Sync without power", err)
	}
	d.Start()
	expect(t, d, 0, sector('a'))
	expect(t, d, 1, sector('b'))
}

// P17.1 to P17.4: of nil.
func TestNil(t *testing.T) {
	var d *disk.Disk
	if d.Sectors() != 0 || d.On() || d.Copy() != nil || len(d.Dirty()) > 0 || d.Image() != "" {
		t.Error("nil is something")
	}
	if s, err := d.Read(0); s != "" || err != api.ErrArg {
		t.Error("Read", s, err)
	}
	if err := d.Write(0, sector('a')); err != api.ErrArg {
		t.Error("Write", err)
	}
	if err := d.Write(-1, ""); err != api.ErrArg {
		t.Error("Write", err)
	}
	if err := d.Sync(); err != api.ErrArg {
		t.Error("Sync", err)
	}
	d.Crash([]int{1})
	d.Fuse(0)
	d.Start()
	if o := newDisk(t, 1); d.On() || d.Same(o) || o.Same(d) || d.Same(d) || !o.Same(o) {
		t.Error("nil is the same as something")
	}
}

// P17.3: what is as two disks are the same.
func TestSame(t *testing.T) {
	d, o := newDisk(t, 2), newDisk(t, 2)
	if !d.Same(o) || d.Same(newDisk(t, 1)) || d.Same(newDisk(t, 3)) {
		t.Error("of noughts")
	}
	put(t, d, 1, nought)
	if d.Same(o) || o.Same(d) || d.Same(d) {
		t.Error("a cache")
	}
	put(t, o, 1, nought)
	if d.Same(o) {
		t.Error("two caches")
	}
	d.Sync()
	o.Sync()
	if !d.Same(o) {
		t.Error("synced")
	}
	put(t, o, 0, nought[1:]+"\x01")
	o.Sync()
	if d.Same(o) || o.Same(d) {
		t.Error("another byte")
	}
	put(t, d, 0, nought[1:]+"\x01")
	d.Crash([]int{3})
	o.Fuse(3)
	if !d.Same(o) || !o.Same(d) {
		t.Error("power and fuse are no bytes")
	}
}

// P17.4: the sectors in the cache, by the time of their last Write.
func TestDirty(t *testing.T) {
	d := newDisk(t, 9)
	for _, i := range []int{7, 3, 7, 5, 3, 8, 0, 5} {
		put(t, d, i, nought)
	}
	l := d.Dirty()
	if !slices.Equal(l, []int{7, 3, 8, 0, 5}) {
		t.Error(l)
	}
	l[0] = 1
	if l = d.Dirty(); !slices.Equal(l, []int{7, 3, 8, 0, 5}) {
		t.Error("an answer that isn't new", l)
	}
	d.Sync()
	if l = d.Dirty(); len(l) > 0 {
		t.Error(l)
	}
	for i := range 9 {
		put(t, d, 8-i, sector('a'))
	}
	if l = d.Dirty(); !slices.Equal(l, []int{8, 7, 6, 5, 4, 3, 2, 1, 0}) {
		t.Error(l)
	}
	d.Crash(nil)
	if l = d.Dirty(); len(l) > 0 {
		t.Error(l)
	}
}

// P17.4: images, there and back.
func TestLoad(t *testing.T) {
	d := newDisk(t, 5)
	fill(t, d)
	put(t, d, 4, sector('x'))
	s := d.Image()
	if s != sector('a')+sector('b')+sector('c')+sector('d')+sector('e') {
		t.Errorf("%q", s)
	}
	d.Crash(nil)
	if d.Image() != s {
		t.Error("another image without power")
	}
	o, err := disk.Load(s)
	if err != api.OK || !o.On() || !o.Same(d) || len(o.Dirty()) > 0 || o.Image() != s {
		t.Fatal(err)
	}
	for i := range 5 {
		put(t, o, i, nought)
	}
	if err := o.Sync(); err != api.OK || o.Image() != strings.Repeat(nought, 5) {
		t.Error(err)
	}
}

// P17.4: no image of a disk.
func TestLoadErrors(t *testing.T) {
	most := strings.Repeat("\x01", 64*65536)
	for _, s := range []string{"", "a", most[:63], most[:65], most[:127], most[1:], most + "a", most + most[:64]} {
		if d, err := disk.Load(s); d != nil || err != api.ErrArg {
			t.Error(len(s), err)
		}
	}
	for _, n := range []int{64, 128, len(most)} {
		if d, err := disk.Load(most[:n]); d.Image() != most[:n] || err != api.OK {
			t.Error(n, err)
		}
	}
}
