package disk_test

import (
	"math"
	"strings"
	"testing"

	"lighter/api"
	"lighter/disk"
)

// P17.3: each fate of a sector.
func TestFates(t *testing.T) {
	for fate, want := range map[int]string{
		0:            sector('a'),
		1:            sector('x'),
		2:            halves('x', 'a'),
		3:            halves('a', 'x'),
		4:            sector('a'),
		5:            sector('x'),
		6:            halves('x', 'a'),
		7:            halves('a', 'x'),
		-1:           halves('a', 'x'),
		-2:           halves('x', 'a'),
		-3:           sector('x'),
		-4:           sector('a'),
		-5:           halves('a', 'x'),
		math.MaxInt:  halves('a', 'x'),
		math.MinInt:  sector('a'),
		-math.MaxInt: sector('x'),
	} {
		d := newDisk(t, 2)
		fill(t, d)
		put(t, d, 0, sector('y'))
		put(t, d, 0, sector('x')) // just the last Write has a fate
		d.Crash([]int{fate, 1, 1})
		if d.On() || len(d.Dirty()) > 0 {
			t.Error(fate, d.On(), d.Dirty())
		}
		if s := d.Image(); s != want+sector('b') {
			t.Errorf("%d: %q", fate, s)
		}
		d.Start()
		if !d.On() {
			t.Error("the power is off")
		}
		expect(t, d, 0, want)
		expect(t, d, 1, sector('b'))
	}
}

// P17.3: the fates' order is that of the last Writes; where there is none any more, it is 0.
func TestFatesInOrder(t *testing.T) {
	d := newDisk(t, 6)
	fill(t, d)
	for _, i := range []int{4, 2, 4, 0, 5, 2, 1} { // last: 4, 0, 5, 2, 1
		put(t, d, i, sector('z'))
	}
	d.Crash([]int{1, 2, 3, 1})
	want := halves('z', 'a') + sector('b') + sector('z') + sector('d') + sector('z') + halves('f', 'z')
	if s := d.Image(); s != want {
		t.Errorf("%q", s)
	}
}

// P17.3: a Crash without power does nothing; Start with power neither.
func TestPower(t *testing.T) {
	d := newDisk(t, 1)
	d.Start()
	put(t, d, 0, sector('x'))
	d.Start()
	expect(t, d, 0, sector('x'))
	d.Crash(nil)
	d.Crash([]int{1})
	expectImage(t, d, nought)
	d.Start()
	put(t, d, 0, sector('x'))
	d.Sync()
	d.Crash([]int{0})
	d.Crash([]int{0})
	expectImage(t, d, sector('x'))
}

func expectImage(t *testing.T, d *disk.Disk, want string) {
	t.Helper()
	if s := d.Image(); s != want {
		t.Errorf("%q", s)
	}
}

// P17.2: the Writes that a fuse lets by; Syncs, Reads and errors don't count.
func TestFuse(t *testing.T) {
	for n := range 5 {
		d := newDisk(t, 2)
		fill(t, d)
		d.Fuse(n)
		for range n {
			d.Write(0, "short")
			d.Write(2, sector('y'))
			d.Write(-1, sector('y'))
			if err := d.Sync(); err != api.OK {
				t.Error(n, "Sync", err)
			}
			put(t, d, 0, sector('x'))
		}
		if err := d.Write(0, "short"); err != api.ErrArg {
			t.Error(n, err)
		}
		if err := d.Write(2, sector('y')); err != api.ErrRange || !d.On() {
			t.Error(n, err, d.On())
		}
		lasted := d.Image()
		if err := d.Write(1, sector('y')); err != api.ErrPower || d.On() {
			t.Error(n, err, d.On())
		}
		expectImage(t, d, lasted)
		d.Start()
		for range 9 { // the fuse is gone
			put(t, d, 1, sector('y'))
			d.Sync()
		}
	}
}

// P17.2: the power fails at a Sync too, ahead of it, as by Crash without fates.
func TestFuseAtSync(t *testing.T) {
	d := newDisk(t, 2)
	fill(t, d)
	d.Fuse(2)
	put(t, d, 0, sector('x'))
	put(t, d, 0, sector('y'))
	if err := d.Sync(); err != api.ErrPower || d.On() || len(d.Dirty()) > 0 {
		t.Error(err, d.On(), d.Dirty())
	}
	expectImage(t, d, sector('a')+sector('b'))
	d.Start()
	expect(t, d, 0, sector('a'))
	d.Fuse(0)
	if err := d.Sync(); err != api.ErrPower || d.On() { // of an empty cache too
		t.Error(err, d.On())
	}
	d.Start()
	if err := d.Sync(); err != api.OK {
		t.Error(err)
	}
}

// P17.2: a fuse in the place of the one ahead; none; taken away.
func TestFuses(t *testing.T) {
	d := newDisk(t, 1)
	d.Fuse(0)
	d.Fuse(1)
	put(t, d, 0, sector('x'))
	d.Fuse(2)
	put(t, d, 0, sector('x'))
	put(t, d, 0, sector('x'))
	for _, none := range []int{-1, -2, math.MinInt} {
		d.Fuse(0)
		d.Fuse(none)
		for range 4 {
			put(t, d, 0, sector('x'))
			d.Sync()
		}
	}
	d.Fuse(math.MaxInt)
	put(t, d, 0, sector('x'))
	d.Fuse(0)
	d.Crash(nil)
	d.Start()
	put(t, d, 0, sector('y'))
	d.Crash(nil)
	d.Fuse(1) // also without power
	d.Crash(nil)
	d.Start()
	put(t, d, 0, sector('y'))
	if err := d.Sync(); err != api.ErrPower {
		t.Error(err)
	}
}

// P17.3: a copy has cache, fuse and power, and is another disk.
func TestCopy(t *testing.T) {
	d := newDisk(t, 3)
	fill(t, d)
	put(t, d, 2, sector('x'))
	put(t, d, 0, sector('y'))
	d.Fuse(1)
	o := d.Copy()
	put(t, d, 2, sector('z')) // its fuse is at its end; the copy's isn't
	d.Crash([]int{1, 1})
	if !o.On() {
		t.Error("one power of two disks")
	}
	expect(t, o, 0, sector('y'))
	expect(t, o, 2, sector('x'))
	expectImage(t, o, sector('a')+sector('b')+sector('c'))
	put(t, o, 1, sector('w'))
	if err := o.Write(1, sector('v')); err != api.ErrPower {
		t.Error("the copy's fuse", err)
	}
	expectImage(t, o, sector('a')+sector('b')+sector('c'))
	expectImage(t, d, sector('y')+sector('b')+sector('z'))
	if d.Copy().On() || o.Copy().Image() != o.Image() || !o.Copy().Same(o) {
		t.Error("a copy without power")
	}
	o.Start()
	put(t, o, 1, sector('1'))
	put(t, o, 0, sector('0'))
	o = o.Copy()
	o.Crash([]int{2, 3})
	expectImage(t, o, halves('a', '0')+halves('1', 'b')+sector('c'))
}

// P1, P17.3: all sectors of the greatest disk in its cache.
func TestManySectors(t *testing.T) {
	const n = api.MaxSectors
	d := newDisk(t, n)
	for i := range n {
		put(t, d, n-1-i, sector(byte(i)))
	}
	fates := make([]int, n)
	for k := range fates {
		fates[k] = k & 1
	}
	d.Crash(fates)
	var want strings.Builder
	for k := n - 1; k >= 0; k-- {
		want.WriteString([2]string{nought, sector(byte(k))}[k&1])
	}
	expectImage(t, d, want.String())
}
