package stage_test

import (
	"hash/crc32"
	"math"
	"slices"
	"strings"
	"testing"

	"lighter/api"
	"lighter/disk"
	"lighter/stage"
)

var nought = strings.Repeat("\x00", 64)

// run of bytes, each another one than those around it.
func run(from, n int) string {
	s := make([]byte, n)
	for i := range s {
		s[i] = byte(1 + (from+i)%251)
	}
	return string(s)
}

func newDisk(t *testing.T, sectors int) *disk.Disk {
	t.Helper()
	d, err := disk.New(sectors)
	if err != api.OK {
		t.Fatal(err)
	}
	return d
}

// diskOf bytes that last.
func diskOf(t *testing.T, s string) *disk.Disk {
	t.Helper()
	d, err := disk.Load(s)
	if err != api.OK {
		t.Fatal(err)
	}
	return d
}

func newFile(t *testing.T, d *disk.Disk, at, sectors, size int) *stage.File {
	t.Helper()
	f, err := stage.New(d, at, sectors, size)
	if f == nil || err != api.OK {
		t.Fatal("New", at, sectors, size, err)
	}
	return f
}

func add(t *testing.T, f *stage.File, s string) {
	t.Helper()
	if err := f.Append(s); err != api.OK {
		t.Fatal("Append", len(s), err)
	}
}

// expect all bytes of a file, by all that tells them.
func expect(t *testing.T, f *stage.File, s string) {
	t.Helper()
	if f.Len() != len(s) {
		t.Errorf("%d bytes, not %d", f.Len(), len(s))
	}
	if got, err := f.Read(0, len(s)); got != s || err != api.OK {
		t.Errorf("Read %q, not %q (%d)", got, s, err)
	}
	if sum, err := f.Sum(0, len(s)); sum != crc32.ChecksumIEEE([]byte(s)) || err != api.OK {
		t.Error("Sum", sum, err)
	}
	if ok, err := f.Starts(s); !ok || err != api.OK {
		t.Error("Starts", ok, err)
	}
}

// Append("abc"), Read(1, 2): "bc".
func TestExample(t *testing.T) {
	f := newFile(t, newDisk(t, 1), 0, 1, 0)
	add(t, f, "abc")
	if s, err := f.Read(1, 2); s != "bc" || err != api.OK {
		t.Errorf("%q, %d", s, err)
	}
}

// P19.1: which files there are; which error goes ahead.
func TestNew(t *testing.T) {
	d := newDisk(t, 5)
	for _, x := range []struct {
		at, sectors, size int
		err               api.Errno
	}{
		{0, 1, 0, api.OK}, {0, 1, 64, api.OK}, {0, 5, 320, api.OK}, {4, 1, 1, api.OK}, {2, 3, 192, api.OK}, {1, 2, 65, api.OK},
		{0, 0, 0, api.ErrArg}, {0, -1, 0, api.ErrArg}, {9, 0, -1, api.ErrArg}, {-1, math.MinInt, 999, api.ErrArg},
		{0, 6, 0, api.ErrRange}, {1, 5, 0, api.ErrRange}, {5, 1, 0, api.ErrRange}, {-1, 1, 0, api.ErrRange}, {-2, 4, 0, api.ErrRange},
		{math.MaxInt, 1, 0, api.ErrRange}, {math.MaxInt, math.MaxInt, 0, api.ErrRange}, {0, math.MaxInt, 0, api.ErrRange},
		{3, math.MaxInt - 1, 0, api.ErrRange}, {math.MinInt, 1, 0, api.ErrRange}, {math.MinInt, math.MaxInt, 0, api.ErrRange},
		{0, 1 << 58, 0, api.ErrRange}, {0, 1 << 57, math.MinInt, api.ErrRange},
		{0, 1, -1, api.ErrRange}, {0, 1, 65, api.ErrRange}, {0, 5, 321, api.ErrRange}, {3, 2, 129, api.ErrRange},
		{0, 5, math.MaxInt, api.ErrRange}, {0, 5, math.MinInt, api.ErrRange},
	} {
		f, err := stage.New(d, x.at, x.sectors, x.size)
		if err != x.err || (f != nil) != (err == api.OK) {
			t.Error(x, f, err)
		}
		if err == api.OK && (f.Len() != x.size || f.Room() != 64*x.sectors-x.size) {
			t.Error(x, f.Len(), f.Room())
		}
		off := d.Copy()
		off.Crash(nil)
		if f, err := stage.New(off, x.at, x.sectors, x.size); err != x.err || (f != nil) != (err == api.OK) {
			t.Error("without power", x, f, err)
		}
		if f, err := stage.New(nil, x.at, x.sectors, x.size); f != nil || err != api.ErrArg {
			t.Error("of nil", x, f, err)
		}
	}
	if len(d.Dirty()) > 0 || d.Image() != strings.Repeat(nought, 5) {
		t.Error("New changes the disk")
	}
}

// P19.1, P19.4: calls of a nil file.
func TestNil(t *testing.T) {
	var f *stage.File
	if f.Len() != 0 || f.Room() != 0 {
		t.Error(f.Len(), f.Room())
	}
	for _, s := range []string{"", "a"} {
		if err := f.Append(s); err != api.ErrArg {
			t.Error("Append", err)
		}
		if ok, err := f.Starts(s); ok || err != api.ErrArg {
			t.Error("Starts", ok, err)
		}
	}
	if err := f.Sync(); err != api.ErrArg {
		t.Error("Sync", err)
	}
	for _, n := range []int{0, -1, 1} {
		if err := f.Cut(n); err != api.ErrArg {
			t.Error("Cut", err)
		}
		if s, err := f.Read(0, n); s != "" || err != api.ErrArg {
			t.Error("Read", s, err)
		}
		if sum, err := f.Sum(n, 0); sum != 0 || err != api.ErrArg {
			t.Error("Sum", sum, err)
		}
	}
}

// P19.1: a file that is opened has the bytes that are on the disk from its first sector on.
func TestOpened(t *testing.T) {
	all := run(0, 320)
	d := diskOf(t, all)
	for size := range 129 {
		expect(t, newFile(t, d, 2, 2, size), all[128:][:size])
	}
	d.Write(2, strings.Repeat("x", 64)) // also those that don't last yet
	expect(t, newFile(t, d, 2, 2, 70), strings.Repeat("x", 64)+all[192:198])
}

// P19.2: bytes behind bytes, however they come, and nothing beside the file.
func TestAppend(t *testing.T) {
	const at, sectors = 2, 3
	for _, sizes := range [][]int{
		{0}, {1}, {63}, {64}, {65}, {128}, {192}, {0, 192, 0}, {1, 1, 1}, {32, 32, 64, 64}, {63, 2, 63, 64}, {64, 0, 128},
		{10, 150, 32}, {1, 191}, {191, 1}, {100, 0, 28}, {7, 57, 1, 127},
	} {
		d := diskOf(t, strings.Repeat("z", 64*7))
		f := newFile(t, d, at, sectors, 0)
		told := ""
		for _, n := range sizes {
			s := run(len(told), n)
			add(t, f, s)
			told += s
			if f.Room() != 64*sectors-len(told) {
				t.Error(sizes, f.Room())
			}
			expect(t, f, told)
			expect(t, newFile(t, d, at, sectors, len(told)), told)
		}
		if d.Image() != strings.Repeat("z", 64*7) {
			t.Error(sizes, "Append syncs")
		}
		if err := f.Sync(); err != api.OK || len(d.Dirty()) > 0 {
			t.Error(err, d.Dirty())
		}
		s := d.Image()
		if s[:64*at] != strings.Repeat("z", 64*at) || s[64*at:][:len(told)] != told || s[64*(at+sectors):] != strings.Repeat("z", 64*2) {
			t.Errorf("%d: %q", sizes, s)
		}
	}
}

// P19.2: of all sizes that were there, and all that come.
func TestAppendAnywhere(t *testing.T) {
	all := run(7, 192)
	for size := range 193 {
		for _, n := range []int{0, 1, 2, 31, 32, 33, 63, 64, 65, 127, 128, 129, 192 - size} {
			d := diskOf(t, all)
			f := newFile(t, d, 0, 3, size)
			s := strings.Repeat("+", n)
			if n > 192-size {
				if err := f.Append(s); err != api.ErrFull {
					t.Error(size, n, err)
				}
				expect(t, f, all[:size])
				continue
			}
			add(t, f, s)
			expect(t, f, all[:size]+s)
		}
	}
}

// P19.2: there is just so much room.
func TestFull(t *testing.T) {
	d := newDisk(t, 4)
	f := newFile(t, d, 1, 2, 0)
	add(t, f, run(0, 100))
	f.Sync()
	lasted := d.Image()
	for _, n := range []int{29, 64, 128, 1 << 20} {
		if err := f.Append(strings.Repeat("x", n)); err != api.ErrFull {
			t.Error(n, err)
		}
	}
	if d.Image() != lasted || len(d.Dirty()) > 0 || f.Room() != 28 {
		t.Error("ErrFull changes something")
	}
	add(t, f, run(100, 28))
	if err := f.Append("x"); err != api.ErrFull || f.Room() != 0 {
		t.Error(err, f.Room())
	}
	add(t, f, "")
	d.Crash(nil)
	if err := f.Append("x"); err != api.ErrFull {
		t.Error("without power", err)
	}
}

// P19.2: an Append at which the power fails leaves the file as it was.
func TestAppendWithoutPower(t *testing.T) {
	for size := 0; size < 130; size += 13 {
		for n := 1; n < 190; n += 21 {
			writes := (size+n+63)/64 - size/64 // the sectors that the bytes are in
			for fuse := range writes + 1 {
				d := newDisk(t, 6)
				f := newFile(t, d, 0, 6, 0)
				add(t, f, run(0, size))
				f.Sync()
				d.Fuse(fuse)
				err := f.Append(run(size, n))
				if (err == api.OK) != (fuse == writes) || err != api.OK && (err != api.ErrPower || d.On()) {
					t.Fatal(size, n, fuse, err)
				}
				if err == api.OK {
					err = f.Sync()
					f.Cut(size)
				}
				d.Start()
				if err != api.ErrPower {
					t.Error("Sync", err)
				}
				expect(t, f, run(0, size))
				add(t, f, run(size, n))
				expect(t, f, run(0, size+n))
			}
		}
	}
}

// P19.2: calls without power.
func TestWithoutPower(t *testing.T) {
	d := newDisk(t, 3)
	f := newFile(t, d, 0, 3, 0)
	add(t, f, run(0, 100))
	f.Sync()
	d.Crash(nil)
	if err := f.Append("x"); err != api.ErrPower {
		t.Error("Append", err)
	}
	if err := f.Sync(); err != api.ErrPower {
		t.Error("Sync", err)
	}
	if s, err := f.Read(3, 4); s != "" || err != api.ErrPower {
		t.Error("Read", s, err)
	}
	if s, err := f.Read(3, 98); s != "" || err != api.ErrRange {
		t.Error("Read", s, err)
	}
	if sum, err := f.Sum(3, 4); sum != 0 || err != api.ErrPower {
		t.Error("Sum", sum, err)
	}
	if ok, err := f.Starts(run(0, 3)); ok || err != api.ErrPower {
		t.Error("Starts", ok, err)
	}
	if ok, err := f.Starts(run(0, 101)); ok || err != api.OK {
		t.Error("Starts with more", ok, err)
	}
	if f.Len() != 100 || f.Room() != 92 {
		t.Error(f.Len(), f.Room())
	}
	if err := f.Cut(50); err != api.OK {
		t.Error("Cut", err)
	}
	d.Start()
	expect(t, f, run(0, 50))
}

// P19.2, P19.4: all bytes from each place on; which ones aren't there.
func TestRead(t *testing.T) {
	all := run(0, 192)
	d := diskOf(t, nought+all)
	f := newFile(t, d, 1, 3, 150)
	for at := range 151 {
		for n := range 151 - at {
			want := all[at:][:n]
			if s, err := f.Read(at, n); s != want || err != api.OK {
				t.Fatalf("%d, %d: %q, %d", at, n, s, err)
			}
			if n%9 == 0 {
				if sum, err := f.Sum(at, n); sum != crc32.ChecksumIEEE([]byte(want)) || err != api.OK {
					t.Fatal(at, n, sum, err)
				}
			}
		}
	}
	for _, x := range [][2]int{
		{-1, 0}, {-1, 1}, {0, -1}, {150, -1}, {0, 151}, {1, 150}, {150, 1}, {149, 2}, {151, 0}, {-1, -1}, {-1, 2},
		{math.MaxInt, math.MaxInt}, {math.MinInt, math.MinInt}, {math.MaxInt, 1}, {1, math.MaxInt}, {150, math.MaxInt},
		{math.MinInt, math.MaxInt}, {math.MaxInt, math.MinInt}, {math.MinInt, 1}, {1, math.MinInt}, {math.MaxInt, 0}, {0, 1 << 62},
	} {
		if s, err := f.Read(x[0], x[1]); s != "" || err != api.ErrRange {
			t.Errorf("Read %d: %q, %d", x, s, err)
		}
		if sum, err := f.Sum(x[0], x[1]); sum != 0 || err != api.ErrRange {
			t.Error("Sum", x, sum, err)
		}
	}
	expect(t, newFile(t, d, 0, 1, 0), "")
}

// P19.2: a file that is cut, and grows again; the disk stays as it is.
func TestCut(t *testing.T) {
	all := run(0, 192)
	for _, n := range []int{0, 1, 63, 64, 65, 127, 128, 149, 150} {
		d := diskOf(t, all)
		f := newFile(t, d, 0, 3, 150)
		if err := f.Cut(n); err != api.OK || f.Room() != 192-n {
			t.Error(n, err, f.Room())
		}
		if d.Image() != all || len(d.Dirty()) > 0 {
			t.Error("Cut changes the disk")
		}
		expect(t, f, all[:n])
		for _, wrong := range []int{-1, n + 1, 150 + 1, math.MaxInt, math.MinInt} {
			if err := f.Cut(wrong); err != api.ErrRange {
				t.Error(n, wrong, err)
			}
		}
		if _, err := f.Read(0, n+1); err != api.ErrRange {
			t.Error("what is cut is there", err)
		}
		add(t, f, "new")
		expect(t, f, all[:n]+"new")
	}
}

// P19.4: is it the beginning?
func TestStarts(t *testing.T) {
	all := run(0, 192)
	f := newFile(t, diskOf(t, all), 0, 3, 150)
	for n := range 193 {
		if ok, err := f.Starts(all[:n]); ok != (n <= 150) || err != api.OK {
			t.Error(n, ok, err)
		}
		if n == 0 {
			continue
		}
		for _, i := range []int{0, n / 2, n - 1} {
			if ok, err := f.Starts(all[:i] + "\xff" + all[i+1:n]); ok || err != api.OK {
				t.Error(n, i, ok, err)
			}
		}
	}
	if ok, err := f.Starts(strings.Repeat("x", 1<<20)); ok || err != api.OK {
		t.Error(ok, err)
	}
}

// Two files on one disk: neither touches the other one's sectors.
func TestTwoFiles(t *testing.T) {
	d := newDisk(t, 4)
	a, b := newFile(t, d, 0, 2, 0), newFile(t, d, 2, 2, 0)
	for range 8 {
		add(t, a, "aaaaaaaaaaaaaaaa")
		add(t, b, "bbbbbbbbbbbbbbbb")
	}
	expect(t, a, strings.Repeat("a", 128))
	expect(t, b, strings.Repeat("b", 128))
	if l := d.Dirty(); !slices.Equal(l, []int{0, 2, 1, 3}) {
		t.Error(l)
	}
}

// P1: as many bytes as a disk may have.
func TestGreatest(t *testing.T) {
	const sectors = api.MaxSectors
	d := newDisk(t, sectors)
	f := newFile(t, d, 0, sectors, 0)
	add(t, f, "x")
	s := run(0, 64*sectors-1)
	add(t, f, s)
	if f.Room() != 0 || f.Append("x") != api.ErrFull {
		t.Error(f.Room())
	}
	if err := f.Sync(); err != api.OK || d.Image() != "x"+s {
		t.Error(err)
	}
	expect(t, f, "x"+s)
}
