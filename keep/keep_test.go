package keep_test

import (
	"encoding/binary"
	"hash/crc32"
	"math"
	"strings"
	"testing"

	"lighter/api"
	"lighter/disk"
	"lighter/keep"
	"lighter/wal"
)

const logBytes = 8 * 64

// run of bytes, each another one than those around it.
func run(from, n int) string {
	s := make([]byte, n)
	for i := range s {
		s[i] = byte(1 + (from+i)%251)
	}
	return string(s)
}

func sum(s string) uint32 { return crc32.ChecksumIEEE([]byte(s)) }

func newDisk(t *testing.T, sectors int) *disk.Disk {
	t.Helper()
	d, err := disk.New(sectors)
	if err != api.OK {
		t.Fatal(err)
	}
	return d
}

// diskOf a note with some number, and the bytes of a file in so many sectors.
func diskOf(t *testing.T, n uint64, note string, sectors int, bytes string) *disk.Disk {
	t.Helper()
	d := newDisk(t, 8+sectors)
	d.Write(int(n%8), wal.Slot(n, note))
	bytes += strings.Repeat("z", 64*sectors-len(bytes))
	for i := range sectors {
		d.Write(8+i, bytes[64*i:][:64])
	}
	d.Sync()
	return d
}

// noteOf a state, by the document's words.
func noteOf(session, epoch uint32, size uint64, sum uint32, done byte) string {
	var s []byte
	s = binary.LittleEndian.AppendUint32(s, session)
	s = binary.LittleEndian.AppendUint32(s, epoch)
	s = binary.LittleEndian.AppendUint64(s, size)
	s = binary.LittleEndian.AppendUint32(s, sum)
	return string(append(s, done))
}

func open(t *testing.T, d *disk.Disk) *keep.Keep {
	t.Helper()
	k, err := keep.Open(d)
	if k == nil || err != api.OK {
		t.Fatal("Open", err)
	}
	return k
}

// must be OK.
func must(t *testing.T, err api.Errno) {
	t.Helper()
	if err != api.OK {
		t.Fatal(err)
	}
}

// stateOf bytes of a session.
func stateOf(session, epoch uint32, bytes string, done bool) keep.State {
	return keep.State{Session: session, Epoch: epoch, Size: len(bytes), Sum: sum(bytes), Done: done}
}

// expect a state and its bytes, of a keep on so many sectors.
func expect(t *testing.T, k *keep.Keep, sectors int, want keep.State, bytes string) {
	t.Helper()
	if k.State() != want {
		t.Errorf("%+v, not %+v", k.State(), want)
	}
	if s, err := k.Read(0, len(bytes)); s != bytes || err != api.OK {
		t.Errorf("%q, not %q (%d)", s, bytes, err)
	}
	if s, err := k.Read(0, len(bytes)+1); s != "" || err != api.ErrRange {
		t.Errorf("more than its bytes: %q, %d", s, err)
	}
	room := 64*(sectors-8) - len(bytes)
	if want.Done {
		room = 0
	}
	if k.Room() != room {
		t.Error("Room", k.Room(), room)
	}
}

// Begin(7), Append("abc"): Session 7, Size 3.
func TestExample(t *testing.T) {
	k := open(t, newDisk(t, 9))
	expect(t, k, 9, keep.State{}, "")
	must(t, k.Begin(7))
	must(t, k.Append("abc"))
	expect(t, k, 9, stateOf(7, 0, "abc", false), "abc")
}

// P20.1: disks that aren't there, are too small, or without power.
func TestOpenErrors(t *testing.T) {
	if k, err := keep.Open(nil); k != nil || err != api.ErrArg {
		t.Error("of nil", k, err)
	}
	for sectors := 1; sectors < 12; sectors++ {
		want := api.OK
		if sectors < 9 {
			want = api.ErrRange
		}
		d := newDisk(t, sectors)
		if k, err := keep.Open(d); err != want || (k != nil) != (err == api.OK) {
			t.Error(sectors, k, err)
		}
		if want == api.OK {
			want = api.ErrPower
		}
		d.Crash(nil)
		if k, err := keep.Open(d); k != nil || err != want {
			t.Error("without power", sectors, k, err)
		}
	}
	d := diskOf(t, 1, "wrong", 1, "")
	d.Crash(nil)
	if k, err := keep.Open(d); k != nil || err != api.ErrPower {
		t.Error(k, err)
	}
}

// P20.1: notes of states, and others.
func TestNotes(t *testing.T) {
	all := run(0, 192)
	for _, size := range []int{0, 1, 63, 64, 65, 191, 192} {
		s := all[:size]
		d := diskOf(t, 5, noteOf(0xf1f2f3f4, 0xe1e2e3e4, uint64(size), sum(s), 0), 3, all)
		expect(t, open(t, d), 11, stateOf(0xf1f2f3f4, 0xe1e2e3e4, s, false), s)
		d = diskOf(t, math.MaxUint64, noteOf(1, 2, uint64(size), sum(s), 1), 3, all)
		expect(t, open(t, d), 11, stateOf(1, 2, s, true), s)
	}
	good := noteOf(1, 2, 70, sum(all[:70]), 1)
	for note, want := range map[string]api.Errno{
		good:                                  api.OK,
		"":                                    api.ErrForm,
		"a":                                   api.ErrForm,
		good[:20]:                             api.ErrForm,
		good + "\x00":                         api.ErrForm,
		good + "\x00\x00":                     api.ErrForm,
		noteOf(1, 2, 70, sum(all[:70]), 2):    api.ErrForm,
		noteOf(1, 2, 70, sum(all[:70]), 255):  api.ErrForm,
		noteOf(1, 2, 193, sum(all), 0):        api.ErrForm,
		noteOf(1, 2, 1<<31, 0, 0):             api.ErrForm,
		noteOf(1, 2, 1<<32, 0, 0):             api.ErrForm,
		noteOf(1, 2, 1<<32+70, sum(all), 0):   api.ErrForm,
		noteOf(1, 2, 1<<63, 0, 0):             api.ErrForm,
		noteOf(1, 2, 1<<63-1, 0, 0):           api.ErrForm,
		noteOf(1, 2, math.MaxUint64, 0, 0):    api.ErrForm,
		noteOf(1, 2, 193, 0, 2):               api.ErrForm,
		noteOf(1, 2, 192, sum(all[:191]), 0):  api.ErrSum,
		noteOf(1, 2, 69, sum(all[:70]), 0):    api.ErrSum,
		noteOf(1, 2, 71, sum(all[:70]), 0):    api.ErrSum,
		noteOf(1, 2, 70, sum(all[:70])+1, 0):  api.ErrSum,
		noteOf(1, 2, 70, 0, 1):                api.ErrSum,
		noteOf(1, 2, 0, 1, 0):                 api.ErrSum,
		noteOf(1, 2, 0, 0, 0):                 api.OK,
		noteOf(0, 0, 0, 0, 0):                 api.OK,
		strings.Repeat("\x00", 22):            api.ErrForm,
		noteOf(1, 2, 1<<56, sum(all[:70]), 0): api.ErrForm,
	} {
		d := diskOf(t, 3, note, 3, all)
		lasted := d.Image()
		if k, err := keep.Open(d); err != want || (k != nil) != (err == api.OK) {
			t.Errorf("%q: %d, not %d", note, err, want)
		}
		if d.Image() != lasted || len(d.Dirty()) > 0 {
			t.Error("Open changes the disk")
		}
	}
}

// P20.1: it is the note that counts that must be one of a state; bytes count up to Size.
func TestWhatCounts(t *testing.T) {
	d := diskOf(t, 4, noteOf(1, 2, 3, sum("abc"), 0), 1, "abc")
	d.Write(3, wal.Slot(3, "wrong"))
	d.Write(5, "no slot"+strings.Repeat("z", 57))
	expect(t, open(t, d), 9, stateOf(1, 2, "abc", false), "abc")
	d.Write(8, "abc"+strings.Repeat("y", 61))
	expect(t, open(t, d), 9, stateOf(1, 2, "abc", false), "abc")
	d.Write(5, wal.Slot(5, "wrong"))
	if k, err := keep.Open(d); k != nil || err != api.ErrForm {
		t.Error(k, err)
	}
	d.Write(6, wal.Slot(6, noteOf(1, 2, 4, sum("abc"), 0)))
	if k, err := keep.Open(d); k != nil || err != api.ErrSum {
		t.Error(k, err)
	}
}

// P20.1, P20.2: calls of nil.
func TestNil(t *testing.T) {
	var k *keep.Keep
	if k.State() != (keep.State{}) || k.Room() != 0 {
		t.Error(k.State(), k.Room())
	}
	for name, err := range map[string]api.Errno{
		"Start": k.Start(), "Begin": k.Begin(1), "Append": k.Append("a"), "Append of nothing": k.Append(""), "Commit": k.Commit(),
	} {
		if err != api.ErrArg {
			t.Error(name, err)
		}
	}
	for _, n := range []int{0, 1, -1} {
		if s, err := k.Read(n, n); s != "" || err != api.ErrArg {
			t.Error("Read", s, err)
		}
	}
}

// P20.2: each change, its note, the file's bytes, and that all lasts.
func TestChanges(t *testing.T) {
	const sectors = 11
	d := newDisk(t, sectors)
	k := open(t, d)
	n := uint64(0)
	check := func(want keep.State, bytes string) {
		t.Helper()
		n++
		expect(t, k, sectors, want, bytes)
		expect(t, open(t, d.Copy()), sectors, want, bytes)
		d.Crash([]int{2, 2, 2}) // nothing is under way
		d.Start()
		expect(t, open(t, d), sectors, want, bytes)
		done := byte(0)
		if want.Done {
			done = 1
		}
		note := noteOf(want.Session, want.Epoch, uint64(len(bytes)), sum(bytes), done)
		if s, _ := d.Read(int(n % 8)); s != wal.Slot(n, note) {
			t.Errorf("note %d: %q", n, s)
		}
		if !strings.HasPrefix(d.Image()[logBytes:], bytes) {
			t.Error("its bytes aren't in the file")
		}
	}
	must(t, k.Start())
	check(stateOf(0, 1, "", false), "")
	must(t, k.Append("ahead")) // of a session that is 0
	check(stateOf(0, 1, "ahead", false), "ahead")
	must(t, k.Begin(0xfedcba98))
	check(stateOf(0xfedcba98, 1, "", false), "")
	s := ""
	for _, more := range []int{3, 0, 61, 1, 63, 40} {
		must(t, k.Append(run(len(s), more)))
		s += run(len(s), more)
		check(stateOf(0xfedcba98, 1, s, false), s)
	}
	must(t, k.Start())
	check(stateOf(0xfedcba98, 2, s, false), s)
	must(t, k.Begin(5))
	check(stateOf(5, 2, "", false), "")
	must(t, k.Begin(5))
	check(stateOf(5, 2, "", false), "")
	must(t, k.Append("other bytes"))
	check(stateOf(5, 2, "other bytes", false), "other bytes")
	must(t, k.Commit())
	check(stateOf(5, 2, "other bytes", true), "other bytes")
	must(t, k.Start())
	check(stateOf(5, 3, "other bytes", true), "other bytes")
	k = open(t, d)
	must(t, k.Start())
	check(stateOf(5, 4, "other bytes", true), "other bytes")
}

// P20.2: an epoch behind the greatest one.
func TestEpochs(t *testing.T) {
	d := diskOf(t, 2, noteOf(7, math.MaxUint32-1, 3, sum("abc"), 0), 1, "abc")
	k := open(t, d)
	for _, epoch := range []uint32{math.MaxUint32, 0, 1} {
		must(t, k.Start())
		expect(t, k, 9, stateOf(7, epoch, "abc", false), "abc")
	}
	expect(t, open(t, d), 9, stateOf(7, 1, "abc", false), "abc")
}

// P20.2: behind a Commit there is just Start.
func TestDone(t *testing.T) {
	for _, bytes := range []string{"", "abc"} {
		d := newDisk(t, 10)
		k := open(t, d)
		must(t, k.Begin(3))
		must(t, k.Append(bytes))
		must(t, k.Commit())
		for range 2 {
			lasted := d.Image()
			for range 2 {
				for name, err := range map[string]api.Errno{
					"Begin": k.Begin(4), "Append": k.Append("a"), "Append of nothing": k.Append(""), "Commit": k.Commit(),
					"Append of too much": k.Append(run(0, 999)),
				} {
					if err != api.ErrState {
						t.Error(name, err)
					}
				}
			}
			if d.Image() != lasted || len(d.Dirty()) > 0 {
				t.Error("ErrState changes the disk")
			}
			epoch := k.State().Epoch
			must(t, k.Start())
			expect(t, k, 10, stateOf(3, epoch+1, bytes, true), bytes)
			k = open(t, d)
		}
		d.Crash(nil)
		if err := k.Commit(); err != api.ErrState {
			t.Error("without power", err)
		}
	}
}

// P20.2: there is just so much room; ErrFull changes nothing, and isn't the end.
func TestFull(t *testing.T) {
	d := newDisk(t, 10)
	k := open(t, d)
	must(t, k.Begin(3))
	must(t, k.Append(run(0, 100)))
	lasted := d.Image()
	for _, n := range []int{29, 128, 1 << 20} {
		if err := k.Append(run(0, n)); err != api.ErrFull {
			t.Error(n, err)
		}
	}
	if d.Image() != lasted || len(d.Dirty()) > 0 {
		t.Error("ErrFull changes the disk")
	}
	expect(t, k, 10, stateOf(3, 0, run(0, 100), false), run(0, 100))
	must(t, k.Append(run(100, 28)))
	if err := k.Append("x"); err != api.ErrFull {
		t.Error(err)
	}
	must(t, k.Append(""))
	expect(t, k, 10, stateOf(3, 0, run(0, 128), false), run(0, 128))
	must(t, k.Begin(4))
	must(t, k.Append(run(9, 128)))
	must(t, k.Commit())
	expect(t, open(t, d), 10, stateOf(4, 0, run(9, 128), true), run(9, 128))
}

// P20.2: behind the last note that can be each change is ErrFull, which changes nothing.
func TestFullLog(t *testing.T) {
	d := diskOf(t, math.MaxUint64-1, noteOf(7, 8, 3, sum("abc"), 0), 2, "abc")
	k := open(t, d)
	must(t, k.Append("de"))
	lasted := d.Image()
	for range 2 {
		for name, err := range map[string]api.Errno{
			"Start": k.Start(), "Begin": k.Begin(4), "Append": k.Append("f"), "Append of nothing": k.Append(""),
			"Append of too much": k.Append(run(0, 124)), "Commit": k.Commit(),
		} {
			if err != api.ErrFull {
				t.Error(name, err)
			}
		}
		expect(t, k, 10, stateOf(7, 8, "abcde", false), "abcde")
		expect(t, open(t, d), 10, stateOf(7, 8, "abcde", false), "abcde")
	}
	if d.Image() != lasted || len(d.Dirty()) > 0 {
		t.Error("ErrFull changes the disk")
	}
}

// P20.1: what Read and Room tell are layer 19's.
func TestRead(t *testing.T) {
	d := newDisk(t, 12)
	k := open(t, d)
	must(t, k.Append(run(0, 200)))
	for at := 0; at <= 200; at += 7 {
		for n := 0; n <= 200-at; n += 5 {
			if s, err := k.Read(at, n); s != run(at, n) || err != api.OK {
				t.Fatalf("%d, %d: %q, %d", at, n, s, err)
			}
		}
	}
	for _, x := range [][2]int{
		{-1, 1}, {0, -1}, {0, 201}, {200, 1}, {201, 0}, {math.MaxInt, math.MaxInt}, {math.MinInt, math.MinInt}, {1, math.MaxInt},
	} {
		if s, err := k.Read(x[0], x[1]); s != "" || err != api.ErrRange {
			t.Errorf("%d: %q, %d", x, s, err)
		}
	}
	d.Crash(nil)
	if s, err := k.Read(0, 200); s != "" || err != api.ErrPower {
		t.Errorf("without power: %q, %d", s, err)
	}
	if k.State() != stateOf(0, 0, run(0, 200), false) || k.Room() != 56 {
		t.Error("without power", k.State(), k.Room())
	}
	d.Start()
	must(t, k.Append("x")) // no call had an error but Read
	expect(t, k, 12, stateOf(0, 0, run(0, 200)+"x", false), run(0, 200)+"x")
}

// P1: as many bytes as a disk may have.
func TestGreatest(t *testing.T) {
	const sectors = api.MaxSectors
	s := run(0, 64*(sectors-8))
	d := newDisk(t, sectors)
	k := open(t, d)
	must(t, k.Append(s[:99]))
	must(t, k.Append(s[99:]))
	must(t, k.Commit())
	expect(t, open(t, d), sectors, stateOf(0, 0, s, true), s)
}
