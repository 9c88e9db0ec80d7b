package taker_test

import (
	"math"
	"strings"
	"testing"

	"lighter/api"
	"lighter/dgram"
	"lighter/disk"
	"lighter/parse"
	"lighter/taker"
	"lighter/wal"
)

// A Hello of a new session: a Welcome, At 0.
func TestExample(t *testing.T) {
	b := newBench(t, 4, newDisk(t, 9))
	b.take(hello(), dgram.Datagram{Kind: dgram.Welcome, Session: session, Epoch: epoch})
}

// P28.1: windows that may be, and others; ahead of all errors of the disk.
func TestWindows(t *testing.T) {
	for _, window := range []int{math.MinInt, -1, 0, 1, 2, 31, 32, 33, 1 << 32, 1<<32 + 1, math.MaxInt} {
		for sectors := 8; sectors < 10; sectors++ {
			d := newDisk(t, sectors)
			want := api.OK
			if sectors < 9 {
				want = api.ErrRange
			}
			if window < 1 || window > 32 {
				want = api.ErrArg
			}
			lasted := d.Image()
			if k, err := taker.New(window, d); err != want || (k != nil) != (err == api.OK) {
				t.Error(window, sectors, err, "not", want)
			}
			if want != api.OK && d.Image() != lasted {
				t.Error("the disk has changed")
			}
		}
	}
}

// diskOf a note with some number, and no more bytes than a sector has.
func diskOf(t *testing.T, n uint64, note, bytes string) *disk.Disk {
	t.Helper()
	d := newDisk(t, 9)
	d.Write(int(n%8), wal.Slot(n, note))
	d.Write(8, bytes+strings.Repeat("z", 64-len(bytes)))
	d.Sync()
	return d
}

// noteOf so many bytes, which aren't done.
func noteOf(bytes string) string {
	n := sum(bytes)
	return strings.Repeat("\x00", 8) + string([]byte{byte(len(bytes)), 0, 0, 0, 0, 0, 0, 0}) +
		string([]byte{byte(n), byte(n >> 8), byte(n >> 16), byte(n >> 24), 0})
}

// P28.1: errors of the disk, each ahead of those that the chapter names later. But for a power that fails nothing changes.
func TestNewErrors(t *testing.T) {
	off := newDisk(t, 9)
	off.Crash(nil)
	burning, both := newDisk(t, 9), diskOf(t, 1, noteOf("junk"), "junk")
	burning.Fuse(0)
	both.Fuse(1)
	doneJunk := diskWith(t, "no archive", true)
	for _, c := range []struct {
		name string
		d    *disk.Disk
		want api.Errno
	}{
		{"none", nil, api.ErrArg},
		{"small", newDisk(t, 8), api.ErrRange},
		{"off", off, api.ErrPower},
		{"wrong note", diskOf(t, 1, "wrong", ""), api.ErrForm},
		{"wrong sum", diskOf(t, 1, noteOf("abc"), "abd"), api.ErrSum},
		{"power that fails", burning, api.ErrPower},
		{"power that fails, and no archive", both, api.ErrPower},
		{"as many notes as can be", diskOf(t, math.MaxUint64, noteOf("P"), "P"), api.ErrFull},
		{"as many notes as can be, and no archive", diskOf(t, math.MaxUint64, noteOf("junk"), "junk"), api.ErrFull},
		{"no archive", diskOf(t, 1, noteOf("junk"), "junk"), api.ErrForm},
		{"no archive, but for the last note", diskOf(t, math.MaxUint64-1, noteOf("junk"), "junk"), api.ErrForm},
		{"no archive that is done", doneJunk, api.ErrForm},
	} {
		lasted := c.d.Image()
		if k, err := taker.New(4, c.d); k != nil || err != c.want {
			t.Error(c.name, err, "not", c.want)
		}
		if c.d.Image() != lasted || len(c.d.Dirty()) > 0 {
			t.Error(c.name, "the disk has changed")
		}
		if c.d.On() == (c.want == api.ErrPower) && c.d != nil {
			t.Error(c.name, "power", c.d.On())
		}
	}
}

// P28.1: bytes in which a parser has an error are refused, others aren't; what is whole is committed.
func TestSpoiltArchive(t *testing.T) {
	s := strings.Join(segmentsOf(t, filesOf(30)), "")
	refused := 0
	for i := range len(s) {
		spoilt := []byte(s)
		spoilt[i] ^= 0x80
		p := parse.New()
		_, fault := p.Feed(string(spoilt))
		d := diskWith(t, string(spoilt), false)
		switch {
		case fault != api.OK:
			refused++
			if k, err := taker.New(4, d); k != nil || err != api.ErrForm {
				t.Error(i, err)
			}
		case p.Whole():
			newBench(t, 4, d).expectDone(string(spoilt), 0)
		default:
			newBench(t, 4, d).expect(string(spoilt), 0, api.OK)
		}
	}
	if refused < len(s)-10 {
		t.Error("refused", refused, "of", len(s))
	}
	for _, done := range []bool{false, true} {
		if k, err := taker.New(4, diskWith(t, s+"\x00", done)); k != nil || err != api.ErrForm {
			t.Error("a byte behind the end", err)
		}
	}
}

// P28.1: a taker goes on with what its disk has; each time there is one epoch more.
func TestGoesOn(t *testing.T) {
	s := strings.Join(segmentsOf(t, filesOf(300, 0, 10)), "")
	for size := range len(s) {
		d := diskWith(t, s[:size], false)
		for starts := uint32(1); starts < 3; starts++ {
			b := newBench(t, 4, d)
			b.expect(s[:size], 0, api.OK)
			if state := openKeep(t, d).State(); state.Epoch != starts || state.Session != session {
				t.Fatalf("%+v", state)
			}
			if starts == 2 {
				b.take(hello(), welcome(s[:size]))
				b.expect(s[:size], 0, api.OK)
			}
		}
	}
}

// P28.1: what is whole, but isn't done, is committed; what is done stays so.
func TestCommitsAnew(t *testing.T) {
	for _, l := range [][]int{{}, {0}, {300, 0, 10}} {
		s := strings.Join(segmentsOf(t, filesOf(l...)), "")
		for _, done := range []bool{false, true} {
			d := diskWith(t, s, done)
			for starts := uint32(1); starts < 3; starts++ {
				b := newBench(t, 4, d)
				b.expectDone(s, 0)
				if state := openKeep(t, d).State(); state.Epoch != starts || state.Session != session {
					t.Fatalf("%+v", state)
				}
			}
		}
	}
}

// P28.1: the power fails while a taker is made; then it is made anew.
func TestNewFuse(t *testing.T) {
	s := strings.Join(segmentsOf(t, filesOf(10)), "")
	for _, bytes := range []string{"", s[:50], s} {
		for fuse := 0; ; fuse++ {
			d := diskWith(t, bytes, false)
			d.Fuse(fuse)
			k, err := taker.New(4, d)
			if err == api.OK {
				want := 2 // a Write and a Sync of Start
				if bytes == s {
					want = 3 // a Write and a Sync of Commit
				}
				if fuse != want {
					t.Error(len(bytes), "power for", fuse, "not", want)
				}
				break
			}
			if k != nil || err != api.ErrPower || d.On() {
				t.Fatal(fuse, err)
			}
			d.Start()
			b := newBench(t, 4, d)
			if bytes == s {
				b.expectDone(s, 0)
			} else {
				b.expect(bytes, 0, api.OK)
			}
		}
	}
}

// P28.1: calls of nil.
func TestNil(t *testing.T) {
	var k *taker.Taker
	for _, text := range []string{"", "a", encode(t, hello()), encode(t, abort())} {
		if l, err := k.Take(text); len(l) > 0 || err != api.ErrArg {
			t.Error(l, err)
		}
	}
	if s, ok := k.Committed(); s != "" || ok {
		t.Error("committed")
	}
	if k.Staged() != "" || k.Aborted() != api.OK || k.Held() != 0 {
		t.Error("something of nil")
	}
}

// P1: no call of a zero value panics.
func TestZeroValue(t *testing.T) {
	for _, d := range []dgram.Datagram{hello(), with(hello(), 0, 3), with(dataOf(0, "", "a"), 0, 3), with(lastData(0, "", ""), 0, 0)} {
		var k taker.Taker
		for range 3 {
			k.Take(encode(t, d))
			k.Committed()
			k.Staged()
			k.Aborted()
			k.Held()
		}
	}
}
