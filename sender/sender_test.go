package sender_test

import (
	"math"
	"slices"
	"strings"
	"testing"

	"lighter/api"
	"lighter/archive"
	"lighter/dgram"
	"lighter/disk"
	"lighter/keep"
	"lighter/sender"
	"lighter/wal"
)

// A new sender's first Tick: one Hello.
func TestExample(t *testing.T) {
	p := newPair(t, filesOf(1000), 4)
	p.tick(p.hello())
}

// P27.1: the phases' numbers.
func TestPhases(t *testing.T) {
	if sender.Greeting != 1 || sender.Sending != 2 || sender.Finished != 3 || sender.Aborted != 4 {
		t.Error("other numbers")
	}
}

// P27.1: a new sender.
func TestNew(t *testing.T) {
	for _, l := range [][]archive.File{nil, filesOf(0), filesOf(1, 0, 999)} {
		for _, window := range []int{1, 2, 31, 32} {
			p := newPair(t, l, window)
			p.expect(sender.Greeting, 0)
			if p.s.Epoch() != 1 {
				t.Error("epoch", p.s.Epoch())
			}
		}
	}
}

// dataOf so many bytes that the archive of just one file of the level 0 has so many.
func dataOf(t *testing.T, size int) []archive.File {
	t.Helper()
	const headers = 31 + 16 + 47 + 22
	parts := (size - headers + 16383) / 16384
	l := []archive.File{{Name: "a", Time: day, Data: strings.Repeat("a", size-headers-5*parts)}}
	s, err := archive.Make(l, 0)
	if len(s) != size || err != api.OK {
		t.Fatal(len(s), err)
	}
	return l
}

// P27.1: errors of what is handed in; each ahead of those that the chapter names later; the disk stays as it is.
func TestNewErrors(t *testing.T) {
	good := filesOf(10)
	badName := []archive.File{{Name: "a/", Time: day}}
	twice := []archive.File{{Name: "a", Time: day}, {Name: "a", Time: day}}
	badTime := []archive.File{{Name: "a"}}
	least, greatest := dataOf(t, api.MaxData), dataOf(t, api.MaxData+1)
	for _, c := range []struct {
		name   string
		l      []archive.File
		level  int
		window int
		want   api.Errno
	}{
		{"level -1", badName, -1, 0, api.ErrArg},
		{"level 10", badName, 10, 1, api.ErrArg},
		{"name", badName, 6, 0, api.ErrName},
		{"twice", twice, 6, 0, api.ErrTwice},
		{"time", badTime, 6, 33, api.ErrTime},
		{"one byte too many", greatest, 0, 0, api.ErrLimit},
		{"far too many", []archive.File{{Name: "a", Time: day, Data: strings.Repeat("a", 3<<20)}}, 0, 1, api.ErrLimit},
		{"too many by their headers", append(slices.Clone(least), archive.File{Name: "b", Time: day}), 0, 1, api.ErrLimit},
		{"window 0", good, 6, 0, api.ErrArg},
		{"window 33", good, 6, 33, api.ErrArg},
		{"window -1", good, 6, -1, api.ErrArg},
		{"least window", good, 6, math.MinInt, api.ErrArg},
		{"greatest window", good, 6, math.MaxInt, api.ErrArg},
		{"window 2^32 + 1", good, 6, 1<<32 + 1, api.ErrArg},
		{"as many bytes as may be", least, 0, 1, api.OK},
		{"many bytes that become few", []archive.File{{Name: "a", Time: day, Data: strings.Repeat("a", 3<<20)}}, 6, 1, api.OK},
	} {
		d := newDisk(t, 9)
		lasted := d.Image()
		s, err := sender.New(c.l, c.level, session, c.window, d)
		if err != c.want || (s != nil) != (err == api.OK) {
			t.Error(c.name, err, "not", c.want)
		}
		if err != api.OK && (d.Image() != lasted || len(d.Dirty()) > 0) {
			t.Error(c.name, "the disk has changed")
		}
		if c.want != api.OK {
			if s, err := sender.New(c.l, c.level, session, c.window, nil); s != nil || err != c.want {
				t.Error(c.name, "without a disk", err)
			}
		}
	}
}

// P27.1: errors of the disk.
func TestDiskErrors(t *testing.T) {
	small, wrong := newDisk(t, 8), newDisk(t, 9)
	wrong.Write(1, wal.Slot(1, "wrong"))
	off := newDisk(t, 9)
	off.Crash(nil)
	done := newDisk(t, 9)
	k := openKeep(t, done)
	must(t, k.Begin(session+1))
	must(t, k.Commit())
	full := newDisk(t, 9)
	full.Write(7, wal.Slot(math.MaxUint64, strings.Repeat("\x00", 21)))
	for _, c := range []struct {
		name string
		d    *disk.Disk
		want api.Errno
	}{
		{"none", nil, api.ErrArg},
		{"small", small, api.ErrRange},
		{"wrong", wrong, api.ErrForm},
		{"off", off, api.ErrPower},
		{"done in another session", done, api.ErrState},
		{"as many notes as can be", full, api.ErrFull},
	} {
		lasted := c.d.Image()
		if s, err := sender.New(filesOf(10), 6, session, 4, c.d); s != nil || err != c.want {
			t.Error(c.name, err, "not", c.want)
		}
		if c.d.Image() != lasted {
			t.Error(c.name, "the disk has changed")
		}
	}
	if s, err := sender.New(filesOf(10), 6, 0, 4, full); s != nil || err != api.ErrFull {
		t.Error("Start of the same session", err)
	}
	if s, err := sender.New(filesOf(10), 6, session+1, 4, done); s == nil || err != api.OK {
		t.Error("done in the same session", err)
	}
}

// P27.1: the session that the disk has goes on, another one begins; each time there is one epoch more.
func TestSessions(t *testing.T) {
	d := newDisk(t, 10)
	k := openKeep(t, d)
	must(t, k.Begin(7))
	must(t, k.Append("abc"))
	want := keep.State{Session: 7, Epoch: 0, Size: 3, Sum: sum("abc")}
	for _, session := range []uint32{7, 7, 8, 8, 0, 0, math.MaxUint32, 7} {
		if session != want.Session {
			want = keep.State{Session: session, Epoch: want.Epoch}
		}
		want.Epoch++
		s, err := sender.New(filesOf(10), 6, session, 4, d)
		must(t, err)
		if got := openKeep(t, d).State(); got != want || s.Epoch() != want.Epoch {
			t.Error(session, got, s.Epoch(), "not", want)
		}
		told := s.Tick()
		expectTold(t, told, []dgram.Datagram{{Kind: dgram.Hello, Session: session, Epoch: want.Epoch}})
	}
}

// P27.1: epochs go round.
func TestEpochGoesRound(t *testing.T) {
	d := newDisk(t, 9)
	d.Write(3, wal.Slot(3, "\x07\x00\x00\x00\xff\xff\xff\xff"+strings.Repeat("\x00", 13)))
	d.Sync()
	for _, want := range []uint32{0, 1} {
		s, err := sender.New(nil, 6, 7, 4, d)
		must(t, err)
		if s.Epoch() != want {
			t.Error(s.Epoch(), want)
		}
	}
}

// P27.1: the power fails while a sender is made; then it is made anew.
func TestFuse(t *testing.T) {
	for _, session := range []uint32{0, 5} {
		for fuse := 0; ; fuse++ {
			d := newDisk(t, 9)
			d.Fuse(fuse)
			s, err := sender.New(filesOf(10), 6, session, 4, d)
			if err == api.OK {
				// a Begin of another session than 0, and a Start: a Write each, and a Sync that is no Write
				if most := map[uint32]int{0: 2, 5: 3}[session]; fuse != most {
					t.Error("power for", fuse, "not", most)
				}
				break
			}
			if s != nil || err != api.ErrPower || d.On() {
				t.Fatal(fuse, err)
			}
			d.Start()
			s, err = sender.New(filesOf(10), 6, session, 4, d)
			must(t, err)
			if state := openKeep(t, d).State(); state.Session != session || s.Epoch() != 1 {
				t.Error(fuse, state, s.Epoch())
			}
		}
	}
}

// P27.1, P27.2, P27.3: calls of nil.
func TestNil(t *testing.T) {
	var s *sender.Sender
	s.Take("")
	s.Take(strings.Repeat("a", 38))
	if s.Tick() != nil || s.Phase() != 0 || s.Base() != 0 || s.Epoch() != 0 {
		t.Error("something of nil")
	}
}

// P1: no call of a zero value panics.
func TestZeroValue(t *testing.T) {
	for kind := dgram.Hello; kind <= dgram.Abort; kind++ {
		for _, last := range []bool{false, true} {
			var s sender.Sender
			text, _ := dgram.Encode(dgram.Datagram{Kind: kind, Last: last})
			for range 3 {
				s.Take(text)
				s.Tick()
				s.Phase()
				s.Base()
				s.Epoch()
			}
		}
	}
}

// What is handed in stays as it is, and isn't kept; a list that is told is new each time.
func TestShared(t *testing.T) {
	l := filesOf(700, 0, 10)
	had := slices.Clone(l)
	p := newPair(t, l, 4)
	if !slices.Equal(l, had) {
		t.Error("the files have changed")
	}
	clear(l)
	p.take(p.welcome(0))
	for i := range 2 {
		told := p.s.Tick()
		if i == 0 {
			expectTold(t, told, p.datas(0, 1, 2, 3))
		}
		clear(told)
	}
	p.tick(p.datas(0, 1, 2, 3)...)
}
