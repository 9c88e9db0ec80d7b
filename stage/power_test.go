package stage_test

import (
	"math/rand"
	"strings"
	"testing"

	"lighter/api"
	"lighter/disk"
	"lighter/stage"
)

// anyBytes: at most so many.
func anyBytes(r *rand.Rand, most int) string {
	s := make([]byte, r.Intn(most+1))
	r.Read(s)
	return string(s)
}

func anyFates(r *rand.Rand) []int {
	l := make([]int, r.Intn(9))
	for i := range l {
		l[i] = r.Intn(4)
	}
	return l
}

// P19.3: bytes that were synced, more behind them in the same sector, and each fate of it.
func TestEachFate(t *testing.T) {
	for size := range 65 {
		for fate := range 4 {
			for _, n := range []int{1, 31, 64 - size, 65} {
				d := newDisk(t, 2+2)
				f := newFile(t, d, 1, 3, 0)
				add(t, f, run(0, size))
				f.Sync()
				add(t, f, strings.Repeat("\xff", n))
				d.Crash([]int{fate, fate})
				d.Start()
				expect(t, newFile(t, d, 1, 3, size), run(0, size))
			}
		}
	}
}

// safe: a file under random calls, and what of it must last.
type safe struct {
	file *stage.File
	all  string // its bytes
	last int    // how many of them were there at the last Sync, and weren't cut since
}

func (s *safe) step(t *testing.T, r *rand.Rand) {
	t.Helper()
	switch r.Intn(5) {
	case 0:
		n := r.Intn(len(s.all) + 1)
		if err := s.file.Cut(n); err != api.OK {
			t.Fatal("Cut", err)
		}
		s.all = s.all[:n]
		s.last = min(s.last, n)
	case 1:
		if err := s.file.Sync(); err != api.OK {
			t.Fatal("Sync", err)
		}
		s.last = len(s.all)
	default:
		more := anyBytes(r, s.file.Room())
		more = more[:len(more)/(1+r.Intn(9))]
		add(t, s.file, more)
		s.all += more
	}
}

// P19.2, P19.3: any Appends, Cuts and Syncs; the power fails with any fates, or at any Write.
func TestAnyCalls(t *testing.T) {
	r := rand.New(rand.NewSource(3))
	for range 3000 {
		at, sectors := r.Intn(3), 1+r.Intn(5)
		d := newDisk(t, at+sectors+r.Intn(2))
		s := safe{file: newFile(t, d, at, sectors, 0)}
		for range 2 + r.Intn(5) {
			for range r.Intn(12) {
				s.step(t, r)
				expect(t, s.file, s.all)
			}
			if r.Intn(3) == 0 {
				burn(t, d, r, &s)
			} else {
				d.Crash(anyFates(r))
			}
			d.Start()
			s.all = s.all[:s.last]
			s.file = newFile(t, d, at, sectors, s.last)
			expect(t, s.file, s.all)
		}
	}
}

// burn a disk's fuse at an Append, or at the Sync behind it.
func burn(t *testing.T, d *disk.Disk, r *rand.Rand, s *safe) {
	t.Helper()
	d.Fuse(r.Intn(4))
	size, more := s.file.Len(), anyBytes(r, s.file.Room())
	err := s.file.Append(more)
	if err == api.OK {
		size += len(more)
		err = s.file.Sync()
	}
	if s.file.Len() != size {
		t.Error("not as it was", s.file.Len(), size)
	}
	switch {
	case err == api.OK:
		s.all += more
		s.last = len(s.all)
		d.Crash(anyFates(r))
	case err != api.ErrPower || d.On():
		t.Error(err, d.On())
	}
}
