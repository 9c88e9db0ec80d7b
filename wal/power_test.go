package wal_test

import (
	"math/rand"
	"strconv"
	"strings"
	"testing"

	"lighter/api"
	"lighter/disk"
	"lighter/wal"
)

// someNote of some bytes, none of them alike another one's.
func someNote(r *rand.Rand, n uint64) string {
	s := strconv.FormatUint(n, 36) + strings.Repeat("\x00\xff", r.Intn(9))
	return s[:min(len(s), wal.Most)]
}

// crashed: a disk on which the power failed while a slot was written, and is on again.
func crashed(t *testing.T, d *disk.Disk, i int, slot string, fate int) *disk.Disk {
	t.Helper()
	d = d.Copy()
	if err := d.Write(i, slot); err != api.OK {
		t.Fatal(err)
	}
	d.Crash([]int{fate})
	d.Start()
	return d
}

// P18.3: the power fails behind the Write of each Put, with each fate.
func TestEachFate(t *testing.T) {
	r := rand.New(rand.NewSource(1))
	for sectors := 2; sectors < 6; sectors++ {
		d := newDisk(t, sectors+2)
		l := open(t, d, 1, sectors)
		for n := uint64(1); n < 25; n++ {
			old, oldNumber := l.Note()
			s := someNote(r, n)
			i := 1 + int(n%uint64(sectors))
			for fate := range 4 {
				after := open(t, crashed(t, d, i, wal.Slot(n, s), fate), 1, sectors)
				if fate == 1 {
					expect(t, after, s, n)
				} else {
					expect(t, after, old, oldNumber)
				}
				checkGoesOn(t, after)
			}
			put(t, l, s)
		}
	}
}

// checkGoesOn: behind what counts there is the next note.
func checkGoesOn(t *testing.T, l *wal.Log) {
	t.Helper()
	_, n := l.Note()
	put(t, l, "next")
	expect(t, l, "next", n+1)
}

// P18.3: a torn sector whose second half lasted as the new one's would: number and note stand in the first half.
func TestTornAlike(t *testing.T) {
	d := diskOf(t, wal.Slot(4, "old"), wal.Slot(5, "last"))
	slot := wal.Slot(6, "new")
	first, _ := d.Read(0)
	d.Write(0, first[:32]+slot[32:])
	d.Sync()
	expect(t, open(t, d, 0, 2), "last", 5)
	expect(t, open(t, crashed(t, d, 0, slot, 2), 0, 2), "new", 6)
	expect(t, open(t, crashed(t, d, 0, slot, 3), 0, 2), "last", 5)
}

// P18.3: any Puts and failures, over and over.
func TestAnyFailures(t *testing.T) {
	r := rand.New(rand.NewSource(2))
	for range 300 {
		sectors := 2 + r.Intn(4)
		d := newDisk(t, sectors+r.Intn(3))
		at := r.Intn(d.Sectors() - sectors + 1)
		l := open(t, d, at, sectors)
		note, number := "", uint64(0)
		for range 40 {
			s := someNote(r, uint64(r.Intn(1000)))
			mayBe := false
			switch r.Intn(4) {
			case 0: // the fuse is at its end ahead of the Write, or of the Sync
				d.Fuse(r.Intn(2))
				if err := l.Put(s); err != api.ErrPower {
					t.Fatal(err)
				}
				d.Start()
			case 1: // the Write was under way
				i := at + int((number+1)%uint64(sectors))
				d = crashed(t, d, i, wal.Slot(number+1, s), r.Intn(4))
				mayBe = true
			case 2: // nothing was
				d.Crash([]int{1, 2, 3})
				d.Start()
			default:
				put(t, l, s)
				note, number = s, number+1
				continue
			}
			l = open(t, d, at, sectors)
			got, n := l.Note()
			if mayBe && got == s && n == number+1 {
				note, number = s, n
			}
			expect(t, l, note, number)
		}
	}
}
