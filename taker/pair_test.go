package taker_test

import (
	"math/rand"
	"strings"
	"testing"

	"lighter/api"
	"lighter/archive"
	"lighter/disk"
	"lighter/sender"
	"lighter/taker"
)

// both sides, and what is on its way.
type both struct {
	t           *testing.T
	files       []archive.File
	window      int
	disks       [2]*disk.Disk // the sender's, the taker's
	s           *sender.Sender
	k           *taker.Taker
	there, back []string
	archive     string
	committed   bool
}

func newBoth(t *testing.T, files []archive.File, window, room int) *both {
	t.Helper()
	w := &both{t: t, files: files, window: window, disks: [2]*disk.Disk{newDisk(t, 9), newDisk(t, 8+room)}}
	w.archive = strings.Join(segmentsOf(t, files), "")
	w.start(0)
	w.start(1)
	return w
}

// start a side whose power failed.
func (w *both) start(side int) {
	w.t.Helper()
	d := w.disks[side]
	d.Start()
	err := api.OK
	if side == 0 {
		w.s, err = sender.New(w.files, 6, session, w.window, d)
	} else {
		w.k, err = taker.New(w.window, d)
	}
	if err == api.ErrPower {
		return
	}
	must(w.t, err)
}

func (w *both) tick() {
	if w.disks[0].On() {
		w.there = append(w.there, w.s.Tick()...)
	}
}

// deliver what comes first on a way.
func (w *both) deliver(way *[]string) {
	w.t.Helper()
	if len(*way) == 0 {
		return
	}
	text := (*way)[0]
	*way = (*way)[1:]
	switch {
	case way == &w.back && w.disks[0].On():
		w.s.Take(text)
	case way == &w.there && w.disks[1].On():
		l, err := w.k.Take(text)
		if err != api.OK && (err != api.ErrPower || w.disks[1].On()) {
			w.t.Fatal(err)
		}
		w.back = append(w.back, l...)
	}
}

// round without a loss.
func (w *both) round() {
	for side, d := range w.disks {
		if !d.On() {
			w.start(side)
		}
	}
	for len(w.there)+len(w.back) > 0 {
		for len(w.there) > 0 {
			w.deliver(&w.there)
		}
		for len(w.back) > 0 {
			w.deliver(&w.back)
		}
	}
	w.tick()
}

// step of any kind.
func (w *both) step(r *rand.Rand) {
	way := &w.there
	if r.Intn(2) == 0 {
		way = &w.back
	}
	side := r.Intn(2)
	switch n := r.Intn(40); {
	case n < 8:
		w.tick()
	case n < 28:
		w.deliver(way)
	case n < 33 && len(*way) > 0:
		*way = (*way)[1:]
	case n < 35 && len(*way) > 0:
		*way = append(*way, (*way)[0])
	case n < 37 && len(*way) > 0:
		*way = append((*way)[1:], (*way)[0])
	case n == 37:
		w.disks[side].Crash([]int{r.Intn(4), r.Intn(4), r.Intn(4), r.Intn(4), r.Intn(4)})
		w.start(side)
	case n == 38:
		w.disks[side].Fuse(r.Intn(12))
	case !w.disks[side].On():
		w.start(side)
	}
}

// check what holds behind each step.
func (w *both) check(full bool) {
	w.t.Helper()
	if !strings.HasPrefix(w.archive, w.k.Staged()) {
		w.t.Fatal("staged is no beginning of the archive")
	}
	s, ok := w.k.Committed()
	if ok && s != w.archive || w.committed && !ok {
		w.t.Fatal("committed is another archive, or not any more")
	}
	w.committed = ok
	if why := w.k.Aborted(); why != api.OK && !(full && why == api.ErrFull) {
		w.t.Fatal("aborted by", why)
	}
	if w.k.Held() > w.window*api.Segment {
		w.t.Fatal("held", w.k.Held())
	}
}

// P27, P28: whatever is lost, comes twice or late, and whichever side's power fails:
// what is committed is the archive, and behind rounds without a loss it is.
func TestBothSides(t *testing.T) {
	r := rand.New(rand.NewSource(4))
	for range 300 {
		files := filesOf(r.Intn(6000), 0, r.Intn(1000))[r.Intn(4):]
		window := 1 + r.Intn(8)
		if r.Intn(4) == 0 {
			window = 32
		}
		w := newBoth(t, files, window, 200)
		for range r.Intn(400) {
			w.step(r)
			w.check(false)
		}
		for range 4*64 + 2*len(segmentsOf(t, files)) + 8 {
			w.round()
			w.check(false)
		}
		if !w.committed || w.s.Phase() != sender.Finished || w.s.Base() != len(w.archive) {
			t.Fatal("not in the end", w.s.Phase(), w.s.Base())
		}
	}
}

// P27, P28: an archive for which there is no room: both abort, and nothing is committed.
func TestBothWithoutRoom(t *testing.T) {
	for room := 1; room < 8; room++ {
		w := newBoth(t, filesOf(500), 4, room)
		if len(w.archive) <= 64*room {
			t.Fatal("there is room")
		}
		for range 50 {
			w.round()
			w.check(true)
		}
		if w.committed || w.k.Aborted() != api.ErrFull || w.s.Phase() != sender.Aborted {
			t.Error(room, w.k.Aborted(), w.s.Phase())
		}
	}
}

// P27, P28: without files, three rounds are enough.
func TestBothWithoutFiles(t *testing.T) {
	w := newBoth(t, nil, 1, 1)
	for range 3 {
		w.round()
	}
	w.check(false)
	if !w.committed || len(w.archive) != 22 || w.s.Phase() != sender.Finished {
		t.Error(w.committed, len(w.archive), w.s.Phase())
	}
}
