package world_test

import (
	"math/rand"
	"strings"
	"testing"

	"lighter/api"
	"lighter/archive"
	"lighter/dgram"
	"lighter/extract"
	"lighter/world"
)

const (
	finished = 3
	aborted  = 4
)

// watch a world: what holds behind whatever steps.
type watch struct {
	t         *testing.T
	w         *world.World
	plan      world.Plan
	archive   string // just this may come over
	committed bool
}

func newWatch(t *testing.T, p world.Plan) *watch {
	t.Helper()
	return &watch{t: t, w: newWorld(t, p), plan: p, archive: archiveOf(t, p)}
}

func (x *watch) do(s world.Step) {
	x.t.Helper()
	x.w.Do(s)
	if !strings.HasPrefix(x.archive, x.w.Staged()) {
		x.t.Fatal("staged is no beginning of the archive")
	}
	s1, ok := x.w.Committed()
	if ok && s1 != x.archive || !ok && (s1 != "" || x.committed) {
		x.t.Fatal("committed is another archive, or not any more")
	}
	x.committed = ok
	if why := x.w.Aborted(); why != api.OK && (why != api.ErrFull || len(x.archive) <= api.Sector*x.plan.Room) {
		x.t.Fatal("aborted by", why)
	}
	if x.w.Held() > x.plan.Window*api.Segment {
		x.t.Fatal("held", x.w.Held())
	}
}

// rounds, as many as the bound tells; how many were needed?
func (x *watch) rounds() int {
	x.t.Helper()
	needed := 0
	for n := range world.Bound(len(segmentsOf(x.t, x.plan))) {
		x.do(round)
		if x.w.Phase() != finished {
			needed = n + 2
		}
	}
	return needed
}

// atEnd: the archive is committed, and the sender knows.
func (x *watch) atEnd() {
	x.t.Helper()
	if !x.committed || x.w.Phase() != finished {
		x.t.Fatal("not in the end: committed", x.committed, "phase", x.w.Phase())
	}
	expect(x.t, x.w, stand{
		phase: finished, staged: x.archive, committed: x.archive, done: true,
		held: x.w.Held(), on: [2]bool{true, true},
	})
}

// P29.2, P29.4: random steps, and rounds behind them, where there is room.
func TestInTheEnd(t *testing.T) {
	r := rand.New(rand.NewSource(5))
	most := 0
	for range 400 {
		p := planOf(anyWindow(r), anyFiles(r)...)
		p.Level, p.Session = r.Intn(10), uint32(r.Intn(2))*r.Uint32()
		p.Room = (len(archiveOf(t, p)) + 63) / 64 // just enough
		x := newWatch(t, p)
		for range r.Intn(500) {
			x.do(anyStep(r))
		}
		most = max(most, x.rounds())
		x.atEnd()
	}
	if most < 5 {
		t.Error("too easy:", most)
	}
}

// P29.2: where there is no room, both abort, and nothing is committed.
func TestWithoutRoom(t *testing.T) {
	r := rand.New(rand.NewSource(6))
	for range 300 {
		p := planOf(anyWindow(r), filesOf(r.Intn(4000), r.Intn(1000))...)
		p.Room = (len(archiveOf(t, p)) - 1) / 64 // just too few
		if r.Intn(3) == 0 {
			p.Room = 1 + r.Intn(p.Room)
		}
		x := newWatch(t, p)
		for range r.Intn(300) {
			x.do(anyStep(r))
		}
		x.do(crashThere)
		x.rounds()
		if x.committed || x.w.Aborted() != api.ErrFull || x.w.Phase() != aborted {
			t.Fatal(x.committed, x.w.Aborted(), x.w.Phase())
		}
	}
}

// P29.4: the sender's timer waits as long as it can, in whichever phase, and the fuse burns at any write.
func TestLongWaits(t *testing.T) {
	most := 0
	for _, window := range []int{1, 3, 32} {
		p := planOf(window, filesOf(2000)...)
		for phase := range 3 { // greeting; sending all that is first; some way on
			for n := range 122 {
				x := newWatch(t, p)
				for range phase {
					x.do(round)
				}
				for range 127 + n%61 { // so that the timer went off some rounds ago
					x.do(tick)
					for x.w.Do(world.Step{Kind: world.Lose, Way: there}) {
					}
				}
				if n%3 == 0 {
					x.do(crashBack)
				}
				x.do(world.Step{Kind: world.Fuse, Way: back, N: n%20 - 1})
				most = max(most, x.rounds())
				x.atEnd()
			}
		}
	}
	if most < 128 {
		t.Error("too easy:", most)
	}
}

// P29.4: both ways are full of what came late.
func TestLateTexts(t *testing.T) {
	r := rand.New(rand.NewSource(7))
	for range 100 {
		x := newWatch(t, planOf(anyWindow(r), filesOf(6000)...))
		for range 200 {
			switch n := r.Intn(20); {
			case n == 0:
				x.do(world.Step{Kind: world.Crash, Way: r.Intn(2)})
			case n < 6:
				x.do(tick)
			case n < 12:
				x.do(world.Step{Kind: world.Twice, Way: r.Intn(2)})
			case n < 16:
				x.do(world.Step{Kind: world.Turn, Way: r.Intn(2)})
			default:
				x.do(world.Step{Kind: world.Deliver, Way: r.Intn(2)})
			}
		}
		x.rounds()
		x.atEnd()
	}
}

// P29.4: of an archive with as many bytes as may be.
func TestGreatArchive(t *testing.T) {
	p := planOf(32, filesOf(api.MaxData-436)...)
	p.Room, p.Level = 16384, 0
	if n := len(archiveOf(t, p)); n != api.MaxData {
		t.Fatal(n)
	}
	w := newWorld(t, p)
	for range 10 {
		do(t, w, round)
	}
	do(t, w, crashBack, crashThere)
	for range world.Bound(len(segmentsOf(t, p))) {
		do(t, w, round)
	}
	if s, ok := w.Committed(); s != archiveOf(t, p) || !ok || w.Phase() != finished {
		t.Error(len(s), ok, w.Phase())
	}
}

// P29.3: whatever steps: what is committed is an archive, and stays.
func TestWhateverComes(t *testing.T) {
	r := rand.New(rand.NewSource(8))
	own, others, none := 0, 0, 0
	for range 600 {
		p := planOf(1+r.Intn(8), anyFiles(r)...)
		other := segmentsOf(t, planOf(1, filesOf(r.Intn(600))...))
		if r.Intn(4) == 0 {
			other = other[1:] // no archive
		}
		w := newWorld(t, p)
		was := ""
		for range 150 {
			s := anyStep(r)
			switch n := r.Intn(10); {
			case n < 3:
				s = anyInject(t, r, other)
			case n < 4:
				s = world.Step{Kind: world.Spoil, Way: r.Intn(2), N: r.Intn(300), Bits: r.Uint32()}
			}
			w.Do(s)
			if w.Held() > p.Window*api.Segment {
				t.Fatal("held", w.Held())
			}
			got, ok := w.Committed()
			if !ok && was != "" || was != "" && got != was {
				t.Fatal("what was committed isn't any more")
			}
			if _, err := extract.All(got); ok && err != api.OK {
				t.Fatal("what is committed is no archive", err)
			}
			was = got
		}
		switch was {
		case "":
			none++
		case archiveOf(t, p):
			own++
		default:
			others++
		}
	}
	if min(own, others, none) < 20 {
		t.Error(own, others, none)
	}
}

// P29.3: as many bytes are held as a window may have.
func TestHeld(t *testing.T) {
	for _, window := range []int{1, 2, 32} {
		w := newWorld(t, planOf(window))
		d := dgram.Datagram{Session: session}
		first := dgram.Datagram{Kind: dgram.Data, Session: session, Epoch: 1, Text: ""}
		do(t, w, round, inject(t, first), deliverThere)
		if w.Aborted() != api.OK {
			t.Fatal(w.Aborted())
		}
		d.Kind, d.Epoch, d.Text = dgram.Data, 1, strings.Repeat("a", api.Segment)
		for n := uint32(40); n > 1; n-- {
			d.Seq = n
			do(t, w, inject(t, d), deliverThere, inject(t, d), deliverThere)
		}
		if w.Held() != (window-1)*api.Segment {
			t.Error(window, w.Held())
		}
	}
}

// P29.3: a text that is spoilt is as one that is lost.
func TestSpoiltIsLost(t *testing.T) {
	r := rand.New(rand.NewSource(9))
	spoilt := 0
	for range 300 {
		p := planOf(anyWindow(r), anyFiles(r)...)
		one, other := newWorld(t, p), newWorld(t, p)
		for range r.Intn(200) {
			s := anyStep(r)
			if one.Do(s) != other.Do(s) {
				t.Fatalf("%+v", s)
			}
			if r.Intn(4) == 0 {
				way := r.Intn(2)
				before := standOf(one)
				spoil := world.Step{Kind: world.Spoil, Way: way, N: r.Intn(304), Bits: r.Uint32() | 1}
				there := one.Do(spoil)
				if there != other.Do(world.Step{Kind: world.Lose, Way: way}) {
					t.Fatal("is there something?", there)
				}
				if there {
					spoilt++
					do(t, one, world.Step{Kind: world.Deliver, Way: way})
					expect(t, one, before)
				}
			}
			expect(t, one, standOf(other))
		}
	}
	if spoilt < 1000 {
		t.Error(spoilt)
	}
}

// P29.2: what is committed hangs on the files and the level alone.
func TestEachLevel(t *testing.T) {
	text := strings.Repeat("some text, and again ", 40)
	for level := range 10 {
		p := planOf(4, archive.File{Name: "a", Time: day, Data: text}, archive.File{Name: "b", Time: day, Data: text})
		p.Level = level
		x := newWatch(t, p)
		x.rounds()
		x.atEnd()
	}
}
