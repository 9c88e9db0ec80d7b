package world_test

import (
	"math"
	"strings"
	"testing"

	"lighter/api"
	"lighter/archive"
	"lighter/dgram"
	"lighter/dos"
	"lighter/world"
)

var round = world.Step{Kind: world.Round}

// The chapter's example.
func TestExample(t *testing.T) {
	w := newWorld(t, world.Plan{Window: 1, Room: 1})
	do(t, w, round, round, round)
	if s, ok := w.Committed(); len(s) != 22 || !ok {
		t.Error(len(s), ok)
	}
}

func TestKinds(t *testing.T) {
	got := [10]int{
		world.Tick, world.Deliver, world.Lose, world.Twice, world.Turn,
		world.Spoil, world.Crash, world.Fuse, world.Inject, world.Round,
	}
	if got != [10]int{1, 2, 3, 4, 5, 6, 7, 8, 9, 10} {
		t.Error(got)
	}
}

// P29.1: a new world: the sender greets, nothing is there.
func TestNew(t *testing.T) {
	for _, room := range []int{1, 2, 16383, 16384} {
		for _, window := range []int{1, 32} {
			for _, level := range []int{0, 9} {
				p := planOf(window, filesOf(100)...)
				p.Room, p.Level = room, level
				w := newWorld(t, p)
				expect(t, w, open(1, "", 0))
				doNot(t, w,
					world.Step{Kind: world.Deliver, Way: there}, world.Step{Kind: world.Deliver, Way: back},
					world.Step{Kind: world.Lose, Way: there}, world.Step{Kind: world.Lose, Way: back})
			}
		}
	}
}

// P29.1: plans of which there is no world, and which error comes first.
func TestNewErrors(t *testing.T) {
	good := filesOf(10)[0]
	noName, noTime := good, good
	noName.Name = "a//b"
	noTime.Time = dos.Time{Year: 1979, Month: 1, Day: 1}
	great := archive.File{Name: "great", Time: day, Data: strings.Repeat("a", api.MaxData)}
	plans := []struct {
		p    world.Plan
		want api.Errno
	}{
		{world.Plan{Window: 1}, api.ErrArg},
		{world.Plan{Window: 1, Room: -1}, api.ErrArg},
		{world.Plan{Window: 1, Room: math.MinInt}, api.ErrArg},
		{world.Plan{Window: 1, Room: 16385}, api.ErrArg},
		{world.Plan{Window: 1, Room: math.MaxInt}, api.ErrArg},
		{world.Plan{Window: 1, Room: 0, Files: []archive.File{noName}}, api.ErrArg},
		{world.Plan{Window: 1, Room: 16385, Files: []archive.File{good, good}}, api.ErrArg},
		{world.Plan{Window: 1, Room: 1, Files: []archive.File{noName}}, api.ErrName},
		{world.Plan{Window: 1, Room: 1, Files: []archive.File{good, good}}, api.ErrTwice},
		{world.Plan{Window: 1, Room: 1, Files: []archive.File{noTime}}, api.ErrTime},
		{world.Plan{Window: 1, Room: 1, Files: []archive.File{great}}, api.ErrLimit},
		{world.Plan{Window: 1, Room: 1, Level: -1}, api.ErrArg},
		{world.Plan{Window: 1, Room: 1, Level: 10}, api.ErrArg},
		{world.Plan{Window: 0, Room: 1}, api.ErrArg},
		{world.Plan{Window: 33, Room: 1}, api.ErrArg},
		{world.Plan{Window: math.MinInt, Room: 1}, api.ErrArg},
		{world.Plan{Window: math.MaxInt, Room: 1}, api.ErrArg},
		{world.Plan{Window: 0, Room: 1, Files: []archive.File{noName}}, api.ErrName},
		{world.Plan{Window: 33, Room: 1, Files: []archive.File{great}}, api.ErrLimit},
	}
	for i, x := range plans {
		if w, err := world.New(x.p); w != nil || err != x.want {
			t.Error(i, w != nil, err, "not", x.want)
		}
	}
}

// P29.1: of a nil world there is nothing.
func TestNil(t *testing.T) {
	var w *world.World
	for kind := -1; kind < 12; kind++ {
		for way := -1; way < 3; way++ {
			if w.Do(world.Step{Kind: kind, Way: way}) {
				t.Error(kind, way)
			}
		}
	}
	if standOf(w) != (stand{}) {
		t.Error(standOf(w))
	}
}

// P29.1: which numbers are ways.
func TestOn(t *testing.T) {
	w := newWorld(t, planOf(1))
	for _, way := range []int{math.MinInt, -1, 0, 1, 2, math.MaxInt} {
		if got := w.On(way); got != (way == there || way == back) {
			t.Error(way, got)
		}
	}
}

// P29.4: bounds, also those that leave the ints.
func TestBound(t *testing.T) {
	for segments, want := range map[int]int{
		0:                       264,
		1:                       266,
		4096:                    8456,
		-1:                      0,
		math.MinInt:             0,
		math.MaxInt:             262,
		(math.MaxInt - 264) / 2: math.MaxInt - 1,
		math.MaxInt/2 - 131:     math.MinInt,
		math.MaxInt/2 + 1:       math.MinInt + 264,
	} {
		if got := world.Bound(segments); got != want {
			t.Error(segments, got, want)
		}
	}
}

// The plan's files are the world's own: later on the list may become another one.
func TestFilesAreKept(t *testing.T) {
	p := planOf(4, filesOf(700, 0, 300)...)
	want := archiveOf(t, p)
	given := append(filesOf(700, 0, 300), archive.File{Name: "behind"})
	p.Files = given[:3]
	w := newWorld(t, p)
	if given[3].Name != "behind" || given[0].Name != "a" {
		t.Error("what was handed in has changed")
	}
	clear(given)
	do(t, w, round, world.Step{Kind: world.Crash, Way: there})
	for range 10 {
		do(t, w, round)
	}
	if s, ok := w.Committed(); s != want || !ok {
		t.Error(len(s), ok)
	}
}

// P29.1: both sides have the plan's session and window.
func TestPlan(t *testing.T) {
	for _, window := range []int{1, 5, 32} {
		for _, session := range []uint32{0, 7, math.MaxUint32} {
			p := planOf(window, filesOf(12000)...)
			p.Session = session
			segments := segmentsOf(t, p)
			w := newWorld(t, p)
			do(t, w, round, world.Step{Kind: world.Tick})
			staged := strings.Join(segments[:window], "")
			for n := range window {
				expect(t, w, open(2, strings.Join(segments[:n], ""), 0))
				do(t, w, world.Step{Kind: world.Deliver, Way: there})
			}
			expect(t, w, open(2, staged, 0))
			doNot(t, w, world.Step{Kind: world.Deliver, Way: there})
			held := 0
			d := dgram.Datagram{Kind: dgram.Hello, Session: session, Epoch: 1}
			for n := window + 1; n < 2*window+3 && n < len(segments); n++ { // behind the next one, all but one are held
				if n < 2*window {
					held += len(segments[n])
				}
				do(t, w, inject(t, dataOf(segments, n, d)), world.Step{Kind: world.Deliver, Way: there})
				expect(t, w, open(2, staged, held))
			}
		}
	}
}
