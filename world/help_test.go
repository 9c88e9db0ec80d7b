package world_test

import (
	"math/rand"
	"strings"
	"testing"

	"lighter/api"
	"lighter/archive"
	"lighter/dgram"
	"lighter/dos"
	"lighter/world"
)

const (
	there   = 0
	back    = 1
	session = 0xfedcba98
	queue   = 64 // texts that a way has at most
)

var day = dos.Time{Year: 2026, Month: 11, Day: 20}

// filesOf so many bytes each, that no packing makes less.
func filesOf(sizes ...int) []archive.File {
	r := rand.New(rand.NewSource(1))
	var l []archive.File
	for i, n := range sizes {
		data := make([]byte, n)
		r.Read(data)
		l = append(l, archive.File{Name: string(rune('a' + i)), Time: day, Data: string(data)})
	}
	return l
}

func segmentsOf(t *testing.T, p world.Plan) []string {
	t.Helper()
	l, err := archive.Segments(p.Files, p.Level)
	if err != api.OK {
		t.Fatal(err)
	}
	return l
}

func archiveOf(t *testing.T, p world.Plan) string {
	t.Helper()
	return strings.Join(segmentsOf(t, p), "")
}

// planOf files, with room for their archive.
func planOf(window int, files ...archive.File) world.Plan {
	return world.Plan{Files: files, Level: 6, Session: session, Window: window, Room: 200}
}

func newWorld(t *testing.T, p world.Plan) *world.World {
	t.Helper()
	w, err := world.New(p)
	if w == nil || err != api.OK {
		t.Fatal("no world", err)
	}
	return w
}

// do steps that are ones.
func do(t *testing.T, w *world.World, l ...world.Step) {
	t.Helper()
	for i, s := range l {
		if !w.Do(s) {
			t.Fatalf("step %d, %+v, wasn't one", i, s)
		}
	}
}

// doNot do steps that are none.
func doNot(t *testing.T, w *world.World, l ...world.Step) {
	t.Helper()
	before := standOf(w)
	for i, s := range l {
		if w.Do(s) {
			t.Fatalf("step %d, %+v, was one", i, s)
		}
		if standOf(w) != before {
			t.Fatalf("step %d, %+v, changed something", i, s)
		}
	}
}

// stand: all that a world tells of itself.
type stand struct {
	phase             int
	staged, committed string
	done              bool
	aborted           api.Errno
	held              int
	on                [2]bool
}

func standOf(w *world.World) stand {
	s := stand{phase: w.Phase(), staged: w.Staged(), aborted: w.Aborted(), held: w.Held()}
	s.committed, s.done = w.Committed()
	s.on = [2]bool{w.On(there), w.On(back)}
	return s
}

// open: how a world stands, both sides of which are on, till something is wrong or done.
func open(phase int, staged string, held int) stand {
	return stand{phase: phase, staged: staged, held: held, on: [2]bool{true, true}}
}

// expect how a world stands.
func expect(t *testing.T, w *world.World, want stand) {
	t.Helper()
	got := standOf(w)
	if got != want {
		t.Fatalf("phase %d, staged %d, committed %d, done %t, aborted %d, held %d, on %t, not %d, %d, %d, %t, %d, %d, %t",
			got.phase, len(got.staged), len(got.committed), got.done, got.aborted, got.held, got.on,
			want.phase, len(want.staged), len(want.committed), want.done, want.aborted, want.held, want.on)
	}
}

// anyFiles, of few bytes.
func anyFiles(r *rand.Rand) []archive.File {
	l := filesOf(r.Intn(4000), 0, r.Intn(1000))
	return l[r.Intn(len(l)+1):]
}

func anyWindow(r *rand.Rand) int {
	if r.Intn(4) == 0 {
		return 32
	}
	return 1 + r.Intn(8)
}

// anyStep but Spoil and Inject; such that the archive comes over at times.
func anyStep(r *rand.Rand) world.Step {
	s := world.Step{Way: r.Intn(2)}
	switch n := r.Intn(60); {
	case n < 12:
		s.Kind = world.Tick
	case n < 44:
		s.Kind = world.Deliver
	case n < 48:
		s.Kind = world.Lose
	case n < 51:
		s.Kind = world.Twice
	case n < 54:
		s.Kind = world.Turn
	case n < 56:
		s.Kind = world.Crash
		s.Fates = []int{r.Intn(4), r.Intn(4), r.Intn(4)}[:r.Intn(4)]
	case n < 59:
		s.Kind, s.N = world.Fuse, r.Intn(20)-1
	default:
		s.Kind = world.Round
	}
	return s
}

func encode(t *testing.T, d dgram.Datagram) string {
	t.Helper()
	text, err := dgram.Encode(d)
	if err != api.OK {
		t.Fatal(err)
	}
	return text
}

// inject a datagram.
func inject(t *testing.T, d dgram.Datagram) world.Step {
	t.Helper()
	return world.Step{Kind: world.Inject, Text: encode(t, d)}
}

// anyInject: a datagram that the taker may go on by, of some archive's segments.
func anyInject(t *testing.T, r *rand.Rand, segments []string) world.Step {
	t.Helper()
	d := dgram.Datagram{Kind: dgram.Hello, Session: session, Epoch: uint32(r.Intn(3))}
	if r.Intn(8) == 0 {
		d.Session = uint32(r.Intn(2))
	}
	if r.Intn(6) > 0 {
		d = dataOf(segments, r.Intn(len(segments)), d)
	}
	switch r.Intn(30) {
	case 0:
		d.Kind = dgram.Abort
		d.Text, d.Last = "", false
	case 1:
		return world.Step{Kind: world.Inject, Text: strings.Repeat("x", r.Intn(600))}
	}
	return inject(t, d)
}

// dataOf a number, of the session and epoch of a Hello.
func dataOf(segments []string, n int, d dgram.Datagram) dgram.Datagram {
	ahead := strings.Join(segments[:n], "")
	d.Kind, d.Seq, d.At, d.Sum = dgram.Data, uint32(n), uint64(len(ahead)), sum(ahead+segments[n])
	d.Last, d.Text = n == len(segments)-1, segments[n]
	return d
}
