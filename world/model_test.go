package world_test

import (
	"hash/crc32"
	"math/rand"
	"testing"

	"lighter/api"
	"lighter/disk"
	"lighter/sender"
	"lighter/taker"
	"lighter/world"
)

func sum(s string) uint32 { return crc32.ChecksumIEEE([]byte(s)) }

// model of a world by the document's words: both sides, and a list for each way.
type model struct {
	t     *testing.T
	plan  world.Plan
	disks [2]*disk.Disk
	s     *sender.Sender
	k     *taker.Taker
	ways  [2][]string
}

func newModel(t *testing.T, p world.Plan) *model {
	t.Helper()
	m := &model{t: t, plan: p}
	for side, n := range []int{9, 8 + p.Room} {
		d, err := disk.New(n)
		if err != api.OK {
			t.Fatal(err)
		}
		m.disks[side] = d
		m.anew(side)
	}
	return m
}

func (m *model) anew(side int) {
	m.t.Helper()
	d := m.disks[side]
	d.Start()
	var err api.Errno
	if side == there {
		m.s, err = sender.New(m.plan.Files, m.plan.Level, m.plan.Session, m.plan.Window, d)
	} else {
		m.k, err = taker.New(m.plan.Window, d)
	}
	if err != api.OK {
		m.t.Fatal("not made anew", side, err)
	}
}

func (m *model) put(way int, texts ...string) bool {
	for i, text := range texts {
		if len(m.ways[way]) == queue {
			return i > 0
		}
		m.ways[way] = append(m.ways[way], text)
	}
	return true
}

func (m *model) take(way int) string {
	text := m.ways[way][0]
	m.ways[way] = append([]string(nil), m.ways[way][1:]...)
	return text
}

func (m *model) tick() { m.put(there, m.s.Tick()...) }

func (m *model) deliver(way int) {
	text := m.take(way)
	switch {
	case way == there && m.disks[back].On():
		l, err := m.k.Take(text)
		if (err == api.ErrPower) == m.disks[back].On() {
			m.t.Fatal("the taker's error is", err)
		}
		m.put(back, l...)
	case way == back && m.disks[there].On():
		m.s.Take(text)
	}
}

func (m *model) flow() {
	for len(m.ways[there])+len(m.ways[back]) > 0 {
		for len(m.ways[there]) > 0 {
			m.deliver(there)
		}
		for len(m.ways[back]) > 0 {
			m.deliver(back)
		}
	}
}

func (m *model) round() {
	for side, d := range m.disks {
		if !d.On() {
			m.anew(side)
		}
	}
	m.flow()
	m.tick()
	m.flow()
}

// do a step: true, where it was one.
func (m *model) do(s world.Step) bool {
	m.t.Helper()
	if s.Way != there && s.Way != back {
		return false
	}
	switch s.Kind {
	case world.Tick:
		if !m.disks[there].On() {
			return false
		}
		m.tick()
	case world.Deliver, world.Lose, world.Twice, world.Turn, world.Spoil:
		return len(m.ways[s.Way]) > 0 && m.onWay(s)
	case world.Crash:
		m.disks[s.Way].Crash(s.Fates)
		m.anew(s.Way)
	case world.Fuse:
		if !m.disks[s.Way].On() {
			return false
		}
		m.disks[s.Way].Fuse(s.N)
	case world.Inject:
		return m.put(there, s.Text)
	case world.Round:
		m.round()
	default:
		return false
	}
	return true
}

// onWay: what is done with the text that comes first.
func (m *model) onWay(s world.Step) bool {
	switch s.Kind {
	case world.Deliver:
		m.deliver(s.Way)
	case world.Lose:
		m.take(s.Way)
	case world.Twice:
		return m.put(s.Way, m.ways[s.Way][0])
	case world.Turn:
		m.put(s.Way, m.take(s.Way))
	case world.Spoil:
		text := []byte(m.ways[s.Way][0])
		for k := range 32 {
			if at := s.N + k; s.Bits>>k&1 == 1 && at >= 0 && at/8 < len(text) {
				text[at/8] ^= 1 << (at % 8)
			}
		}
		m.ways[s.Way][0] = string(text)
	}
	return true
}

func (m *model) stand() stand {
	s := stand{staged: m.k.Staged(), aborted: m.k.Aborted(), held: m.k.Held()}
	s.on = [2]bool{m.disks[there].On(), m.disks[back].On()}
	s.committed, s.done = m.k.Committed()
	if s.on[there] {
		s.phase = m.s.Phase()
	}
	return s
}

// anyKind of step, also none, and on ways that are none.
func anyKind(t *testing.T, r *rand.Rand, segments []string) world.Step {
	t.Helper()
	s := anyStep(r)
	switch n := r.Intn(40); {
	case n < 3:
		s = world.Step{Kind: world.Spoil, Way: r.Intn(2), N: r.Intn(400) - 10, Bits: r.Uint32() & r.Uint32()}
	case n < 5:
		s = anyInject(t, r, segments)
	case n == 5:
		s.Kind = r.Intn(16) - 2
	case n == 6:
		s.Way = r.Intn(6) - 2
	case n == 7:
		s.Kind, s.Way = 1+r.Intn(10), r.Intn(6)-2
	}
	return s
}

// P29.1: random steps of all kinds, held against the model.
func TestModel(t *testing.T) {
	r := rand.New(rand.NewSource(3))
	counts := map[api.Errno]int{}
	done, off := 0, 0
	for range 500 {
		p := planOf(anyWindow(r), anyFiles(r)...)
		p.Room = 1 + r.Intn(60)
		if r.Intn(3) > 0 {
			p.Room += 100
		}
		segments := segmentsOf(t, planOf(1, filesOf(r.Intn(900))...))
		m, w := newModel(t, p), newWorld(t, p)
		for range r.Intn(300) {
			s := anyKind(t, r, segments)
			got, want := w.Do(s), m.do(s)
			if got != want {
				t.Fatalf("%+v: %t", s, got)
			}
			expect(t, w, m.stand())
			if !w.On(back) {
				off++
			}
		}
		counts[w.Aborted()]++
		if _, ok := w.Committed(); ok {
			done++
		}
	}
	if done < 50 || off < 500 || counts[api.ErrFull] < 5 || counts[api.ErrSum] < 5 {
		t.Error("done", done, "off", off, "aborted", counts)
	}
}

// P29.1: long ways: more comes than there is room for.
func TestModelFull(t *testing.T) {
	r := rand.New(rand.NewSource(4))
	for range 60 {
		p := planOf(32, filesOf(9000)...)
		m, w := newModel(t, p), newWorld(t, p)
		full := 0
		for range 600 {
			s := anyStep(r)
			switch r.Intn(3) {
			case 0:
				s = world.Step{Kind: world.Twice, Way: r.Intn(2)}
			case 1:
				s = world.Step{Kind: world.Inject, Text: "junk"}
			}
			if s.Kind == world.Round {
				continue
			}
			got, want := w.Do(s), m.do(s)
			if got != want {
				t.Fatalf("%+v: %t", s, got)
			}
			if s.Kind == world.Inject && !got {
				full++
			}
			expect(t, w, m.stand())
		}
		do(t, w, world.Step{Kind: world.Round})
		m.round()
		expect(t, w, m.stand())
		if full == 0 {
			t.Error("the way was never full")
		}
	}
}
