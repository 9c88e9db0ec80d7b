package timer_test

import (
	"math"
	"math/rand"
	"testing"

	"lighter/api"
	"lighter/timer"
)

// model of a timer by the document's words.
type model struct {
	first, most int
	wait        int
	on          bool
	started     int // how long it waited when it was started
	gone        int // rounds since then
}

func newModel(first, most int) *model {
	if first < 1 {
		first = 1
	}
	if first > 64 {
		first = 64
	}
	if most < first {
		most = first
	}
	if most > 64 {
		most = 64
	}
	return &model{first: first, most: most, wait: first}
}

func (m *model) start() { m.on, m.started, m.gone = true, m.wait, 0 }

func (m *model) tick() bool {
	if !m.on {
		return false
	}
	m.gone++
	if m.gone < m.started {
		return false
	}
	m.wait *= 2
	if m.wait > m.most {
		m.wait = m.most
	}
	m.start()
	return true
}

func same(t *testing.T, x *timer.Timer, m *model) {
	t.Helper()
	if x.Wait() != m.wait || x.On() != m.on {
		t.Fatal("Wait", x.Wait(), m.wait, "On", x.On(), m.on)
	}
}

// edges: rounds around which something turns.
var edges = []int{
	math.MinInt, math.MinInt + 1, -65, -64, -2, -1, 0, 1, 2, 3, 4, 5, 31, 32, 33, 62, 63, 64, 65, 66, 127, 128, 129,
	math.MaxInt32, math.MaxInt32 + 1, math.MaxInt/2 + 1, math.MaxInt - 1, math.MaxInt,
}

// ticks at which a timer goes off, of so many.
func ticks(x *timer.Timer, n int) []int {
	var l []int
	for i := range n {
		if x.Tick() {
			l = append(l, i+1)
		}
	}
	return l
}

func expectTicks(t *testing.T, x *timer.Timer, n int, want ...int) {
	t.Helper()
	got := ticks(x, n)
	if len(got) != len(want) {
		t.Fatal(got, "not", want)
	}
	for i := range got {
		if got[i] != want[i] {
			t.Fatal(got, "not", want)
		}
	}
}

// The chapter's example.
func TestExample(t *testing.T) {
	x := timer.New(1, 4)
	x.Start()
	expectTicks(t, x, 14, 1, 3, 7, 11)
}

// P23.1: how long a new timer waits, and that it isn't running.
func TestNew(t *testing.T) {
	for _, c := range []struct{ first, most, wait int }{
		{1, 4, 1}, {3, 4, 3}, {4, 4, 4}, {5, 4, 5}, {0, 4, 1}, {-1, -1, 1}, {math.MinInt, math.MaxInt, 1},
		{64, 64, 64}, {65, 64, 64}, {63, 1, 63}, {math.MaxInt, math.MinInt, 64}, {api.MaxBack + 1, 0, api.MaxBack},
	} {
		x := timer.New(c.first, c.most)
		if x == nil || x.Wait() != c.wait || x.On() {
			t.Fatal(c, x.Wait(), x.On())
		}
		expectTicks(t, x, 200)
		if x.Wait() != c.wait || x.On() {
			t.Fatal(c, "went by Ticks without a Start", x.Wait(), x.On())
		}
	}
}

// P23.1: how long a timer waits at most.
func TestMost(t *testing.T) {
	for _, c := range []struct{ first, most, wait int }{
		{1, 64, 64}, {1, 65, 64}, {1, math.MaxInt, 64}, {64, 65, 64}, {33, 63, 63}, {3, 10, 10}, {3, 12, 12},
		{5, 1, 5}, {5, math.MinInt, 5}, {0, 0, 1}, {1, 1, 1}, {1, 2, 2}, {math.MaxInt, 1, 64}, {20, 41, 41},
	} {
		x := timer.New(c.first, c.most)
		x.Start()
		for range 1000 {
			x.Tick()
			if x.Wait() > c.wait {
				t.Fatal(c, x.Wait())
			}
		}
		if x.Wait() != c.wait || !x.On() {
			t.Error(c, x.Wait(), x.On())
		}
	}
}

// P23.1, P23.2: all rounds at first and at most, and beyond, tick by tick.
func TestTicks(t *testing.T) {
	all := append([]int{}, edges...)
	for n := -2; n < 68; n++ {
		all = append(all, n)
	}
	for _, first := range all {
		for _, most := range all {
			x, m := timer.New(first, most), newModel(first, most)
			same(t, x, m)
			x.Start()
			m.start()
			for i := range 300 {
				if got, want := x.Tick(), m.tick(); got != want {
					t.Fatal(first, most, "tick", i+1, got)
				}
				same(t, x, m)
			}
		}
	}
}

// P23.2: a Start of a timer that runs begins its rounds anew.
func TestStart(t *testing.T) {
	x := timer.New(3, 64)
	x.Start()
	expectTicks(t, x, 2)
	x.Start()
	expectTicks(t, x, 2)
	if !x.On() || x.Wait() != 3 {
		t.Error(x.On(), x.Wait())
	}
	expectTicks(t, x, 1, 1)
	expectTicks(t, x, 5)
	x.Start() // it waits six rounds by now
	expectTicks(t, x, 6, 6)
	if x.Wait() != 12 {
		t.Error(x.Wait())
	}
}

// P23.2: a timer that is stopped doesn't go off, waits as long as ahead of that, and starts anew.
func TestStop(t *testing.T) {
	x := timer.New(2, 64)
	x.Stop()
	if x.On() || x.Wait() != 2 {
		t.Error(x.On(), x.Wait())
	}
	x.Start()
	expectTicks(t, x, 3, 2)
	x.Stop()
	if x.On() || x.Wait() != 4 {
		t.Error(x.On(), x.Wait())
	}
	expectTicks(t, x, 100)
	if x.On() || x.Wait() != 4 {
		t.Error(x.On(), x.Wait())
	}
	x.Stop()
	x.Start()
	if !x.On() {
		t.Error("isn't running")
	}
	expectTicks(t, x, 4, 4)
}

// P23.2: a Reset changes how long it waits, but not what it runs at hand.
func TestReset(t *testing.T) {
	x := timer.New(1, 64)
	x.Start()
	expectTicks(t, x, 9, 1, 3, 7) // eight rounds at hand, two of which went by
	x.Reset()
	if !x.On() || x.Wait() != 1 {
		t.Error(x.On(), x.Wait())
	}
	expectTicks(t, x, 6, 6)
	if x.Wait() != 2 {
		t.Error(x.Wait())
	}
	expectTicks(t, x, 2, 2)
	x.Stop()
	x.Reset()
	if x.On() || x.Wait() != 1 {
		t.Error(x.On(), x.Wait())
	}
	x.Start()
	expectTicks(t, x, 1, 1)
}

// P23.2: a Reset, and a Start behind it.
func TestResetStart(t *testing.T) {
	x := timer.New(3, 64)
	x.Start()
	expectTicks(t, x, 9, 3, 9) // twelve rounds at hand
	x.Reset()
	x.Start()
	expectTicks(t, x, 9, 3, 9)
	y := timer.New(3, 64)
	y.Reset()
	if y.On() || y.Wait() != 3 {
		t.Error("of a new timer", y.On(), y.Wait())
	}
}

// P23.2: of a nil *Timer nothing, 0, false.
func TestNil(t *testing.T) {
	var x *timer.Timer
	x.Start()
	x.Stop()
	x.Reset()
	if x.Tick() || x.Wait() != 0 || x.On() {
		t.Error(x.Tick(), x.Wait(), x.On())
	}
}

// Two timers have nothing in common.
func TestApart(t *testing.T) {
	x, y := timer.New(2, 8), timer.New(2, 8)
	x.Start()
	expectTicks(t, x, 2, 2)
	if y.On() || y.Wait() != 2 || x.Wait() != 4 {
		t.Error(y.On(), y.Wait(), x.Wait())
	}
}

// P23.2, P23.3: any calls, against the model; no more than most Ticks between Starts, or times at which it goes off.
func TestAny(t *testing.T) {
	r := rand.New(rand.NewSource(1))
	for range 3000 {
		first, most := r.Intn(70)-2, r.Intn(80)-5
		if r.Intn(2) == 0 {
			first = r.Intn(4)
		}
		x, m := timer.New(first, most), newModel(first, most)
		often := 4 + r.Intn(200)
		between := 0
		for range 300 {
			switch r.Intn(often) {
			case 0:
				x.Start()
				m.start()
				between = 0
			case 1:
				x.Stop()
				m.on = false
			case 2:
				x.Reset()
				m.wait = m.first
			default:
				got, want := x.Tick(), m.tick()
				if got != want {
					t.Fatal(first, most, "Tick", got)
				}
				if between++; m.on && between > m.most {
					t.Fatal(first, most, "Ticks", between)
				}
				if got {
					between = 0
				}
			}
			same(t, x, m)
		}
	}
}

// P23.3: a timer that runs goes off behind at most most Ticks, whatever went by.
func TestBound(t *testing.T) {
	for first := 1; first <= api.MaxBack; first++ {
		for most := first; most <= api.MaxBack; most++ {
			x := timer.New(first, most)
			x.Start()
			for i := range 10 {
				n := 1
				for !x.Tick() {
					if n++; n > most {
						t.Fatal(first, most, i)
					}
				}
				if i == 4 {
					x.Reset()
				}
			}
		}
	}
}
