package disk_test

import (
	"math/rand"
	"slices"
	"strings"
	"testing"

	"lighter/api"
	"lighter/disk"
)

// model of a disk, by the document's words: sectors as they last, and each Write since the last Sync.
type model struct {
	lasts []string
	wrote []write
	fuse  int
	off   bool
}

type write struct {
	i int
	s string
}

func newModel(sectors int) *model {
	m := &model{fuse: -1}
	for range sectors {
		m.lasts = append(m.lasts, strings.Repeat("\x00", 64))
	}
	return m
}

func (m *model) copy() *model {
	return &model{slices.Clone(m.lasts), slices.Clone(m.wrote), m.fuse, m.off}
}

// now: a sector as it was written last.
func (m *model) now(i int) string {
	s := m.lasts[i]
	for _, w := range m.wrote {
		if w.i == i {
			s = w.s
		}
	}
	return s
}

// dirty: the sectors whose last Write is the k-th, for each k.
func (m *model) dirty() []int {
	var l []int
	for k, w := range m.wrote {
		again := slices.ContainsFunc(m.wrote[k+1:], func(o write) bool { return o.i == w.i })
		if !again {
			l = append(l, w.i)
		}
	}
	return l
}

func (m *model) crash(fates []int) {
	if m.off {
		return
	}
	for k, i := range m.dirty() {
		fate := 0
		if k < len(fates) {
			for fate = fates[k] % 4; fate < 0; {
				fate += 4
			}
		}
		was, is := m.lasts[i], m.now(i)
		m.lasts[i] = [4]string{was, is, is[:32] + was[32:], was[:32] + is[32:]}[fate]
	}
	m.wrote, m.fuse, m.off = nil, -1, true
}

func (m *model) write(i int, s string) api.Errno {
	switch {
	case len(s) != 64:
		return api.ErrArg
	case m.off:
		return api.ErrPower
	case i < 0 || i >= len(m.lasts):
		return api.ErrRange
	case m.fuse == 0:
		m.crash(nil)
		return api.ErrPower
	}
	m.wrote = append(m.wrote, write{i, s})
	if m.fuse > 0 {
		m.fuse--
	}
	return api.OK
}

func (m *model) sync() api.Errno {
	switch {
	case m.off:
		return api.ErrPower
	case m.fuse == 0:
		m.crash(nil)
		return api.ErrPower
	}
	for i := range m.lasts {
		m.lasts[i] = m.now(i)
	}
	m.wrote = nil
	return api.OK
}

// check all that a disk tells against the model.
func (m *model) check(t *testing.T, d *disk.Disk) {
	t.Helper()
	if d.On() == m.off || d.Sectors() != len(m.lasts) {
		t.Fatal("power, sectors", d.On(), d.Sectors())
	}
	if !slices.Equal(d.Dirty(), m.dirty()) {
		t.Fatal("Dirty", d.Dirty(), m.dirty())
	}
	if d.Image() != strings.Join(m.lasts, "") {
		t.Fatal("Image", d.Image())
	}
	for i := range m.lasts {
		s, err := d.Read(i)
		switch {
		case m.off && (s != "" || err != api.ErrPower):
			t.Fatal("Read without power", s, err)
		case !m.off && (s != m.now(i) || err != api.OK):
			t.Fatal("Read", i, s, err)
		}
	}
}

func (m *model) isSame(o *model) bool {
	return len(m.wrote) == 0 && len(o.wrote) == 0 && slices.Equal(m.lasts, o.lasts)
}

// someSector of few kinds, so that some are the same.
func someSector(r *rand.Rand) string {
	return strings.Repeat(string([]byte{byte(r.Intn(4))}), 32) + strings.Repeat(string([]byte{byte(r.Intn(4))}), 32)
}

func someFates(r *rand.Rand) []int {
	l := make([]int, r.Intn(6))
	for k := range l {
		l[k] = r.Intn(24) - 12
	}
	return l
}

// change a disk, and its model, by some call.
func change(t *testing.T, r *rand.Rand, d *disk.Disk, m *model) {
	t.Helper()
	switch r.Intn(16) {
	case 0:
		if err := d.Sync(); err != m.sync() {
			t.Fatal("Sync", err)
		}
	case 1:
		fates := someFates(r)
		kept := slices.Clone(fates)
		d.Crash(fates)
		m.crash(kept)
		if !slices.Equal(fates, kept) {
			t.Fatal("Crash changes what is handed in")
		}
	case 2, 3:
		d.Start()
		m.off = false
	case 4:
		n := r.Intn(8) - 2
		d.Fuse(n)
		m.fuse = n
	case 5:
		i, s := r.Intn(9)-2, strings.Repeat("x", 61+r.Intn(6))
		if err := d.Write(i, s); err != m.write(i, s) {
			t.Fatal("Write", i, s, err)
		}
	default:
		i, s := r.Intn(len(m.lasts)), someSector(r)
		if err := d.Write(i, s); err != m.write(i, s) {
			t.Fatal("Write", i, s, err)
		}
	}
}

// P17.1 to P17.4: any calls, as the model has them; a copy is another disk.
func TestByModel(t *testing.T) {
	r := rand.New(rand.NewSource(1))
	for range 400 {
		n := 1 + r.Intn(5)
		d, err := disk.New(n)
		if err != api.OK {
			t.Fatal(err)
		}
		m := newModel(n)
		other, otherModel := d.Copy(), m.copy()
		for range 100 {
			change(t, r, d, m)
			m.check(t, d)
			otherModel.check(t, other)
			if d.Same(other) != m.isSame(otherModel) || other.Same(d) != m.isSame(otherModel) {
				t.Fatal("Same", d.Same(other))
			}
			if r.Intn(10) == 0 {
				other, otherModel = d.Copy(), m.copy()
			}
			if r.Intn(4) == 0 {
				d, other, m, otherModel = other, d, otherModel, m
			}
		}
		loaded, err := disk.Load(d.Image())
		if err != api.OK {
			t.Fatal(err)
		}
		(&model{lasts: m.lasts}).check(t, loaded)
	}
}
