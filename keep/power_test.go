package keep_test

import (
	"math/rand"
	"testing"

	"lighter/api"
	"lighter/disk"
	"lighter/keep"
)

// call of a keep, and what the state and its bytes are behind it.
type call struct {
	name string
	do   func(k *keep.Keep) api.Errno
	next func(s keep.State, bytes string) (keep.State, string)
}

var (
	start = call{"Start", (*keep.Keep).Start, func(s keep.State, bytes string) (keep.State, string) {
		s.Epoch++
		return s, bytes
	}}
	commit = call{"Commit", (*keep.Keep).Commit, func(s keep.State, bytes string) (keep.State, string) {
		s.Done = true
		return s, bytes
	}}
)

func begin(session uint32) call {
	do := func(k *keep.Keep) api.Errno { return k.Begin(session) }
	return call{"Begin", do, func(s keep.State, bytes string) (keep.State, string) {
		return stateOf(session, s.Epoch, "", false), ""
	}}
}

func add(more string) call {
	do := func(k *keep.Keep) api.Errno { return k.Append(more) }
	return call{"Append", do, func(s keep.State, bytes string) (keep.State, string) {
		return stateOf(s.Session, s.Epoch, bytes+more, s.Done), bytes + more
	}}
}

func anyCall(r *rand.Rand, room int) call {
	switch r.Intn(8) {
	case 0:
		return start
	case 1:
		return begin(r.Uint32())
	case 2:
		if r.Intn(4) == 0 {
			return commit
		}
		fallthrough
	default:
		more := make([]byte, r.Intn(1+min(room, 150)))
		r.Read(more)
		return add(string(more))
	}
}

func anyFates(r *rand.Rand) []int {
	l := make([]int, r.Intn(6))
	for i := range l {
		l[i] = r.Intn(4)
	}
	return l
}

// someDisk with a state, and its bytes.
func someDisk(t *testing.T, sectors int, bytes string) *disk.Disk {
	t.Helper()
	d := newDisk(t, sectors)
	k := open(t, d)
	must(t, k.Begin(6))
	must(t, k.Append("all these bytes are of another session: none of them may be told"))
	must(t, k.Start())
	must(t, k.Begin(7))
	must(t, k.Append(bytes))
	return d
}

// P20.2, P20.3: the power fails at each Write and each Sync of each call.
func TestEachFuse(t *testing.T) {
	const sectors = 14
	for _, size := range []int{0, 1, 63, 64, 100} {
		for _, c := range []call{start, commit, begin(8), add(""), add("a"), add(run(size, 27)), add(run(size, 64)), add(run(size, 200))} {
			ahead := someDisk(t, sectors, run(0, size))
			old := stateOf(7, 1, run(0, size), false)
			for fuse := 0; ; fuse++ {
				d := ahead.Copy()
				k := open(t, d)
				d.Fuse(fuse)
				err := c.do(k)
				if err == api.OK {
					want, bytes := c.next(old, run(0, size))
					expect(t, open(t, d), sectors, want, bytes)
					break
				}
				if err != api.ErrPower || d.On() {
					t.Fatal(c.name, fuse, err, d.On())
				}
				d.Start()
				expect(t, k, sectors, old, run(0, size))
				refuses(t, d, k)
				expect(t, k, sectors, old, run(0, size))
				expect(t, open(t, d), sectors, old, run(0, size))
			}
		}
	}
}

// refuses: does a keep refuse each change, without one on the disk?
func refuses(t *testing.T, d *disk.Disk, k *keep.Keep) {
	t.Helper()
	lasted := d.Image()
	for range 2 {
		for name, err := range map[string]api.Errno{
			"Start": k.Start(), "Begin": k.Begin(4), "Append": k.Append("a"), "Append of nothing": k.Append(""),
			"Append of too much": k.Append(run(0, 999)), "Commit": k.Commit(),
		} {
			if err != api.ErrState {
				t.Error(name, err)
			}
		}
	}
	if d.Image() != lasted || len(d.Dirty()) > 0 {
		t.Error("ErrState changes the disk")
	}
}

// P20.2: without power each change has layer 17's error, and there is none behind it.
func TestWithoutPower(t *testing.T) {
	for _, c := range []call{start, commit, begin(8), add(""), add("a")} {
		d := someDisk(t, 10, "abc")
		k := open(t, d)
		d.Crash(nil)
		if err := k.Append(run(0, 126)); err != api.ErrFull {
			t.Error(err)
		}
		if err := c.do(k); err != api.ErrPower {
			t.Error(c.name, err)
		}
		refuses(t, d, k)
		d.Start()
		refuses(t, d, k)
		expect(t, k, 10, stateOf(7, 1, "abc", false), "abc")
		k = open(t, d)
		must(t, c.do(k))
		want, bytes := c.next(stateOf(7, 1, "abc", false), "abc")
		expect(t, k, 10, want, bytes)
	}
}

// P20.3: the bytes last ahead of the note that tells of them.
func TestBytesAhead(t *testing.T) {
	for _, size := range []int{0, 10, 64} {
		d := someDisk(t, 14, run(0, size))
		k := open(t, d)
		more := run(size, 150)
		writes := (size+150+63)/64 - size/64
		d.Fuse(writes + 1) // all the file's, and the log's: the log's Sync fails
		if err := k.Append(more); err != api.ErrPower {
			t.Fatal(err)
		}
		if s := d.Image()[logBytes:][:size+150]; s != run(0, size)+more {
			t.Errorf("%d: %q", size, s)
		}
	}
}

// written: the sectors in which two disks that last aren't alike: the log's, and the file's in order.
func written(t *testing.T, a, b *disk.Disk) (log int, file []int) {
	t.Helper()
	log = -1
	for i := range a.Sectors() {
		x, _ := a.Read(i)
		y, _ := b.Read(i)
		switch {
		case x == y:
		case i >= 8:
			file = append(file, i)
		case log < 0:
			log = i
		default:
			t.Fatal("two notes of one call")
		}
	}
	if log < 0 {
		t.Fatal("a call without a note")
	}
	return log, file
}

// carry some sectors of one disk over to another one, on which the power fails, with these fates.
func carry(from, to *disk.Disk, sectors, fates []int) {
	for _, i := range sectors {
		s, _ := from.Read(i)
		to.Write(i, s)
	}
	to.Crash(fates)
	to.Start()
}

// P20.3: the power fails behind any Write of a call, with any fates of what isn't synced.
func TestEachFate(t *testing.T) {
	r := rand.New(rand.NewSource(4))
	const sectors = 14
	for range 400 {
		bytes := run(r.Intn(99), r.Intn(200))
		ahead := someDisk(t, sectors, bytes)
		old := stateOf(7, 1, bytes, false)
		c := anyCall(r, 384-len(bytes))
		behind := ahead.Copy()
		must(t, c.do(open(t, behind)))
		log, file := written(t, ahead, behind)
		for n := range len(file) + 1 {
			d := ahead.Copy()
			carry(behind, d, file[:n], anyFates(r))
			expect(t, open(t, d), sectors, old, bytes)
		}
		for fate := range 4 {
			d := ahead.Copy()
			carry(behind, d, file, []int{1, 1, 1, 1, 1, 1})
			carry(behind, d, []int{log}, []int{fate})
			want, told := old, bytes
			if fate == 1 {
				want, told = c.next(old, bytes)
			}
			expect(t, open(t, d), sectors, want, told)
			must(t, open(t, d).Start())
			want.Epoch++
			expect(t, open(t, d), sectors, want, told)
		}
	}
}

// P20.3: any calls and failures, over and over.
func TestAnyCalls(t *testing.T) {
	r := rand.New(rand.NewSource(5))
	for range 400 {
		sectors := 9 + r.Intn(6)
		d := newDisk(t, sectors)
		k := open(t, d)
		state, bytes := keep.State{}, ""
		for range 60 {
			c := anyCall(r, k.Room())
			fuse := -1
			if r.Intn(3) == 0 {
				fuse = r.Intn(4)
			}
			d.Fuse(fuse)
			switch err := c.do(k); {
			case err == api.ErrState && state.Done && c.name != "Start":
			case err == api.ErrPower && fuse >= 0:
				d.Start()
				expect(t, k, sectors, state, bytes)
				k = open(t, d)
			case err == api.OK:
				state, bytes = c.next(state, bytes)
			default:
				t.Fatal(c.name, err)
			}
			expect(t, k, sectors, state, bytes)
			if r.Intn(4) == 0 {
				d.Crash(anyFates(r))
				d.Start()
				lasted := d.Image()
				k = open(t, d)
				expect(t, k, sectors, state, bytes)
				if d.Image() != lasted || len(d.Dirty()) > 0 {
					t.Fatal("Open changes the disk")
				}
			}
		}
	}
}
