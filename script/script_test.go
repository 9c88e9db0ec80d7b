package script_test

import (
	"fmt"
	"math/rand"
	"strings"
	"testing"

	"lighter/api"
	"lighter/archive"
	"lighter/dos"
	"lighter/script"
	"lighter/world"
)

// filesOf so many bytes each, that no packing makes less.
func filesOf(sizes ...int) []archive.File {
	r := rand.New(rand.NewSource(1))
	var l []archive.File
	for i, n := range sizes {
		data := make([]byte, n)
		r.Read(data)
		l = append(l, archive.File{Name: string(rune('a' + i)), Time: dos.Time{Year: 2026, Month: 11, Day: 20}, Data: string(data)})
	}
	return l
}

func newWorld(t *testing.T, room int, files ...archive.File) *world.World {
	t.Helper()
	w, err := world.New(world.Plan{Files: files, Level: 6, Session: 7, Window: 4, Room: room})
	if err != api.OK {
		t.Fatal(err)
	}
	return w
}

// run a script, which has just these answers.
func run(t *testing.T, w *world.World, s, want string) {
	t.Helper()
	if got, line, err := script.Run(w, s); got != want || line != 0 || err != api.OK {
		t.Fatalf("%q: %q, %d, %d, not %q", s, got, line, err, want)
	}
}

// The chapter's example.
func TestExample(t *testing.T) {
	run(t, newWorld(t, 1), "round\nround\n", "ok 2 0 open\nok 3 22 done\n")
}

// P30.2: without steps.
func TestNoSteps(t *testing.T) {
	run(t, newWorld(t, 1), "", "")
}

// P30.2: what is done, and what isn't; up to the end.
func TestDone(t *testing.T) {
	w := newWorld(t, 40, filesOf(300)...)
	run(t, w, "deliver there\ntick\ndeliver there\ndeliver there\ndeliver back\n", "no 1 0 open\nok 1 0 open\nok 1 0 open\nno 1 0 open\nok 2 0 open\n")
	run(t, w, "tick\ndeliver there\nlose there\nlose there\nlose there\nlose back\n", "ok 2 0 open\nok 2 256 open\nok 2 256 open\nok 2 256 open\nno 2 256 open\nok 2 256 open\n")
	run(t, w, "crash there\nround\nround\n", "ok 1 256 open\nok 2 256 open\nok 3 421 done\n")
	run(t, w, "crash there\nround\nfuse back 0\ncrash back 1 2 3\n", "ok 1 421 done\nok 3 421 done\nok 3 421 done\nok 3 421 done\n")
}

// P30.2: a taker without room.
func TestAbort(t *testing.T) {
	w := newWorld(t, 4, filesOf(300)...)
	run(t, w, "round\nround\nround\n", "ok 2 0 open\nok 4 256 abort\nok 4 256 abort\n")
	run(t, w, "crash back\n", "ok 4 256 open\n")
}

// P30.2: a side that is off.
func TestOff(t *testing.T) {
	w := newWorld(t, 40, filesOf(300)...)
	run(t, w, "round\nfuse back 3\nround\nfuse back 3\nround\n", "ok 2 0 open\nok 2 0 open\nok 2 0 open\nno 2 0 open\nok 2 0 open\n")
	run(t, w, "round\nround\n", "ok 3 421 done\nok 3 421 done\n")
}

// P30.2: what is put There by hand.
func TestInject(t *testing.T) {
	w := newWorld(t, 40)
	run(t, w, "inject .\ninject 61\ndeliver there\ndeliver there\ndeliver there\n", "ok 1 0 open\nok 1 0 open\nok 1 0 open\nok 1 0 open\nno 1 0 open\n")
	run(t, w, strings.Repeat("inject 00\n", 65), strings.Repeat("ok 1 0 open\n", 64)+"no 1 0 open\n")
}

// P30.2: without a world; a line that is wrong, ahead of which nothing is done.
func TestRunErrors(t *testing.T) {
	for _, s := range []string{"", "tick\n", "none\n", strings.Repeat("x", 65537)} {
		if got, line, err := script.Run(nil, s); got != "" || line != 0 || err != api.ErrArg {
			t.Errorf("%.20q: %q, %d, %d", s, got, line, err)
		}
	}
	w := newWorld(t, 1)
	for s, want := range map[string]api.Errno{
		"round\nround\nnone\n": api.ErrWord, "round\nround\ntick 1\n": api.ErrCount, "round\nround\nround": api.ErrCount,
		"round\nround\nfuse there x\n": api.ErrNum, "round\nround\ndeliver x": api.ErrNum,
	} {
		if got, line, err := script.Run(w, s); got != "" || line != 3 || err != want {
			t.Errorf("%q: %q, %d, %d", s, got, line, err)
		}
	}
	if got, line, err := script.Run(w, strings.Repeat("round\n", 10923)); got != "" || line != 0 || err != api.ErrLimit {
		t.Error(len(got), line, err)
	}
	run(t, w, "round\nround\n", "ok 2 0 open\nok 3 22 done\n") // it is as it was
}

// answer to a step in another world, by the document's words.
func answer(w *world.World, s world.Step) string {
	told := "no"
	if w.Do(s) {
		told = "ok"
	}
	end := "open"
	if w.Aborted() != api.OK {
		end = "abort"
	}
	if _, ok := w.Committed(); ok {
		end = "done"
	}
	return fmt.Sprintf("%s %d %d %s\n", told, w.Phase(), len(w.Staged()), end)
}

// P30.2: random scripts, held against a world whose steps are done one by one.
func TestRandom(t *testing.T) {
	r := rand.New(rand.NewSource(3))
	seen := map[string]int{}
	for range 300 {
		room := 1 + r.Intn(40)
		files := filesOf(r.Intn(2000))
		one, other := newWorld(t, room, files...), newWorld(t, room, files...)
		for range 6 {
			text, want := "", ""
			for range r.Intn(12) {
				s := anyGood(r)
				if r.Intn(3) > 0 {
					s = world.Step{Kind: []int{world.Tick, world.Deliver, world.Round}[r.Intn(3)]}
				}
				text += lineOf(s)
				told := answer(other, s)
				want += told
				seen[told[:2]]++
				seen[told[strings.LastIndex(told, " ")+1:]]++
			}
			run(t, one, text, want)
		}
	}
	if min(seen["ok"], seen["no"], seen["open\n"], seen["done\n"], seen["abort\n"]) < 50 {
		t.Error(seen)
	}
}

// P30.2: a long script.
func TestLongScript(t *testing.T) {
	w := newWorld(t, 1000, filesOf(20000)...)
	got, line, err := script.Run(w, strings.Repeat("round\n", 10922))
	if line != 0 || err != api.OK || strings.Count(got, "\n") != 10922 || !strings.HasSuffix(got, " done\n") {
		t.Error(len(got), line, err)
	}
}
