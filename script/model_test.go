package script_test

import (
	"fmt"
	"math/big"
	"regexp"
	"strings"
	"testing"

	"lighter/api"
	"lighter/script"
	"lighter/world"
)

// The lines of steps, by the document's words, whatever their numbers and texts are.
var stepLine = regexp.MustCompile(`^(tick|round|(deliver|lose|twice|turn) (there|back)|(spoil) (there|back) (0|[1-9][0-9]*) (0|[1-9][0-9]*)` +
	`|(fuse) (there|back) (0|-?[1-9][0-9]*)|(crash) (there|back)( [0-3]){0,64}|(inject) (\.|([0-9a-f]{2})+))$`)

// words that a line has, the least and the most, by the first one.
var words = map[string][2]int{
	"tick": {1, 1}, "round": {1, 1}, "deliver": {2, 2}, "lose": {2, 2}, "twice": {2, 2}, "turn": {2, 2},
	"spoil": {4, 4}, "fuse": {3, 3}, "crash": {2, 66}, "inject": {2, 2},
}

// isGood line?
func isGood(line string) bool {
	if !stepLine.MatchString(line) {
		return false
	}
	words := strings.Split(line, " ")
	switch words[0] {
	case "spoil":
		return within(words[2], 0, 65535) && within(words[3], 0, 1<<32-1)
	case "fuse":
		return within(words[2], -1, 65535)
	case "inject":
		return len(words[1]) <= 1024
	}
	return true
}

// within bounds, as a number?
func within(word string, least, most int64) bool {
	n, ok := new(big.Int).SetString(word, 10)
	return ok && n.Cmp(big.NewInt(least)) >= 0 && n.Cmp(big.NewInt(most)) <= 0
}

// wrong: what is wrong in a line, by the document's words.
func wrong(line string, ended bool) api.Errno {
	n := strings.Count(line, " ") + 1
	first, _, _ := strings.Cut(line, " ")
	bounds, ok := words[first]
	switch {
	case !ok:
		return api.ErrWord
	case n < bounds[0] || n > bounds[1]:
		return api.ErrCount
	case !isGood(line):
		return api.ErrNum
	case !ended:
		return api.ErrCount
	}
	return api.OK
}

// modelParse: the first line that is wrong, and its error; how many lines there are.
func modelParse(s string) (int, api.Errno) {
	if len(s) > 65536 {
		return 0, api.ErrLimit
	}
	lines := strings.Split(s, "\n")
	for i, line := range lines {
		ended := i < len(lines)-1
		if !ended && line == "" {
			break
		}
		if err := wrong(line, ended); err != api.OK {
			return i + 1, err
		}
	}
	return 0, api.OK
}

// checkParse of a text against the model.
func checkParse(t *testing.T, s string) api.Errno {
	t.Helper()
	l, line, err := script.Parse(s)
	wantLine, want := modelParse(s)
	if line != wantLine || err != want {
		t.Fatalf("%.200q: line %d, error %d, not %d, %d", s, line, err, wantLine, want)
	}
	if err != api.OK {
		if len(l) > 0 {
			t.Fatalf("%.200q: steps beside an error", s)
		}
		return err
	}
	if len(l) != strings.Count(s, "\n") {
		t.Fatalf("%.200q: %d steps", s, len(l))
	}
	for _, step := range l {
		if !script.Good(step) {
			t.Fatalf("%.200q: %+v isn't good", s, step)
		}
	}
	if got := script.Show(l); got != s {
		t.Fatalf("%.200q: shown as %.200q", s, got)
	}
	return api.OK
}

// lineOf a good step, by the document's words.
func lineOf(s world.Step) string {
	way := []string{"there", "back"}[s.Way]
	switch s.Kind {
	case world.Tick:
		return "tick\n"
	case world.Deliver:
		return fmt.Sprintf("deliver %s\n", way)
	case world.Lose:
		return fmt.Sprintf("lose %s\n", way)
	case world.Twice:
		return fmt.Sprintf("twice %s\n", way)
	case world.Turn:
		return fmt.Sprintf("turn %s\n", way)
	case world.Spoil:
		return fmt.Sprintf("spoil %s %d %d\n", way, s.N, s.Bits)
	case world.Crash:
		line := "crash " + way
		for _, fate := range s.Fates {
			line += fmt.Sprintf(" %d", fate)
		}
		return line + "\n"
	case world.Fuse:
		return fmt.Sprintf("fuse %s %d\n", way, s.N)
	case world.Inject:
		if s.Text == "" {
			return "inject .\n"
		}
		return fmt.Sprintf("inject %x\n", s.Text)
	}
	return "round\n"
}
