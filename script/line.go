package script

import (
	"strconv"
	"strings"

	"lighter/api"
	"lighter/world"
)

// form of a line.
type form struct {
	word        string // its first one
	least, most int    // how many words it has
}

// forms of the lines, by the steps' kinds.
var forms = [...]form{
	world.Tick:    {"tick", 1, 1},
	world.Deliver: {"deliver", 2, 2},
	world.Lose:    {"lose", 2, 2},
	world.Twice:   {"twice", 2, 2},
	world.Turn:    {"turn", 2, 2},
	world.Spoil:   {"spoil", 4, 4},
	world.Crash:   {"crash", 2, 2 + mostFates},
	world.Fuse:    {"fuse", 3, 3},
	world.Inject:  {"inject", 2, 2},
	world.Round:   {"round", 1, 1},
}

// ways by their numbers.
var ways = [...]string{"there", "back"}

// lineOf a good step, without the newline.
func lineOf(s world.Step) string {
	words := []string{forms[s.Kind].word}
	switch s.Kind {
	case world.Tick, world.Round:
	case world.Inject:
		words = append(words, sixteens(s.Text))
	default:
		words = append(words, ways[s.Way])
	}
	switch s.Kind {
	case world.Spoil:
		words = append(words, strconv.Itoa(s.N), strconv.FormatUint(uint64(s.Bits), 10))
	case world.Fuse:
		words = append(words, strconv.Itoa(s.N))
	}
	for _, fate := range s.Fates {
		words = append(words, strconv.Itoa(fate))
	}
	return strings.Join(words, " ")
}

// stepOf a line, or what is wrong in it.
func stepOf(line string) (world.Step, api.Errno) {
	line, ended := strings.CutSuffix(line, "\n")
	words := strings.Split(line, " ")
	kind := kindOf(words[0])
	switch n := len(words); {
	case kind == 0:
		return world.Step{}, api.ErrWord
	case n < forms[kind].least || n > forms[kind].most:
		return world.Step{}, api.ErrCount
	}
	s := told(kind, words[1:])
	// Told as a line again, so that one with any other word in it is none.
	switch {
	case !Good(s) || lineOf(s) != line:
		return world.Step{}, api.ErrNum
	case !ended:
		return world.Step{}, api.ErrCount
	}
	return s, api.OK
}

// kindOf a line, by its first word; 0: there is none such.
func kindOf(word string) int {
	for kind, f := range forms {
		if f.word == word {
			return kind
		}
	}
	return 0
}

// told by the words behind the first one: a step; by wrong words some step.
func told(kind int, words []string) world.Step {
	s := world.Step{Kind: kind}
	switch kind {
	case world.Tick, world.Round:
		return s
	case world.Inject:
		s.Text = bytesOf(words[0])
		return s
	}
	s.Way = wayOf(words[0])
	switch kind {
	case world.Spoil:
		bits, _ := strconv.ParseUint(words[2], 10, 32)
		s.N, s.Bits = number(words[1]), uint32(bits)
	case world.Fuse:
		s.N = number(words[1])
	case world.Crash:
		for _, word := range words[1:] {
			s.Fates = append(s.Fates, number(word))
		}
	}
	return s
}

// wayOf a word; -1: it is none.
func wayOf(word string) int {
	for way, w := range ways {
		if w == word {
			return way
		}
	}
	return -1
}

// number that a word tells; of another word some number.
func number(word string) int {
	n, _ := strconv.Atoi(word)
	return n
}
