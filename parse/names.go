package parse

import "strings"

// top: the number of the directory that all names are in.
const top = 0

// file: the number that all files have; directories have others.
const file = -1

// place of a file or a directory: the number of the directory that it is in, and its part of the name.
type place struct {
	dir  int
	part string
}

// names that were seen. They stand there part by part, so that a new one costs no more than its bytes, and isn't held against each of the others.
type names struct {
	numbers map[place]int
	dirs    int
}

// add a name; false: it can't stand beside those ahead.
func (n *names) add(s string) bool {
	if n.numbers == nil {
		n.numbers = map[place]int{}
	}
	dir := top
	for {
		part, rest, isDeeper := strings.Cut(s, "/")
		at := place{dir, part}
		number, isKnown := n.numbers[at]
		if !isDeeper {
			n.numbers[at] = file
			return !isKnown
		}
		if !isKnown {
			n.dirs++
			number = n.dirs
			n.numbers[at] = number
		}
		if number == file {
			return false
		}
		dir, s = number, rest
	}
}
