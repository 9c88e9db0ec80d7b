package name

// top: the number of the directory that all names are in.
const top = 0

// place of a file or a directory: the number of the directory that it is in, and its part of the name.
type place struct {
	dir  int
	part string
}

// tree of names that were seen. A name stands there part by part, so that a deep one costs no more than its bytes.
type tree struct {
	numbers map[place]int // of files and directories
	isFile  []bool        // by their numbers
}

func newTree() *tree {
	return &tree{numbers: map[place]int{}, isFile: []bool{top: false}}
}

// enter a place: its number, and whether it is a new one.
func (t *tree) enter(at place) (int, bool) {
	number, known := t.numbers[at]
	if !known {
		number = len(t.isFile)
		t.numbers[at] = number
		t.isFile = append(t.isFile, false)
	}
	return number, !known
}

// add a file's name; false, where it can't stand beside those ahead.
func (t *tree) add(s string) bool {
	number, isNew := top, false
	for _, part := range parts(s) {
		if t.isFile[number] {
			return false
		}
		number, isNew = t.enter(place{number, part})
	}
	t.isFile[number] = true
	return isNew
}

// newDirs: the directories of a name that weren't seen yet.
func (t *tree) newDirs(s string) []string {
	var dirs []string
	number, isNew := top, false
	for end, part := range parts(s) {
		if end == len(s) {
			break
		}
		number, isNew = t.enter(place{number, part})
		if isNew {
			dirs = append(dirs, s[:end])
		}
	}
	return dirs
}
