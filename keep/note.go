package keep

import (
	"lighter/bits"
	"lighter/wal"
)

// Where the parts of a state's note begin, and where it ends.
const (
	epochAt = 4
	sizeAt  = epochAt + 4
	sumAt   = sizeAt + 8
	doneAt  = sumAt + 4
	noteEnd = doneAt + 1
)

// noteOf a state.
func noteOf(s State) string {
	var done uint64
	if s.Done {
		done = 1
	}
	return bits.Put(uint64(s.Session), epochAt) +
		bits.Put(uint64(s.Epoch), sizeAt-epochAt) +
		bits.Put(uint64(s.Size), sumAt-sizeAt) +
		bits.Put(uint64(s.Sum), doneAt-sumAt) +
		bits.Put(done, noteEnd-doneAt)
}

// stateOf a note; false: it is none of a state.
func stateOf(note string) (State, bool) {
	if len(note) != noteEnd {
		return State{}, false
	}
	s := State{
		Session: uint32(bits.Get(note[:epochAt])),
		Epoch:   uint32(bits.Get(note[epochAt:sizeAt])),
		Size:    int(bits.Get(note[sizeAt:sumAt])),
		Sum:     uint32(bits.Get(note[sumAt:doneAt])),
		Done:    note[doneAt] == 1,
	}
	// Told again, so that a note with anything else in it is none.
	if noteOf(s) != note {
		return State{}, false
	}
	return s, true
}

// lastOf a log: the state that counts; false: its note is none of a state.
func lastOf(l *wal.Log) (State, bool) {
	note, n := l.Note()
	if n == 0 {
		return State{}, true
	}
	return stateOf(note)
}
