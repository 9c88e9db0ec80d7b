package sender

import (
	"lighter/api"
	"lighter/archive"
	"lighter/crc"
)

// segment of an archive.
type segment struct {
	text string
	at   int    // its place
	sum  uint32 // of all bytes ahead of it
}

// cargo: an archive that is sent.
type cargo struct {
	segments []segment      // by their numbers, and an empty one behind the last one: all bytes are ahead of it
	numbers  map[uint64]int // of all these, by their places
	size     int            // how many bytes there are
}

// load the archive of some files.
func load(l []archive.File, level int) (cargo, api.Errno) {
	m, err := archive.New(l, level)
	if err != api.OK {
		return cargo{}, err
	}
	c := cargo{numbers: map[uint64]int{}}
	table := crc.Make()
	var sum uint32
	for text, ok := m.Next(); ok; text, ok = m.Next() {
		if len(text) > api.MaxData-c.size {
			return cargo{}, api.ErrLimit
		}
		c.add(text, sum)
		sum = table.More(sum, text)
	}
	c.add("", sum)
	return c, api.OK
}

// add a segment: the sum of all bytes ahead of it.
func (c *cargo) add(text string, sum uint32) {
	c.numbers[uint64(c.size)] = len(c.segments)
	c.segments = append(c.segments, segment{text: text, at: c.size, sum: sum})
	c.size += len(text)
}

// end: the number behind the last one.
func (c *cargo) end() int { return len(c.segments) - 1 }
