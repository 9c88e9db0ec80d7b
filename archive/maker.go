package archive

import (
	"slices"

	"lighter/api"
	"lighter/crc"
	"lighter/deflate"
	"lighter/parse"
	"lighter/zip"
)

// Maker of an archive, segment by segment.
type Maker struct {
	files []File // those that are still to come
	level int
	table *crc.Table
	heads []zip.Head // of those that went by
	at    uint64     // where the next one begins
	left  string     // what is still to come of the part that is under way
	ended bool       // there is no part behind that one
}

// New maker.
func New(l []File, level int) (*Maker, api.Errno) {
	if _, err := Check(l, level); err != api.OK {
		return nil, err
	}
	return makerOf(slices.Clone(l), level), api.OK
}

// makerOf files that may be; the list is the maker's from then on.
func makerOf(l []File, level int) *Maker {
	return &Maker{files: l, level: level, table: crc.Make()}
}

// Next segment.
func (m *Maker) Next() (string, bool) {
	if m == nil {
		return "", false
	}
	if m.left == "" {
		m.left = m.part()
	}
	n := min(len(m.left), api.Segment)
	segment := m.left[:n]
	m.left = m.left[n:]
	return segment, n > 0
}

// segments that are still to come.
func (m *Maker) segments(yield func(string) bool) {
	for segment, ok := m.Next(); ok; segment, ok = m.Next() {
		if !yield(segment) {
			return
		}
	}
}

// part: the next one: a file, then the tail; the empty text behind that.
func (m *Maker) part() string {
	if len(m.files) > 0 {
		f := m.files[0]
		m.files[0] = File{} // its bytes are needed no more
		m.files = m.files[1:]
		return m.pack(f)
	}
	if m.ended {
		return ""
	}
	tail := parse.Tail(m.heads)
	m.ended, m.heads = true, nil
	return tail
}

// pack a file: its local header, its bytes, its descriptor.
func (m *Maker) pack(f File) string {
	h := zip.Head{Name: f.Name, Time: f.Time, At: m.at, Kept: f.Data == ""}
	stream := ""
	if !h.Kept {
		stream, _ = deflate.All(f.Data, m.level)
		h.Packed, h.Size = uint64(len(stream)), uint64(len(f.Data))
		h.Sum = m.table.Sum(f.Data)
	}
	s := h.Local() + stream + h.Descr()
	m.at += uint64(len(s))
	m.heads = append(m.heads, h)
	return s
}
