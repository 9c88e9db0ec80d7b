package parse_test

import (
	"strings"

	"lighter/api"
	"lighter/crc"
	"lighter/inflate"
	"lighter/name"
	"lighter/parse"
	"lighter/zip"
)

// answer of a parser: Data that follow one another are joined.
type answer struct {
	events  []parse.Event
	err     api.Errno
	whole   bool
	heads   []zip.Head
	entries int
}

// tell an event.
func (a *answer) tell(e parse.Event) {
	last := len(a.events) - 1
	if e.Kind == parse.Data && last >= 0 && a.events[last].Kind == parse.Data {
		a.events[last].Text += e.Text
		return
	}
	a.events = append(a.events, e)
}

// modelTail, by the document's words.
func modelTail(l []zip.Head) string {
	s := ""
	for _, h := range l {
		if !h.Good() {
			return ""
		}
		s += h.Central()
	}
	at := uint64(0)
	if n := len(l); n > 0 {
		at = l[n-1].At + uint64(len(l[n-1].Local())) + l[n-1].Packed + uint64(len(l[n-1].Descr()))
	}
	return s + zip.End(uint64(len(l)), uint64(len(s)), at)
}

// modelOf all that came, by the document's words: each part is looked at once all of it is there, but the tail at once.
func modelOf(s string) answer {
	var a answer
	for {
		rest := s[a.entries:]
		tail := modelTail(a.heads)
		if strings.HasPrefix(rest, tail) {
			a.tell(parse.Event{Kind: parse.Done})
			a.whole = rest == tail
			if !a.whole {
				a.err = api.ErrEnd
			}
			return a
		}
		h, size := zip.Read(rest)
		if size == 0 || strings.HasPrefix(tail, rest) {
			return a
		}
		if size < 0 {
			a.err = api.ErrForm
			return a
		}
		if !a.file(h, rest, size) {
			return a
		}
	}
}

// file of a local header, and what comes there; false: it isn't whole.
func (a *answer) file(h zip.Head, rest string, size int) bool {
	names := []string{h.Name}
	for i := len(a.heads) - 1; i >= 0; i-- {
		names = append([]string{a.heads[i].Name}, names...)
	}
	if _, err := name.All(names); err != api.OK {
		a.err = api.ErrTwice
		return false
	}
	isBig := h.Size > 0
	h.Size, h.At = 0, uint64(a.entries)
	a.tell(parse.Event{Kind: parse.Begin, Head: h})
	if !h.Kept {
		d := inflate.New()
		text, err := d.Feed(rest[size:])
		if text != "" {
			a.tell(parse.Event{Kind: parse.Data, Text: text})
		}
		a.err = err
		if !d.Done() {
			return false
		}
		h.Packed, h.Size, h.Sum = uint64(d.Used()), uint64(len(text)), crc.Make().Sum(text)
		n := a.descr(h, d.Rest(), isBig)
		if n == 0 {
			return false
		}
		size += d.Used() + n
	}
	a.entries += size
	a.heads = append(a.heads, h)
	a.tell(parse.Event{Kind: parse.File, Head: h})
	return true
}

// descr: how many bytes the descriptor has; 0: it isn't there, or wrong.
func (a *answer) descr(h zip.Head, rest string, isBig bool) int {
	size := 16
	if isBig {
		size = 24
	}
	switch {
	case len(rest) < 8:
		return 0
	case rest[4:8] != h.Descr()[4:8]:
		a.err = api.ErrSum
	case len(rest) < size:
		return 0
	case rest[:size] != h.Descr():
		a.err = api.ErrForm
	default:
		return size
	}
	return 0
}
