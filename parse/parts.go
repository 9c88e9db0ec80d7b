package parse

import (
	"strings"

	"lighter/api"
	"lighter/inflate"
	"lighter/zip"
)

// state: which part of the archive comes next.
type state int

const (
	atFile   state = iota // a local header, or the tail
	atStream              // a file's bytes
	atDescr               // its descriptor
	atTail                // the tail, or what is left of it
	atEnd                 // none
)

// Where a descriptor's sum stands.
const (
	sumBegin = 4
	sumEnd   = 8
)

const (
	tooMany = 1<<32 - 7 - 1<<18 // a stream of so many bytes, or more, needs a big one's local header
	piece   = 1024              // how many bytes a stream is fed at once, so that few from behind its end come with them
)

// part: the next one, of what came: how many bytes are done with, and ErrMore, where not all of it is there.
func (p *Parser) part(s string) (int, api.Errno) {
	switch p.state {
	case atFile:
		return p.readLocal(s)
	case atStream:
		return p.readStream(s)
	case atDescr:
		return p.readDescr(s)
	case atTail:
		return p.readTail(s)
	default:
		return p.readEnd(s)
	}
}

// readLocal header; where none begins, the tail must.
func (p *Parser) readLocal(s string) (int, api.Errno) {
	h, size := zip.Read(s)
	if size == 0 {
		return 0, api.ErrMore
	}
	if size < 0 {
		p.tail = Tail(p.heads)
		p.names = names{}
		p.state = atTail
		return 0, api.OK
	}
	h.Name = strings.Clone(h.Name) // else all that came with it would be kept, too
	if !p.names.add(h.Name) {
		return 0, api.ErrTwice
	}
	if len(p.heads) == api.MaxFiles {
		return 0, api.ErrForm
	}
	p.begin(h)
	return size, api.OK
}

// begin a file.
func (p *Parser) begin(h zip.Head) {
	p.local = h
	h.Size = 0
	h.At = behind(p.heads)
	p.head = h
	p.tell(Event{Kind: Begin, Head: h})
	if h.Kept {
		p.end()
		return
	}
	p.stream = inflate.New()
	p.state = atStream
}

// end a file.
func (p *Parser) end() {
	p.heads = append(p.heads, p.head)
	p.tell(Event{Kind: File, Head: p.head})
	p.stream = nil
	p.state = atFile
}

func (p *Parser) tell(e Event) { p.told = append(p.told, e) }

// readStream: some bytes of it.
func (p *Parser) readStream(s string) (int, api.Errno) {
	if s == "" {
		return 0, api.ErrMore
	}
	s = s[:min(len(s), piece)]
	text, err := p.stream.Feed(s)
	used := len(s) - len(p.stream.Rest())
	p.head.Packed += uint64(used)
	if !p.take(text) || p.isOver(p.head.Packed) {
		return used, api.ErrSize
	}
	if p.stream.Done() {
		p.state = atDescr
	}
	return used, err
}

// take bytes that a stream tells; false: with some of them there are too many, and those aren't told.
func (p *Parser) take(text string) bool {
	isOver := p.isOver(p.head.Size + uint64(len(text)))
	if isOver {
		text = text[:tooMany-1-p.head.Size]
	}
	p.head.Size += uint64(len(text))
	p.head.Sum = p.table.More(p.head.Sum, text)
	if text != "" {
		p.tell(Event{Kind: Data, Text: text})
	}
	return !isOver
}

// isOver: are so many bytes too many for the local header?
func (p *Parser) isOver(n uint64) bool { return n >= tooMany && !p.local.Big() }

// readDescr: the descriptor, as long as the local header asks for. Whatever else it has, a wrong sum is told as soon as the sum is there.
func (p *Parser) readDescr(s string) (int, api.Errno) {
	if len(s) < sumEnd {
		return 0, api.ErrMore
	}
	want := p.head.Descr()
	if s[sumBegin:sumEnd] != want[sumBegin:sumEnd] {
		return 0, api.ErrSum
	}
	size := len(p.local.Descr())
	if len(s) < size {
		return 0, api.ErrMore
	}
	if s[:size] != want {
		return 0, api.ErrForm
	}
	p.end()
	return size, api.OK
}

// readTail: as much of it as came.
func (p *Parser) readTail(s string) (int, api.Errno) {
	size := min(len(s), len(p.tail))
	if s[:size] != p.tail[:size] {
		return 0, api.ErrForm
	}
	p.tail = p.tail[size:]
	if p.tail != "" {
		return size, api.ErrMore
	}
	p.tell(Event{Kind: Done})
	p.state = atEnd
	return size, api.OK
}

// readEnd: no byte may come there.
func (p *Parser) readEnd(s string) (int, api.Errno) {
	if s != "" {
		return 0, api.ErrEnd
	}
	return 0, api.ErrMore
}
