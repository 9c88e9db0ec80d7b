package dgram

import (
	"lighter/bits"
	"lighter/crc"
)

// magic: what each datagram's bytes begin with.
const magic = "\x4c\x47"

// Where the parts of a datagram's body begin.
const (
	kindAt    = len(magic)
	lastAt    = kindAt + 1
	sessionAt = lastAt + 1
	epochAt   = sessionAt + wordSize
	seqAt     = epochAt + wordSize
	atAt      = seqAt + wordSize
	sumAt     = atAt + 8
	mapAt     = sumAt + wordSize
	sizeAt    = mapAt + wordSize
	textAt    = sizeAt + 2
)

const (
	wordSize = 4        // bytes of a number of 32 bits
	sealSize = wordSize // bytes of the sum behind a body
)

// body of a datagram that may be: its bytes ahead of their sum.
func (d Datagram) body() string {
	var last uint64
	if d.Last {
		last = 1
	}
	return magic + bits.Put(uint64(d.Kind), lastAt-kindAt) + bits.Put(last, sessionAt-lastAt) +
		words(d.Session, d.Epoch, d.Seq) + bits.Put(d.At, sumAt-atAt) + words(d.Sum, d.Map) +
		bits.Put(uint64(len(d.Text)), textAt-sizeAt) + d.Text
}

// words: the bytes of numbers of 32 bits, one behind the other.
func words(numbers ...uint32) string {
	s := ""
	for _, n := range numbers {
		s += bits.Put(uint64(n), wordSize)
	}
	return s
}

// seal: what stands behind a body.
func seal(body string) string { return words(crc.Make().Sum(body)) }

// told: the datagram whose body it is; false: it is none's that may be.
func told(body string) (Datagram, bool) {
	if len(body) < textAt {
		return Datagram{}, false
	}
	d := Datagram{
		Kind:    int(body[kindAt]),
		Session: word(body[sessionAt:]),
		Epoch:   word(body[epochAt:]),
		Seq:     word(body[seqAt:]),
		At:      bits.Get(body[atAt:sumAt]),
		Sum:     word(body[sumAt:]),
		Map:     word(body[mapAt:]),
		Last:    body[lastAt] == 1,
		Text:    body[textAt:],
	}
	// Written again, so that a body with anything else in it is none.
	if !d.Good() || d.body() != body {
		return Datagram{}, false
	}
	return d, true
}

// word: the number of 32 bits that some bytes begin with.
func word(s string) uint32 { return uint32(bits.Get(s[:wordSize])) }
