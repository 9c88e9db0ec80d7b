package zip

import (
	"lighter/bits"
	"lighter/dos"
)

// form of a header.
type form struct {
	magic   string
	fixed   int                            // how many bytes stand ahead of the name
	lengths int                            // where it stands how many the name and the extra field have
	tell    func(fixed, extra string) Head // what a header tells beside the name, if it is right
	show    func(h Head) string            // the header
}

// Read a local header: what it tells, how many bytes it has; 0: more is needed; -1: it is none.
func Read(s string) (Head, int) {
	f := form{magic: localMagic, fixed: 30, lengths: 26, tell: tellLocal, show: Head.Local}
	return f.read(s)
}

// ReadCentral header, likewise.
func ReadCentral(s string) (Head, int) {
	f := form{magic: centralMagic, fixed: 46, lengths: 28, tell: tellCentral, show: Head.Central}
	return f.read(s)
}

// read a header of that form.
func (f form) read(s string) (Head, int) {
	begun := min(len(s), len(f.magic))
	if s[:begun] != f.magic[:begun] {
		return Head{}, -1
	}
	if len(s) < f.fixed {
		return Head{}, 0
	}
	behind := f.fixed + number(s[f.lengths:])
	size := behind + number(s[f.lengths+2:])
	if len(s) < size {
		return Head{}, 0
	}
	h := f.tell(s[:f.fixed], s[behind:size])
	h.Name = s[f.fixed:behind]
	// What tell made of wrong bytes shows here.
	if f.show(h) != s[:size] {
		return Head{}, -1
	}
	return h, size
}

// number of the first two bytes.
func number(s string) int { return int(bits.Get(s[:2])) }

// tellLocal: what a local header tells.
func tellLocal(fixed, extra string) Head {
	h := tellManner(fixed[6:])
	if extra != "" {
		h.Size = full32
	}
	return h
}

// tellManner: what flags, a method and a time tell.
func tellManner(s string) Head {
	t, _ := dos.Unpack(bits.Get(s[6:8]), bits.Get(s[4:6]))
	return Head{Time: t, Kept: number(s[2:]) != packedMethod}
}

// tellCentral: what a central header tells.
func tellCentral(fixed, extra string) Head {
	h := tellManner(fixed[8:])
	h.Sum = uint32(bits.Get(fixed[16:20]))
	h.Packed, h.Size = bits.Get(fixed[20:24]), bits.Get(fixed[24:28])
	h.At = bits.Get(fixed[42:46])
	wide := extra[min(4, len(extra)):]
	if h.Size == full32 {
		h.Size, wide = first(wide)
		h.Packed, wide = first(wide)
	}
	if h.At == full32 {
		h.At, _ = first(wide)
	}
	return h
}

// first number of an extra field's, and what stands behind it.
func first(s string) (uint64, string) {
	n := min(8, len(s))
	return bits.Get(s[:n]), s[n:]
}
