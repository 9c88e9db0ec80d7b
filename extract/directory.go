package extract

import (
	"lighter/bits"
	"lighter/zip"
)

// How many bytes the end has, without numbers of 64 bits and with them.
const (
	plainEnd = 22
	wideEnd  = 98
)

// span of an archive's directory: so many headers, of so many bytes, from a place on.
type span struct{ count, size, at uint64 }

// directory of an archive: the heads of its files; false: it has none.
func directory(s string) ([]zip.Head, bool) {
	d, ok := spanOf(s)
	if !ok {
		return nil, false
	}
	var heads []zip.Head
	next := uint64(0) // where the next file begins
	for rest := s[d.at : d.at+d.size]; rest != ""; {
		h, n := zip.ReadCentral(rest)
		if n <= 0 || h.At != next {
			return nil, false
		}
		rest = rest[n:]
		heads = append(heads, h)
		next = behind(h)
	}
	return heads, uint64(len(heads)) == d.count && next == d.at
}

// behind a file: where the first byte stands that is not its own.
func behind(h zip.Head) uint64 {
	return h.At + uint64(len(h.Local())) + h.Packed + uint64(len(h.Descr()))
}

// spanOf the directory, by the archive's end; false: it has no end, or that doesn't stand just behind the directory.
func spanOf(s string) (span, bool) {
	for _, n := range [...]int{plainEnd, wideEnd} {
		if len(s) < n {
			break
		}
		ahead, end := s[:len(s)-n], s[len(s)-n:]
		d := readEnd(end)
		// Numbers of wrong bytes show here; of right ones none is so high that two of them go round.
		if zip.End(d.count, d.size, d.at) == end {
			return d, d.at+d.size == uint64(len(ahead))
		}
	}
	return span{}, false
}

// readEnd: what bytes tell, if they are an end.
func readEnd(s string) span {
	if len(s) == wideEnd {
		return span{count: bits.Get(s[24:32]), size: bits.Get(s[40:48]), at: bits.Get(s[48:56])}
	}
	return span{count: bits.Get(s[8:10]), size: bits.Get(s[12:16]), at: bits.Get(s[16:20])}
}
