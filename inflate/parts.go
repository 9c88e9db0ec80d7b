package inflate

import (
	"slices"

	"lighter/api"
	"lighter/canon"
	"lighter/lz"
)

// kind of a block.
type kind int

const (
	stored kind = iota
	fixed
	dynamic
)

const (
	endSymbol   = 256
	mostWords   = 286 // symbols of bytes and lengths that a dynamic block may have
	mostDists   = 30
	firstRepeat = 16 // the symbols below it tell one length
	tellers     = 19 // symbols that tell lengths
)

// order of the symbols that tell lengths, by which their own lengths come.
var order = [tellers]int{16, 17, 18, 0, 8, 7, 9, 6, 10, 5, 11, 4, 12, 3, 13, 2, 14, 1, 15}

// repeats: of the symbols from 16 on, how often a length comes at least, and how many bits tell how much more often.
var repeats = [tellers - firstRepeat]struct{ least, bits int }{{3, 2}, {3, 3}, {11, 7}}

// part: the next one; ErrMore: not all of it is there (then its bits stay, till it is).
func (d *Decoder) part() api.Errno {
	switch d.state {
	case atBlock:
		return d.readBlock()
	case atSizes:
		return d.readSizes()
	case atBytes:
		return d.readBytes()
	case atCounts:
		return d.readCounts()
	case atTriples:
		return d.readTriples()
	case atTeller:
		return d.readTeller()
	case atRepeat:
		return d.readRepeat()
	case atSymbol:
		return d.readSymbol()
	case atLength:
		return d.readLength()
	case atDist:
		return d.readDist()
	default:
		return d.readDistBits()
	}
}

// readBlock: a block's three bits.
func (d *Decoder) readBlock() api.Errno {
	v, ok := d.in.Read(3)
	if !ok {
		return api.ErrMore
	}
	d.last = v&1 == 1
	switch kind(v >> 1) {
	case stored:
		d.in.Align()
		d.state = atSizes
	case fixed:
		d.takeFixed()
		d.state = atSymbol
	case dynamic:
		d.state = atCounts
	default:
		return api.ErrForm
	}
	return api.OK
}

// endBlock: another one follows, if it wasn't the last one.
func (d *Decoder) endBlock() {
	d.state = atBlock
	if d.last {
		d.state = atEnd
	}
}

// readSizes: both numbers of a stored block.
func (d *Decoder) readSizes() api.Errno {
	v, ok := d.in.Read(32)
	if !ok {
		return api.ErrMore
	}
	n, against := v&0xffff, v>>16
	if n+against != 0xffff {
		return api.ErrSize
	}
	d.left = int(n)
	d.state = atBytes
	return api.OK
}

// readBytes of a stored block, as many as are there.
func (d *Decoder) readBytes() api.Errno {
	s := d.in.Take(d.left)
	d.past.Add(s)
	d.out = append(d.out, s...)
	d.left -= len(s)
	if d.left > 0 {
		return api.ErrMore
	}
	d.endBlock()
	return api.OK
}

// takeFixed codes, if they aren't at hand from the block ahead.
func (d *Decoder) takeFixed() {
	if d.hasFixed {
		return
	}
	lengths := slices.Repeat([]int{8}, 288)
	for symbol := 144; symbol < 256; symbol++ {
		lengths[symbol] = 9
	}
	for symbol := 256; symbol < 280; symbol++ {
		lengths[symbol] = 7
	}
	d.words, _ = canon.New(lengths, false)
	d.dists, _ = canon.New(slices.Repeat([]int{5}, 32), false)
	d.hasFixed = true
}

// readCounts: the three numbers of a dynamic block.
func (d *Decoder) readCounts() api.Errno {
	v, ok := d.in.Read(14)
	if !ok {
		return api.ErrMore
	}
	words, dists := int(v&31)+257, int(v>>5&31)+1
	if words > mostWords || dists > mostDists {
		return api.ErrRange
	}
	d.literals, d.both = words, words+dists
	d.triples = int(v>>10) + 4
	d.state = atTriples
	return api.OK
}

// readTriples: all lengths of three bits, and their code.
func (d *Decoder) readTriples() api.Errno {
	if d.in.Left() < 3*d.triples {
		return api.ErrMore
	}
	var lengths [tellers]int
	for i := range d.triples {
		v, _ := d.in.Read(3)
		lengths[order[i]] = int(v)
	}
	code, err := canon.New(lengths[:], false)
	if err != api.OK {
		return err
	}
	d.teller = code
	d.state = atTeller
	return api.OK
}

// readTeller: a symbol that tells lengths.
func (d *Decoder) readTeller() api.Errno {
	symbol, err := d.teller.Next(&d.in)
	if err != api.OK {
		return err
	}
	if symbol < firstRepeat {
		return d.addLengths(symbol, 1)
	}
	if symbol == firstRepeat && len(d.lengths) == 0 {
		return api.ErrForm
	}
	d.symbol = symbol
	d.state = atRepeat
	return api.OK
}

// readRepeat: how often a length comes.
func (d *Decoder) readRepeat() api.Errno {
	rule := repeats[d.symbol-firstRepeat]
	more, ok := d.in.Read(rule.bits)
	if !ok {
		return api.ErrMore
	}
	length := 0
	if d.symbol == firstRepeat {
		length = d.lengths[len(d.lengths)-1]
	}
	return d.addLengths(length, rule.least+int(more))
}

// addLengths: so many of the same; behind the last one the block's codes are there.
func (d *Decoder) addLengths(length, n int) api.Errno {
	if len(d.lengths)+n > d.both {
		return api.ErrRange
	}
	for range n {
		d.lengths = append(d.lengths, length)
	}
	d.state = atTeller
	if len(d.lengths) < d.both {
		return api.OK
	}
	return d.takeCodes()
}

// takeCodes that all lengths tell.
func (d *Decoder) takeCodes() api.Errno {
	if d.lengths[endSymbol] == 0 {
		return api.ErrEnd
	}
	words, err := canon.New(d.lengths[:d.literals], false)
	if err != api.OK {
		return err
	}
	dists, err := canon.New(d.lengths[d.literals:], true)
	if err != api.OK {
		return err
	}
	d.words, d.dists, d.hasFixed = words, dists, false
	d.teller, d.lengths = nil, nil
	d.state = atSymbol
	return api.OK
}

// readSymbol: a byte, the block's end, or a length's symbol.
func (d *Decoder) readSymbol() api.Errno {
	symbol, err := d.words.Next(&d.in)
	if err != api.OK {
		return err
	}
	if symbol < endSymbol {
		d.past.Put(byte(symbol))
		d.out = append(d.out, byte(symbol))
		return api.OK
	}
	if symbol == endSymbol {
		d.endBlock()
		return api.OK
	}
	least, extra, ok := lz.LengthOf(symbol)
	if !ok {
		return api.ErrCode
	}
	d.size, d.extra = least, extra
	d.state = atLength
	return api.OK
}

// readLength: a length's bits.
func (d *Decoder) readLength() api.Errno {
	more, ok := d.in.Read(d.extra)
	if !ok {
		return api.ErrMore
	}
	d.size += int(more)
	d.state = atDist
	return api.OK
}

// readDist: a distance's symbol.
func (d *Decoder) readDist() api.Errno {
	symbol, err := d.dists.Next(&d.in)
	if err != api.OK {
		return err
	}
	least, extra, ok := lz.DistOf(symbol)
	if !ok {
		return api.ErrCode
	}
	d.dist, d.extra = least, extra
	d.state = atDistBits
	return api.OK
}

// readDistBits: a distance's bits; then the match is there.
func (d *Decoder) readDistBits() api.Errno {
	more, ok := d.in.Read(d.extra)
	if !ok {
		return api.ErrMore
	}
	s, ok := d.past.Copy(d.size, d.dist+int(more))
	if !ok {
		return api.ErrDist
	}
	d.out = append(d.out, s...)
	d.state = atSymbol
	return api.OK
}
