package dgram_test

import (
	"encoding/binary"
	"hash/crc32"
	"math"
	"math/rand"
	"strings"

	"lighter/dgram"
)

// The parts of a datagram's bytes that tests change.
const (
	kindAt = 2
	lastAt = 3
	atAt   = 16
	mapAt  = 28
	sizeAt = 32
	textAt = 34
)

// sealed: some bytes, and their sum behind them.
func sealed(s string) string {
	return string(binary.LittleEndian.AppendUint32([]byte(s), crc32.ChecksumIEEE([]byte(s))))
}

// bytesOf a datagram by the document's words, without a look at what may be.
func bytesOf(d dgram.Datagram) string {
	b := []byte{0x4c, 0x47, byte(d.Kind), 0}
	if d.Last {
		b[3] = 1
	}
	b = binary.LittleEndian.AppendUint32(b, d.Session)
	b = binary.LittleEndian.AppendUint32(b, d.Epoch)
	b = binary.LittleEndian.AppendUint32(b, d.Seq)
	b = binary.LittleEndian.AppendUint64(b, d.At)
	b = binary.LittleEndian.AppendUint32(b, d.Sum)
	b = binary.LittleEndian.AppendUint32(b, d.Map)
	b = binary.LittleEndian.AppendUint16(b, uint16(len(d.Text)))
	return sealed(string(b) + d.Text)
}

// summed: are the last four bytes the sum of those ahead?
func summed(s string) bool { return len(s) >= 4 && sealed(s[:len(s)-4]) == s }

// isOne: are these bytes, whose sum is right, those of a datagram that may be? Part by part, by the document's words.
func isOne(s string) bool {
	if len(s) < 38 || s[:2] != "LG" {
		return false
	}
	kind, last := s[kindAt], s[lastAt]
	size := int(s[sizeAt]) + 256*int(s[sizeAt+1])
	switch {
	case kind < 1 || kind > 5 || last > 1 || s[atAt+7] >= 1<<6 || size != len(s)-38 || size > 256:
		return false
	case size > 0 && kind != 3, last == 1 && kind != 2 && kind != 3, s[mapAt:sizeAt] != "\x00\x00\x00\x00" && kind != 4:
		return false
	}
	return true
}

// edge: a number of 32 bits, with whatever bits.
func edge(r *rand.Rand) uint32 {
	switch r.Intn(4) {
	case 0:
		return 0
	case 1:
		return math.MaxUint32
	}
	return r.Uint32()
}

// anyText of at most so many bytes.
func anyText(r *rand.Rand, most int) string {
	b := make([]byte, r.Intn(most+1))
	r.Read(b)
	return string(b)
}

// anyGood: a datagram that may be, of each kind.
func anyGood(r *rand.Rand, kind int) dgram.Datagram {
	d := dgram.Datagram{
		Kind: kind, Session: edge(r), Epoch: edge(r), Seq: edge(r),
		At: uint64(r.Int63n(1<<62)) >> r.Intn(62), Sum: edge(r),
	}
	if kind == dgram.Ack {
		d.Map = edge(r)
	}
	if kind == dgram.Data {
		d.Text = anyText(r, 256)
	}
	if kind == dgram.Data || kind == dgram.Welcome {
		d.Last = r.Intn(2) == 0
	}
	return d
}

// wide: all numbers of a kind as great as may be.
func wide(kind int) dgram.Datagram {
	d := dgram.Datagram{
		Kind: kind, Session: math.MaxUint32, Epoch: math.MaxUint32, Seq: math.MaxUint32,
		At: 1<<62 - 1, Sum: math.MaxUint32,
	}
	switch kind {
	case dgram.Welcome:
		d.Last = true
	case dgram.Data:
		d.Last = true
		d.Text = strings.Repeat("\xff", 256)
	case dgram.Ack:
		d.Map = math.MaxUint32
	}
	return d
}
