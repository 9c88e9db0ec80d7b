package wal_test

import (
	"encoding/binary"
	"hash/crc32"
	"math"
	"math/rand"
	"strings"
	"testing"

	"lighter/api"
	"lighter/wal"
)

// someSlot by the document's words, without a look at what may be.
func someSlot(n uint64, size byte, note string) string {
	b := binary.LittleEndian.AppendUint64(nil, n)
	b = append(b, size)
	b = append(b, note...)
	b = append(b, make([]byte, 60-len(b))...)
	return string(binary.LittleEndian.AppendUint32(b, crc32.ChecksumIEEE(b)))
}

// P18.1: a slot's bytes.
func TestSlot(t *testing.T) {
	for _, n := range []uint64{1, 2, 255, 256, 0x8877665544332211, 1 << 63, math.MaxUint64} {
		for size := range 24 {
			for _, b := range []string{"\x00", "a", "\xff"} {
				s := strings.Repeat(b, size)
				if slot := wal.Slot(n, s); slot != someSlot(n, byte(size), s) || len(slot) != 64 {
					t.Errorf("Slot(%d, %q): %q", n, s, slot)
				}
			}
		}
	}
	for _, size := range []int{24, 25, 51, 52, 60, 64, 255, 256, 279, 1 << 20} {
		if s := wal.Slot(1, strings.Repeat("a", size)); s != "" {
			t.Errorf("of %d bytes: %q", size, s)
		}
	}
	for _, s := range []string{"", "a", full, full + "n"} {
		if slot := wal.Slot(0, s); slot != "" {
			t.Errorf("of the number 0: %q", slot)
		}
	}
}

// P18.1: sectors that are no slots, though their sum is right.
func TestNoSlots(t *testing.T) {
	for _, s := range []string{
		someSlot(0, 0, ""),
		someSlot(0, 1, "a"),
		someSlot(7, 24, strings.Repeat("a", 24)),
		someSlot(7, 51, strings.Repeat("a", 51)),
		someSlot(7, 60, strings.Repeat("a", 51)),
		someSlot(7, 255, strings.Repeat("a", 51)),
		someSlot(7, 0, "a"),
		someSlot(7, 2, "abc"),
		someSlot(7, 1, "a\x00b"),
		someSlot(7, 1, "a"+strings.Repeat("\x00", 49)+"b"),
		someSlot(7, 23, full+"n"),
	} {
		expectNone(t, s)
	}
	// The bytes behind a shorter note are noughts: it is of two bytes.
	l := open(t, diskOf(t, someSlot(7, 2, "a"), nought), 0, 2)
	expect(t, l, "a\x00", 7)
}

// expectNone: a sector is no slot.
func expectNone(t *testing.T, s string) {
	t.Helper()
	l := open(t, diskOf(t, wal.Slot(3, "x"), s), 0, 2)
	expect(t, l, "x", 3)
	expectEntries(t, l, wal.Entry{Number: 3, Note: "x"})
}

// P18.1: of a slot with any bit another one there is none.
func TestEveryBit(t *testing.T) {
	for _, slot := range []string{wal.Slot(7, "note"), wal.Slot(7, ""), wal.Slot(math.MaxUint64, full)} {
		expect(t, open(t, diskOf(t, slot, nought), 0, 2), slot[9:9+slot[8]], binary.LittleEndian.Uint64([]byte(slot)))
		for bit := range 8 * api.Sector {
			b := []byte(slot)
			b[bit/8] ^= 1 << (bit % 8)
			expectNone(t, string(b))
		}
	}
}

// P18.1, P18.4: any sectors, against a search by the document's words.
func TestAnySectors(t *testing.T) {
	r := rand.New(rand.NewSource(1))
	for range 2000 {
		n := 2 + r.Intn(5)
		sectors := make([]string, n)
		var note string
		var number uint64
		for i := range sectors {
			e := wal.Entry{Number: uint64(1 + r.Intn(6)), Note: strings.Repeat("x", r.Intn(24))}
			sectors[i] = someSlot(e.Number, byte(len(e.Note)), e.Note)
			if r.Intn(3) == 0 {
				b := []byte(sectors[i])
				b[r.Intn(64)] ^= byte(1 + r.Intn(255))
				sectors[i] = string(b)
			} else if e.Number > number {
				note, number = e.Note, e.Number
			}
		}
		d := diskOf(t, sectors...)
		l := open(t, d, 0, n)
		expect(t, l, note, number)
		entries, err := l.Entries()
		if err != api.OK {
			t.Fatal(err)
		}
		for i, e := range entries {
			if i > 0 && entries[i-1].Number > e.Number {
				t.Fatal(entries)
			}
		}
	}
}
