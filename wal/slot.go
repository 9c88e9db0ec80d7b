package wal

import (
	"strings"

	"lighter/api"
	"lighter/bits"
	"lighter/crc"
)

// Where the parts of a slot begin.
const (
	sizeAt = 8
	noteAt = sizeAt + 1
	sumAt  = api.Sector - 4
)

// Slot: a sector with a note.
func Slot(n uint64, s string) string { return slot(Entry{n, s}, crc.Make()) }

// slot of an entry; the empty text: it has none.
func slot(e Entry, table *crc.Table) string {
	if e.Number == 0 || len(e.Note) > Most {
		return ""
	}
	s := bits.Put(e.Number, sizeAt) + bits.Put(uint64(len(e.Note)), noteAt-sizeAt) + e.Note
	s += strings.Repeat("\x00", sumAt-len(s))
	return s + bits.Put(uint64(table.Sum(s)), api.Sector-sumAt)
}

// entryOf a sector; false: it is no slot.
func entryOf(sector string, table *crc.Table) (Entry, bool) {
	size := int(sector[sizeAt])
	if size > Most {
		return Entry{}, false
	}
	e := Entry{Number: bits.Get(sector[:sizeAt]), Note: sector[noteAt : noteAt+size]}
	// Written again, so that a sector with anything else in it is none.
	if slot(e, table) != sector {
		return Entry{}, false
	}
	return e, true
}

// slots of a log, in the order of their sectors.
func (l *Log) slots() ([]Entry, api.Errno) {
	var entries []Entry
	table := crc.Make()
	for i := range l.sectors {
		sector, err := l.disk.Read(l.at + i)
		if err != api.OK {
			return nil, err
		}
		if e, ok := entryOf(sector, table); ok {
			entries = append(entries, e)
		}
	}
	return entries, api.OK
}
