package sender_test

import (
	"hash/crc32"
	"math/rand"
	"slices"
	"strconv"
	"strings"
	"testing"

	"lighter/api"
	"lighter/archive"
	"lighter/dgram"
	"lighter/disk"
	"lighter/dos"
	"lighter/keep"
	"lighter/sender"
)

const session = 0xfedcba98

var day = dos.Time{Year: 2026, Month: 11, Day: 20}

// filesOf so many bytes each, that no packing makes less.
func filesOf(sizes ...int) []archive.File {
	r := rand.New(rand.NewSource(1))
	var l []archive.File
	for i, n := range sizes {
		data := make([]byte, n)
		r.Read(data)
		l = append(l, archive.File{Name: string(rune('a' + i)), Time: day, Data: string(data)})
	}
	return l
}

func newDisk(t *testing.T, sectors int) *disk.Disk {
	t.Helper()
	d, err := disk.New(sectors)
	if err != api.OK {
		t.Fatal(err)
	}
	return d
}

func openKeep(t *testing.T, d *disk.Disk) *keep.Keep {
	t.Helper()
	k, err := keep.Open(d)
	must(t, err)
	return k
}

func must(t *testing.T, err api.Errno) {
	t.Helper()
	if err != api.OK {
		t.Fatal(err)
	}
}

func sum(s string) uint32 { return crc32.ChecksumIEEE([]byte(s)) }

// pair of a sender, and the segments that it has.
type pair struct {
	t        *testing.T
	s        *sender.Sender
	segments []string
}

// newPair with the epoch 1.
func newPair(t *testing.T, l []archive.File, window int) pair {
	t.Helper()
	s, err := sender.New(l, 6, session, window, newDisk(t, 9))
	if s == nil || err != api.OK {
		t.Fatal(err)
	}
	segments, err := archive.Segments(l, 6)
	must(t, err)
	return pair{t, s, segments}
}

// ahead: all bytes ahead of a number's place.
func (p pair) ahead(n int) string { return strings.Join(p.segments[:n], "") }

// hello that is expected.
func (p pair) hello() dgram.Datagram {
	return dgram.Datagram{Kind: dgram.Hello, Session: session, Epoch: p.s.Epoch()}
}

// data of a number that are expected.
func (p pair) data(n int) dgram.Datagram {
	return dgram.Datagram{
		Kind: dgram.Data, Session: session, Epoch: p.s.Epoch(), Seq: uint32(n), At: uint64(len(p.ahead(n))),
		Sum: sum(p.ahead(n + 1)), Last: n == len(p.segments)-1, Text: p.segments[n],
	}
}

// datas of some numbers.
func (p pair) datas(numbers ...int) []dgram.Datagram {
	var l []dgram.Datagram
	for _, n := range numbers {
		l = append(l, p.data(n))
	}
	return l
}

// welcome at a number's place.
func (p pair) welcome(n int) dgram.Datagram {
	return dgram.Datagram{
		Kind: dgram.Welcome, Session: session, Epoch: p.s.Epoch(), At: uint64(len(p.ahead(n))), Sum: sum(p.ahead(n)),
	}
}

func (p pair) ack(upto, bits uint32) dgram.Datagram {
	return dgram.Datagram{Kind: dgram.Ack, Session: session, Epoch: p.s.Epoch(), Seq: upto, Map: bits}
}

func (p pair) take(d dgram.Datagram) {
	p.t.Helper()
	text, err := dgram.Encode(d)
	must(p.t, err)
	p.s.Take(text)
}

// tick, of which just these are expected.
func (p pair) tick(want ...dgram.Datagram) {
	p.t.Helper()
	expectTold(p.t, p.s.Tick(), want)
}

// expectTold: are these the datagrams, by their bytes?
func expectTold(t *testing.T, got []string, want []dgram.Datagram) {
	t.Helper()
	var texts []string
	for _, d := range want {
		text, err := dgram.Encode(d)
		must(t, err)
		texts = append(texts, text)
	}
	if !slices.Equal(got, texts) {
		t.Fatalf("told %d, not %d:\n%s\nnot\n%s", len(got), len(texts), shown(got), shown(texts))
	}
}

func shown(l []string) string {
	var s strings.Builder
	for _, text := range l {
		d, _ := dgram.Decode(text)
		s.WriteString("kind " + strconv.Itoa(d.Kind) + ", number " + strconv.Itoa(int(d.Seq)) + "\n")
	}
	return s.String()
}

// expect a phase and a base.
func (p pair) expect(phase, base int) {
	p.t.Helper()
	if p.s.Phase() != phase || p.s.Base() != base {
		p.t.Fatal("phase", p.s.Phase(), "base", p.s.Base(), "not", phase, base)
	}
}

// numbers from one on, up to ahead of another one.
func numbers(from, to int) []int {
	var l []int
	for n := from; n < to; n++ {
		l = append(l, n)
	}
	return l
}
