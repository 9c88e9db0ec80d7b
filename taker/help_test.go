package taker_test

import (
	"hash/crc32"
	"math/rand"
	"slices"
	"strings"
	"testing"

	"lighter/api"
	"lighter/archive"
	"lighter/dgram"
	"lighter/disk"
	"lighter/dos"
	"lighter/keep"
	"lighter/taker"
)

const (
	session = 0xfedcba98
	epoch   = 5
)

var day = dos.Time{Year: 2026, Month: 11, Day: 20}

// filesOf so many bytes each, that no packing makes less.
func filesOf(sizes ...int) []archive.File {
	r := rand.New(rand.NewSource(1))
	var l []archive.File
	for i, n := range sizes {
		data := make([]byte, n)
		r.Read(data)
		l = append(l, archive.File{Name: string(rune('a' + i)), Time: day, Data: string(data)})
	}
	return l
}

func segmentsOf(t *testing.T, l []archive.File) []string {
	t.Helper()
	segments, err := archive.Segments(l, 6)
	must(t, err)
	return segments
}

func must(t *testing.T, err api.Errno) {
	t.Helper()
	if err != api.OK {
		t.Fatal(err)
	}
}

func sum(s string) uint32 { return crc32.ChecksumIEEE([]byte(s)) }

func newDisk(t *testing.T, sectors int) *disk.Disk {
	t.Helper()
	d, err := disk.New(sectors)
	must(t, err)
	return d
}

func openKeep(t *testing.T, d *disk.Disk) *keep.Keep {
	t.Helper()
	k, err := keep.Open(d)
	must(t, err)
	return k
}

// diskWith a state of the session, and of its bytes.
func diskWith(t *testing.T, bytes string, done bool) *disk.Disk {
	t.Helper()
	d := newDisk(t, 100)
	k := openKeep(t, d)
	must(t, k.Begin(session))
	must(t, k.Append(bytes))
	if done {
		must(t, k.Commit())
	}
	return d
}

// bench with a taker.
type bench struct {
	t *testing.T
	d *disk.Disk
	k *taker.Taker
}

func newBench(t *testing.T, window int, d *disk.Disk) bench {
	t.Helper()
	k, err := taker.New(window, d)
	if k == nil || err != api.OK {
		t.Fatal(err)
	}
	return bench{t, d, k}
}

// newTaker in step with nothing, of the session and the epoch.
func newTaker(t *testing.T, window int) bench {
	t.Helper()
	b := newBench(t, window, newDisk(t, 100))
	b.take(hello(), welcome(""))
	return b
}

func encode(t *testing.T, d dgram.Datagram) string {
	t.Helper()
	text, err := dgram.Encode(d)
	must(t, err)
	return text
}

// take a datagram: just these answers are expected.
func (b bench) take(d dgram.Datagram, want ...dgram.Datagram) {
	b.t.Helper()
	got, err := b.k.Take(encode(b.t, d))
	must(b.t, err)
	var texts []string
	for _, w := range want {
		texts = append(texts, encode(b.t, w))
	}
	if slices.Equal(got, texts) {
		return
	}
	for _, text := range got {
		d, _ := dgram.Decode(text)
		b.t.Errorf("told %+v", d)
	}
	b.t.Fatalf("expected %+v", want)
}

// fail to take a datagram.
func (b bench) fail(d dgram.Datagram, want api.Errno) {
	b.t.Helper()
	if l, err := b.k.Take(encode(b.t, d)); len(l) > 0 || err != want {
		b.t.Fatal(len(l), err, "not", want)
	}
}

// expect what is staged, what is held, and why it aborted; it isn't done.
func (b bench) expect(staged string, held int, aborted api.Errno) {
	b.t.Helper()
	if b.k.Staged() != staged || b.k.Held() != held || b.k.Aborted() != aborted {
		b.t.Fatal("staged", len(b.k.Staged()), "held", b.k.Held(), "aborted", b.k.Aborted(), "not", len(staged), held, aborted)
	}
	if s, ok := b.k.Committed(); s != "" || ok {
		b.t.Fatal("committed")
	}
	b.expectKept(staged, false)
}

// expectDone: an archive is committed, and so many bytes are held.
func (b bench) expectDone(archive string, held int) {
	b.t.Helper()
	if s, ok := b.k.Committed(); s != archive || !ok {
		b.t.Fatal("committed", len(s), ok, "not", len(archive))
	}
	if b.k.Staged() != archive || b.k.Held() != held || b.k.Aborted() != api.OK {
		b.t.Fatal("staged", len(b.k.Staged()), "held", b.k.Held(), "aborted", b.k.Aborted())
	}
	b.expectKept(archive, true)
}

// expectKept: what lasts, where the power is on.
func (b bench) expectKept(bytes string, done bool) {
	b.t.Helper()
	if !b.d.On() {
		return
	}
	k := openKeep(b.t, b.d)
	s, err := k.Read(0, len(bytes))
	must(b.t, err)
	if s != bytes || k.State().Size != len(bytes) || k.State().Done != done || len(b.d.Dirty()) > 0 {
		b.t.Fatalf("%+v", k.State())
	}
}

func hello() dgram.Datagram {
	return dgram.Datagram{Kind: dgram.Hello, Session: session, Epoch: epoch}
}

func abort() dgram.Datagram {
	return dgram.Datagram{Kind: dgram.Abort, Session: session, Epoch: epoch}
}

// welcome, where so many bytes are there.
func welcome(bytes string) dgram.Datagram {
	return dgram.Datagram{Kind: dgram.Welcome, Session: session, Epoch: epoch, At: uint64(len(bytes)), Sum: sum(bytes)}
}

func lastWelcome(archive string) dgram.Datagram {
	d := welcome(archive)
	d.Last = true
	return d
}

// ack, where so many bytes are there.
func ack(bytes string, next, there uint32) dgram.Datagram {
	return dgram.Datagram{Kind: dgram.Ack, Session: session, Epoch: epoch, Seq: next, At: uint64(len(bytes)), Map: there}
}

// dataOf some number: a text behind others.
func dataOf(n uint32, ahead, text string) dgram.Datagram {
	return dgram.Datagram{
		Kind: dgram.Data, Session: session, Epoch: epoch, Seq: n,
		At: uint64(len(ahead)), Sum: sum(ahead + text), Text: text,
	}
}

func lastData(n uint32, ahead, text string) dgram.Datagram {
	d := dataOf(n, ahead, text)
	d.Last = true
	return d
}

// with another session.
func with(d dgram.Datagram, session, epoch uint32) dgram.Datagram {
	d.Session, d.Epoch = session, epoch
	return d
}

// datasOf segments, by their numbers from one on.
func datasOf(first uint32, segments []string) []dgram.Datagram {
	var l []dgram.Datagram
	for i, text := range segments {
		d := dataOf(first+uint32(i), strings.Join(segments[:i], ""), text)
		d.Last = i == len(segments)-1
		l = append(l, d)
	}
	return l
}
