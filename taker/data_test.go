package taker_test

import (
	"math"
	"slices"
	"strings"
	"testing"

	"lighter/api"
	"lighter/dgram"
)

// P28.3: an archive that comes in order, whatever the first number is: an ack each, and a welcome in the end.
func TestInOrder(t *testing.T) {
	for _, l := range [][]int{{}, {0}, {300, 0, 1000}} {
		for _, first := range []uint32{0, 1, 77, 1<<31 - 1, math.MaxUint32 - 1, math.MaxUint32} {
			segments := segmentsOf(t, filesOf(l...))
			b := newTaker(t, 1)
			s := ""
			for i, d := range datasOf(first, segments) {
				s += segments[i]
				if d.Last {
					b.take(d, lastWelcome(s))
					b.expectDone(s, 0)
				} else {
					b.take(d, ack(s, first+uint32(i)+1, 0))
					b.expect(s, 0, api.OK)
				}
			}
		}
	}
}

// P28.3: an archive that comes in any order, within the window.
func TestAnyOrder(t *testing.T) {
	segments := segmentsOf(t, filesOf(400, 0)) // two and one of the files, and the tail
	if len(segments) != 4 {
		t.Fatal(len(segments))
	}
	all := strings.Join(segments, "")
	for _, first := range []uint32{0, math.MaxUint32 - 1} {
		for order := range 4 * 4 * 4 * 4 {
			b := newTaker(t, 4)
			l := datasOf(first, segments)
			b.take(dataOf(first, "", ""), ack("", first+1, 0)) // in step, by a text without bytes
			for i := range l {
				l[i].Seq++
			}
			came := map[int]bool{}
			for k := range 4 {
				i := order >> (2 * k) & 3
				came[i] = true
				next, there, held := 0, uint32(0), 0
				for came[next] {
					next++
				}
				for j := next + 1; j < 4; j++ {
					if came[j] {
						there |= 1 << (j - next - 1)
						held += len(segments[j])
					}
				}
				s := strings.Join(segments[:next], "")
				if next == 4 {
					b.take(l[i], lastWelcome(all))
					b.expectDone(all, 0)
				} else {
					b.take(l[i], ack(s, first+1+uint32(next), there))
					b.expect(s, held, api.OK)
				}
			}
		}
	}
}

// P28.3: numbers that come twice, or that the window doesn't take, change nothing.
func TestNotTaken(t *testing.T) {
	segments := segmentsOf(t, filesOf(2000))
	l := datasOf(10, segments)
	b := newTaker(t, 3)
	b.take(l[0], ack(segments[0], 11, 0))
	b.take(l[3], ack(segments[0], 11, 2))
	other := l[3]
	other.Text, other.At, other.Sum, other.Last = "other", 1, 2, true
	b.take(other, ack(segments[0], 11, 2)) // its note is the first one's, too
	for _, n := range []uint32{0, 9, 10, 14, 15, 11 + 1<<31, math.MaxUint32} {
		other.Seq = n
		b.take(other, ack(segments[0], 11, 2))
	}
	b.expect(segments[0], len(segments[3]), api.OK)
	b.take(l[2], ack(segments[0], 11, 3))
	b.take(l[1], ack(strings.Join(segments[:4], ""), 14, 0))
	b.expect(strings.Join(segments[:4], ""), 0, api.OK)
}

// P28.3: what isn't in step is answered by a welcome, till a Data stands just behind what is there.
func TestStep(t *testing.T) {
	segments := segmentsOf(t, filesOf(900))
	ahead := strings.Join(segments[:2], "")
	l := datasOf(0, segments)
	b := newBench(t, 4, diskWith(t, ahead, false))
	for _, i := range []int{0, 1, 3} {
		b.take(l[i], welcome(ahead))
		b.expect(ahead, 0, api.OK)
	}
	for _, at := range []uint64{uint64(len(ahead)) + 1, uint64(len(ahead)) + 1<<32, 1<<62 - 1} {
		d := l[2]
		d.At = at
		b.take(d, welcome(ahead))
	}
	b.expect(ahead, 0, api.OK)
	d := l[2]
	d.Seq = math.MaxUint32
	b.take(d, ack(ahead+segments[2], 0, 0))
	b.take(l[1], ack(ahead+segments[2], 0, 1)) // its number is in the window, by now
	b.expect(ahead+segments[2], len(segments[1]), api.OK)
	b.take(l[3], ack(ahead+segments[2], 0, 5))
}

// P28.3: a Data by which it is in step, but whose Sum is wrong, aborts.
func TestWrongFirst(t *testing.T) {
	b := newTaker(t, 4)
	d := dataOf(3, "", "P")
	d.Sum++
	b.take(d, abort())
	b.expect("", 0, api.ErrSum)
}

// P28.3: a Data of another session isn't answered, whatever the state is.
func TestOtherSession(t *testing.T) {
	s := strings.Join(segmentsOf(t, filesOf(10)), "")
	aborted := newTaker(t, 4)
	aborted.take(dataOf(0, "", "junk"), abort())
	for _, b := range []bench{newTaker(t, 4), aborted, newBench(t, 4, diskWith(t, s, true)), newBench(t, 4, diskWith(t, s[:9], false))} {
		staged, why := b.k.Staged(), b.k.Aborted()
		for _, session := range []uint32{0, session + 1, session ^ 1<<31} {
			b.take(with(dataOf(0, staged, "P"), session, epoch))
			b.take(with(dataOf(0, staged, "P"), session, epoch+1))
		}
		if b.k.Staged() != staged || b.k.Aborted() != why {
			t.Error("something has changed")
		}
	}
}

// P28.3: what is done answers each Data of its session by a welcome, whatever its epoch.
func TestDataOfDone(t *testing.T) {
	s := strings.Join(segmentsOf(t, filesOf(10)), "")
	b := newBench(t, 4, diskWith(t, s, true))
	lasted := b.d.Image()
	for _, epoch := range []uint32{5, 4, 5, 1 << 31, 0} {
		for _, d := range []dgram.Datagram{dataOf(0, "", "P"), dataOf(0, s, "P"), lastData(9, s, "")} {
			b.take(with(d, session, epoch), with(lastWelcome(s), session, epoch))
			b.expectDone(s, 0)
		}
	}
	if b.d.Image() != lasted {
		t.Error("the disk has changed")
	}
}

// P28.3: what has aborted answers each Data of its session by an Abort, whatever its epoch; the first error stays.
func TestDataOfAborted(t *testing.T) {
	segments := segmentsOf(t, filesOf(900))
	l := datasOf(0, segments)
	b := newTaker(t, 4)
	b.take(l[0], ack(segments[0], 1, 0))
	wrong := l[1]
	wrong.Sum++
	b.take(l[2], ack(segments[0], 1, 1))
	b.take(wrong, abort())
	held := b.k.Held()
	lasted := b.d.Image()
	for _, epoch := range []uint32{5, 4, 6, 0} {
		for _, d := range append(l, dataOf(9, segments[0], "junk")) {
			b.take(with(d, session, epoch), with(abort(), session, epoch))
			b.expect(segments[0], held, api.ErrSum)
		}
	}
	if b.d.Image() != lasted {
		t.Error("the disk has changed")
	}
	b = newBench(t, 4, b.d)
	b.take(l[1], ack(segments[0]+segments[1], 2, 0))
}

// P28.3: a Data of an epoch ahead of the one that was heard isn't answered; a later one is heard, and breaks the step.
func TestDataEpochs(t *testing.T) {
	segments := segmentsOf(t, filesOf(900))
	l := datasOf(0, segments)
	for _, heard := range []uint32{0, 5, math.MaxUint32} {
		for _, gap := range []uint32{0, 1, 1<<31 - 1, 1 << 31, 1<<31 + 1, math.MaxUint32} {
			b := newBench(t, 4, diskWith(t, "", false))
			at := func(d dgram.Datagram, epoch uint32) dgram.Datagram { return with(d, session, epoch) }
			b.take(at(l[0], heard), at(ack(segments[0], 1, 0), heard)) // the first one that is heard
			b.take(at(l[2], heard), at(ack(segments[0], 1, 1), heard))
			later := heard + gap
			switch {
			case gap == 0:
				b.take(at(l[1], later), at(ack(strings.Join(segments[:3], ""), 3, 0), later))
			case gap <= 1<<31:
				b.take(at(l[3], later), at(welcome(segments[0]), later))
				b.expect(segments[0], 0, api.OK)
				b.take(at(l[1], later), at(ack(strings.Join(segments[:2], ""), 2, 0), later))
			default:
				b.take(at(l[1], later))
				b.expect(segments[0], len(segments[2]), api.OK)
				b.take(at(l[1], heard), at(ack(strings.Join(segments[:3], ""), 3, 0), heard))
			}
		}
	}
}

// P28.3: a later epoch's Data that stands just behind what is there is in step at once, by a new window.
func TestNewEpochInStep(t *testing.T) {
	segments := segmentsOf(t, filesOf(900))
	l := datasOf(0, segments)
	b := newTaker(t, 4)
	b.take(l[0], ack(segments[0], 1, 0))
	b.take(l[2], ack(segments[0], 1, 1))
	d := with(l[1], session, epoch+1)
	d.Seq = 100
	b.take(d, with(ack(segments[0]+segments[1], 101, 0), session, epoch+1))
	b.expect(segments[0]+segments[1], 0, api.OK)
}

// P28.3: At and Sum of each text are held against what is there, once it is the next one.
func TestWrongPlaces(t *testing.T) {
	segments := segmentsOf(t, filesOf(900))
	for i := 1; i < 3; i++ { // the one that is wrong: behind the other one, or ahead of it
		for _, spoil := range []func(d *dgram.Datagram){
			func(d *dgram.Datagram) { d.At++ },
			func(d *dgram.Datagram) { d.At-- },
			func(d *dgram.Datagram) { d.At = 0 },
			func(d *dgram.Datagram) { d.At += 1 << 32 },
			func(d *dgram.Datagram) { d.Sum ^= 1 },
			func(d *dgram.Datagram) { d.Sum ^= 1 << 31 },
			func(d *dgram.Datagram) { d.Sum = sum(d.Text) },
			func(d *dgram.Datagram) { d.Text = d.Text[1:] },
		} {
			l := datasOf(0, segments)
			b := newTaker(t, 4)
			b.take(l[0], ack(segments[0], 1, 0))
			spoil(&l[i])
			b.take(l[2], ack(segments[0], 1, 1))
			b.take(l[1], abort())
			if i == 1 {
				b.expect(segments[0], len(l[2].Text), api.ErrSum)
			} else {
				b.expect(segments[0]+segments[1], 0, api.ErrSum)
			}
		}
	}
}

// P28.3: a parser's error aborts; what it tells wrong isn't there.
func TestParserErrors(t *testing.T) {
	twice := segmentsOf(t, filesOf(0))[0] // one file's segment, as often as it comes
	for _, c := range []struct {
		name, ahead, text string
		want              api.Errno
	}{
		{"junk", "", "junk", api.ErrForm},
		{"a name that comes twice", twice, twice, api.ErrTwice},
		{"a block of the kind 3", "", "PK\x03\x04\x14\x00\x08\x00\x08\x00\x00\x00\x21\x00" + strings.Repeat("\x00", 12) + "\x01\x00\x00\x00a\x07", api.ErrForm},
		{"bytes far back", "", "PK\x03\x04\x14\x00\x08\x00\x08\x00\x00\x00\x21\x00" + strings.Repeat("\x00", 12) + "\x01\x00\x00\x00a\x03\x02", api.ErrDist},
	} {
		b := newTaker(t, 4)
		n := uint32(0)
		if c.ahead != "" {
			b.take(dataOf(0, "", c.ahead), ack(c.ahead, 1, 0))
			n++
		}
		b.take(dataOf(n+1, c.ahead+c.text, "more"), map[bool]dgram.Datagram{true: ack(c.ahead, 1, 1), false: welcome("")}[n == 1])
		b.take(dataOf(n, c.ahead, c.text), abort())
		b.expect(c.ahead, 4*int(n), c.want)
		lasted := b.d.Image()
		b.take(dataOf(n, c.ahead, c.text), abort())
		if b.d.Image() != lasted {
			t.Error(c.name, "the disk has changed")
		}
	}
}

// P28.3: the parser is fed ahead of the Append: what has no room is told so just where it may be.
func TestFull(t *testing.T) {
	segments := segmentsOf(t, filesOf(900))
	for _, room := range []int{1, 3, 4, 5, 8, 9, 14} { // sectors
		b := newBench(t, 4, newDisk(t, 8+room))
		b.take(hello(), welcome(""))
		s := ""
		for i, d := range datasOf(0, segments) {
			if len(s)+len(d.Text) > 64*room {
				junk := dataOf(d.Seq, s, strings.Repeat("j", 64*room-len(s)+1))
				if i == 0 && len(junk.Text) <= 256 {
					other := newBench(t, 4, newDisk(t, 8+room))
					other.take(hello(), welcome(""))
					other.take(junk, abort())
					other.expect("", 0, api.ErrForm)
				}
				b.take(d, abort())
				b.expect(s, 0, api.ErrFull)
				break
			}
			s += d.Text
			b.take(d, ack(s, uint32(i)+1, 0))
		}
		if b.k.Aborted() != api.ErrFull {
			t.Error(room, "there was room")
		}
		b.take(hello(), abort())
		b = newBench(t, 4, b.d)
		b.expect(s, 0, api.OK)
	}
}

// P28.3: an archive that has just as much room as it needs.
func TestJustRoom(t *testing.T) {
	s := strings.Join(segmentsOf(t, filesOf(100)), "")
	n := 0
	for (len(s)+n)%64 > 0 {
		n++
	}
	segments := segmentsOf(t, filesOf(100+n))
	s = strings.Join(segments, "")
	for less := range 2 {
		b := newBench(t, 4, newDisk(t, 8+len(s)/64-less))
		b.take(hello(), welcome(""))
		l := datasOf(0, segments)
		b.take(l[0], ack(segments[0], 1, 0))
		if less == 0 {
			b.take(l[1], lastWelcome(s))
			b.expectDone(s, 0)
		} else {
			b.take(l[1], abort())
			b.expect(segments[0], 0, api.ErrFull)
		}
	}
}

// P28.3: the last text must end the archive, and no other one may.
func TestEnds(t *testing.T) {
	segments := segmentsOf(t, filesOf(300, 0))
	all := strings.Join(segments, "")
	for n := range len(segments) {
		b := newTaker(t, 32)
		l := datasOf(0, segments)
		l[n].Last = !l[n].Last
		s := ""
		for i := range n {
			s += segments[i]
			b.take(l[i], ack(s, uint32(i)+1, 0))
		}
		held := 0
		if n > 0 && n+2 < len(l) {
			b.take(l[n+2], ack(s, uint32(n), 2)) // it waits behind that
			held = len(l[n+2].Text)
		}
		b.take(l[n], abort())
		s += segments[n]
		b.expect(s, held, api.ErrEnd)
		b = newBench(t, 32, b.d)
		if s == all { // what is whole, though it wasn't told as such
			b.expectDone(all, 0)
		} else {
			b.expect(s, 0, api.OK)
		}
	}
}

// P28.3: bytes behind the archive's end aren't asked for, where it is committed; no text of less bytes ends it.
func TestBehindTheEnd(t *testing.T) {
	segments := segmentsOf(t, filesOf(300))
	all := strings.Join(segments, "")
	n := uint32(len(segments))
	b := newTaker(t, 32)
	l := datasOf(0, segments)
	b.take(l[0], ack(segments[0], 1, 0))
	b.take(dataOf(n, all, "junk"), ack(segments[0], 1, 1<<(n-2)))
	for _, d := range l[1 : n-1] {
		b.take(d, ack(strings.Join(segments[:d.Seq+1], ""), d.Seq+1, 1<<(n-d.Seq-2)))
	}
	b.take(l[n-1], lastWelcome(all))
	b.expectDone(all, 4)
	for k := range uint32(3) {
		b.take(dataOf(n+k, all, "junk"), lastWelcome(all))
		b.expectDone(all, 4)
	}
}

// P28.3: texts without bytes: none of them is the last one, but behind a whole archive there is none.
func TestEmptyTexts(t *testing.T) {
	s := strings.Join(segmentsOf(t, nil), "")
	b := newTaker(t, 4)
	b.take(dataOf(0, "", ""), ack("", 1, 0))
	b.take(dataOf(1, "", s[:10]), ack(s[:10], 2, 0))
	b.take(dataOf(2, s[:10], ""), ack(s[:10], 3, 0))
	b.take(lastData(3, s[:10], s[10:]), lastWelcome(s))
	b.expectDone(s, 0)
	b = newTaker(t, 4)
	b.take(lastData(0, "", ""), abort())
	b.expect("", 0, api.ErrEnd)
}

// P28.3: archives in texts that are cut in other ways.
func TestOtherCuts(t *testing.T) {
	s := strings.Join(segmentsOf(t, filesOf(100, 0, 20)), "")
	for size := 1; size <= 256; size += 5 {
		var texts []string
		for chunk := range slices.Chunk([]byte(s), size) {
			texts = append(texts, string(chunk))
		}
		b := newTaker(t, 2)
		l := datasOf(0, texts)
		ahead := ""
		for i, d := range l[:len(l)-1] {
			ahead += texts[i]
			b.take(d, ack(ahead, d.Seq+1, 0))
		}
		b.take(l[len(l)-1], lastWelcome(s))
		b.expectDone(s, 0)
	}
}

// P28.3: the power fails at each Write and each Sync of a Data: its error is answered; made anew the taker goes on.
func TestDataFuse(t *testing.T) {
	segments := segmentsOf(t, filesOf(400, 0))
	all := strings.Join(segments, "")
	l := datasOf(0, segments)
	for fuse := 0; ; fuse++ {
		b := newTaker(t, 4)
		b.take(dataOf(math.MaxUint32, "", ""), ack("", 0, 0))
		for i, there := range []uint32{1, 3, 7} {
			b.take(l[i+1], ack("", 0, there))
		}
		b.d.Fuse(fuse)
		if _, err := b.k.Take(encode(t, l[0])); err == api.OK {
			b.expectDone(all, 0)
			if fuse < 10 {
				t.Error("power for", fuse)
			}
			break
		}
		if b.d.On() {
			t.Fatal(fuse, "an error without a power that fails")
		}
		staged := b.k.Staged() // the bytes that last, though the power is off
		if !strings.HasPrefix(all, staged) || b.k.Aborted() != api.OK {
			t.Fatal(fuse, len(staged), b.k.Aborted())
		}
		b.expect(staged, b.k.Held(), api.OK)
		b.d.Start()
		b.expect(staged, b.k.Held(), api.OK)
		refuses(t, b, l)
		b.expect(staged, b.k.Held(), api.OK)
		again := newBench(t, 4, b.d)
		if staged == all {
			again.expectDone(all, 0)
		} else {
			again.expect(staged, 0, api.OK)
			again.take(hello(), welcome(staged))
		}
	}
}

// refuses: behind an error nothing is acknowledged that doesn't last.
func refuses(t *testing.T, b bench, l []dgram.Datagram) {
	t.Helper()
	lasted := b.d.Image()
	for _, d := range append(slices.Clone(l), dataOf(9, b.k.Staged(), "P")) {
		b.fail(d, api.ErrState)
	}
	b.take(hello(), welcome(b.k.Staged()))
	b.fail(with(hello(), 3, 3), api.ErrState)
	if b.d.Image() != lasted {
		t.Fatal("the disk has changed")
	}
}
