package parse

import (
	"strconv"
	"strings"
	"testing"

	"lighter/api"
	"lighter/deflate"
	"lighter/dos"
	"lighter/zip"
)

func headOf(name string) zip.Head {
	return zip.Head{Name: name, Time: dos.Time{Year: 1980, Month: 1, Day: 1}}
}

// begun parser of a file, of which so many bytes came already.
func begun(t *testing.T, isBig bool, packed, size uint64) *Parser {
	t.Helper()
	h := headOf("a")
	if isBig {
		h.Size = 1<<32 - 1
	}
	p := New()
	if events, err := p.Feed(h.Local()); len(events) != 1 || events[0].Head != headOf("a") || err != api.OK {
		t.Fatal(events, err)
	}
	p.head.Packed, p.head.Size = packed, size
	return p
}

// fed: pieces of so many bytes: what is told, and the error.
func fed(p *Parser, s string, size int) (string, bool, api.Errno) {
	text, isFile := "", false
	for s != "" {
		n := min(size, len(s))
		events, err := p.Feed(s[:n])
		for _, e := range events {
			text += e.Text
			isFile = isFile || e.Kind == File
		}
		if err != api.OK {
			return text, isFile, err
		}
		s = s[n:]
	}
	return text, isFile, api.OK
}

// P14.2: as many bytes as a stream may tell without a big one's local header, and more.
func TestSizes(t *testing.T) {
	const text = "some bytes, some bytes, some bytes"
	const most = 4294705144 // 2^32 - 7 - 2^18, less one
	stream, _ := deflate.All(text, 9)
	for over := -3; over <= len(text); over++ {
		size := uint64(most + over)
		want, wantErr := text, api.OK
		if over > 0 {
			want, wantErr = text[:len(text)-over], api.ErrSize
		}
		for _, piece := range []int{1, 7, 1000} {
			p := begun(t, false, 0, size-uint64(len(text)))
			if got, _, err := fed(p, stream, piece); got != want || err != wantErr {
				t.Fatalf("%d over: %q, %d", over, got, err)
			}
			expectFile(t, p, size, wantErr)

			p = begun(t, true, 0, size-uint64(len(text)))
			if got, _, err := fed(p, stream, piece); got != text || err != api.OK {
				t.Fatalf("a big one, %d over: %q, %d", over, got, err)
			}
			// The head must be big, too.
			wantErr := api.OK
			if over < 2 {
				wantErr = api.ErrForm
			}
			expectFile(t, p, size, wantErr)
		}
	}
}

// expectFile of that size, or an error, behind the descriptor.
func expectFile(t *testing.T, p *Parser, size uint64, want api.Errno) {
	t.Helper()
	descr := p.head.Descr() + strings.Repeat("\x00", 8)
	if want == api.OK {
		descr = descr[:len(descr)-8]
	}
	_, isFile, err := fed(p, descr, 1)
	if isFile != (want == api.OK) || err != want {
		t.Fatal(size, isFile, err)
	}
	if isFile && (len(p.heads) != 1 || p.heads[0].Size != size) {
		t.Fatal(size, p.heads)
	}
}

// P14.2: the same of a stream's own bytes.
func TestPackedSizes(t *testing.T) {
	const text = "some bytes, some bytes, some bytes"
	stream, _ := deflate.All(text, 9)
	for over := -3; over <= len(stream); over++ {
		ahead := uint64(tooMany - 1 + over - len(stream))
		want := api.OK
		if over > 0 {
			want = api.ErrSize
		}
		if _, _, err := fed(begun(t, false, ahead, 0), stream, 1); err != want {
			t.Fatal(over, err)
		}
		if _, _, err := fed(begun(t, true, ahead, 0), stream, 1); err != api.OK {
			t.Fatal(over, err)
		}
	}
}

// P14.2: an error of a stream ahead of the byte that is too many, and behind it.
func TestSizeAhead(t *testing.T) {
	for over, want := range map[int]api.Errno{-1: api.ErrForm, 0: api.ErrForm, 1: api.ErrSize, 2: api.ErrSize} {
		p := begun(t, false, 0, uint64(tooMany-1-3+over))
		if text, _, err := fed(p, "\x00\x03\x00\xfc\xffabc\x07", 1000); err != want || text != "abc"[:min(3, 3-over)] {
			t.Error(over, text, err)
		}
	}
}

// An archive has at most MaxFiles files.
func TestMostFiles(t *testing.T) {
	p := New()
	h := headOf("")
	h.Kept = true
	for i := range api.MaxFiles {
		h.Name = strconv.Itoa(i)
		if events, err := p.Feed(h.Local()); len(events) != 2 || err != api.OK {
			t.Fatal(i, events, err)
		}
	}
	if len(p.heads) != api.MaxFiles {
		t.Fatal(len(p.heads))
	}
	h.Name = "one more"
	if events, err := p.Feed(h.Local()); len(events) > 0 || err != api.ErrForm {
		t.Error(len(events), err)
	}
}
