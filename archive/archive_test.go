package archive_test

import (
	stdzip "archive/zip"
	"io"
	"math/rand"
	"slices"
	"strconv"
	"strings"
	"testing"
	"time"

	"lighter/api"
	"lighter/archive"
	"lighter/crc"
	"lighter/deflate"
	"lighter/dos"
	"lighter/parse"
	"lighter/zip"
)

func someTime() dos.Time {
	return dos.Time{Year: 2024, Month: 2, Day: 29, Hour: 23, Minute: 59, Second: 58}
}

func file(name, data string) archive.File {
	return archive.File{Name: name, Time: someTime(), Data: data}
}

// someData of that many bytes, of which some come again.
func someData(r *rand.Rand, n int) string {
	b := make([]byte, n)
	for i := range b {
		b[i] = byte(r.Intn(1 + r.Intn(256)))
		if i > 10 && r.Intn(3) > 0 {
			b[i] = b[i-1-r.Intn(10)]
		}
	}
	return string(b)
}

// someFiles of all kinds: without bytes, with few, with so many that a segment is filled just so, and with many.
func someFiles() [][]archive.File {
	r := rand.New(rand.NewSource(1))
	filled := make([]archive.File, 4)
	for i := range filled {
		data := make([]byte, api.Segment-30-1-5-16-2+i)
		r.Read(data)
		filled[i] = file(strconv.Itoa(i), string(data))
	}
	l := [][]archive.File{
		nil,
		{},
		{file("a", "")},
		{file("a", "text")},
		{file("a", ""), file("b", "text"), file("dir/b", "")},
		{file(strings.Repeat("n", api.Segment-30), ""), file(strings.Repeat("n", api.Segment-31), ""), file(strings.Repeat("n", api.Segment-29), "")},
		filled,
		{file("\xc3\xa9", strings.Repeat("text ", 100)), file("b", someData(r, 40000)), file("c", "")},
	}
	for range 5 {
		var files []archive.File
		for i := range r.Intn(7) {
			f := file("dir/"+strconv.Itoa(i), someData(r, r.Intn(1+r.Intn(2000))))
			f.Time, _ = dos.Of(r.Intn(43200 * 46751))
			files = append(files, f)
		}
		l = append(l, files)
	}
	return l
}

// modelParts, by the document's words: of each file its bytes, and the tail.
func modelParts(l []archive.File, level int) []string {
	var parts []string
	var central strings.Builder
	at := 0
	for _, f := range l {
		h := zip.Head{Name: f.Name, Time: f.Time, At: uint64(at), Kept: true}
		stream := ""
		if len(f.Data) > 0 {
			stream, _ = deflate.All(f.Data, level)
			h.Kept, h.Packed, h.Size, h.Sum = false, uint64(len(stream)), uint64(len(f.Data)), crc.Make().Sum(f.Data)
		}
		parts = append(parts, h.Local()+stream+h.Descr())
		at += len(parts[len(parts)-1])
		central.WriteString(h.Central())
	}
	return append(parts, central.String()+zip.End(uint64(len(l)), uint64(central.Len()), uint64(at)))
}

// modelSegments of these parts.
func modelSegments(parts []string) []string {
	var l []string
	for _, s := range parts {
		for len(s) > 256 {
			l = append(l, s[:256])
			s = s[256:]
		}
		l = append(l, s)
	}
	return l
}

// No files: one segment of 22 bytes.
func TestExample(t *testing.T) {
	if l, err := archive.Segments(nil, 9); len(l) != 1 || len(l[0]) != 22 || err != api.OK {
		t.Error(l, err)
	}
}

// P15.2 to P15.4: whatever is made, against the model.
func TestArchives(t *testing.T) {
	for i, files := range someFiles() {
		for level := range 10 {
			parts := modelParts(files, level)
			want := strings.Join(parts, "")
			if s, err := archive.Make(files, level); s != want || err != api.OK {
				t.Fatal(i, level, len(s), len(want), err)
			}
			segments := modelSegments(parts)
			if l, err := archive.Segments(files, level); !slices.Equal(l, segments) || err != api.OK {
				t.Fatal(i, level, len(l), len(segments), err)
			}
			checkMaker(t, files, level, segments)
			checkSizes(t, files, level, parts)
			checkAdd(t, files, level)
		}
	}
}

// checkMaker: its segments, and nothing behind them.
func checkMaker(t *testing.T, files []archive.File, level int, segments []string) {
	t.Helper()
	m, err := archive.New(files, level)
	if m == nil || err != api.OK {
		t.Fatal(level, err)
	}
	for i, want := range segments {
		if s, ok := m.Next(); s != want || !ok || len(s) == 0 || len(s) > api.Segment {
			t.Fatalf("level %d, segment %d: %q, %v", level, i, s, ok)
		}
	}
	for range 3 {
		if s, ok := m.Next(); s != "" || ok {
			t.Fatalf("level %d, behind the end: %q, %v", level, s, ok)
		}
	}
}

func checkSizes(t *testing.T, files []archive.File, level int, parts []string) {
	t.Helper()
	sizes, tail, err := archive.Sizes(files, level)
	if len(sizes) != len(files) || tail != len(parts[len(files)]) || err != api.OK {
		t.Fatal(level, sizes, tail, err)
	}
	for i, size := range sizes {
		if size != len(parts[i]) {
			t.Fatal(level, sizes)
		}
	}
}

// checkAdd: at each place the list is cut, and made of both.
func checkAdd(t *testing.T, files []archive.File, level int) {
	t.Helper()
	whole, _ := archive.Make(files, level)
	for n := range len(files) + 1 {
		s, at, err := archive.Add(files[:n], files[n:], level)
		if s != whole || at != 0 || err != api.OK {
			t.Fatal(level, n, len(s), at, err)
		}
		ahead, _ := archive.Make(files[:n], level)
		_, tail, _ := archive.Sizes(files[:n], level)
		if ahead = ahead[:len(ahead)-tail]; !strings.HasPrefix(s, ahead) {
			t.Fatal(level, n, "another beginning")
		}
	}
}

// P15.2: a parser takes the archive, with just these files.
func TestParsed(t *testing.T) {
	for i, files := range someFiles() {
		s, _ := archive.Make(files, i%10)
		heads, texts, err := parse.All(s)
		if len(heads) != len(files) || len(texts) != len(files) || err != api.OK {
			t.Fatal(i, len(heads), err)
		}
		for k, f := range files {
			h := heads[k]
			if h.Name != f.Name || h.Time != f.Time || h.Kept != (f.Data == "") || texts[k] != f.Data {
				t.Error(i, h, f)
			}
		}
	}
}

// P15.2: so does another program.
func TestOtherReader(t *testing.T) {
	for i, files := range someFiles() {
		s, _ := archive.Make(files, i%10)
		r, err := stdzip.NewReader(strings.NewReader(s), int64(len(s)))
		if err != nil || len(r.File) != len(files) {
			t.Fatal(i, err)
		}
		for k, f := range files {
			got := r.File[k]
			at := f.Time
			when := time.Date(at.Year, time.Month(at.Month), at.Day, at.Hour, at.Minute, at.Second, 0, time.UTC)
			if got.Name != f.Name || !got.Modified.Equal(when) {
				t.Error(i, got.Name, got.Modified)
			}
			in, err := got.Open()
			if err != nil {
				t.Fatal(i, k, err)
			}
			if data, err := io.ReadAll(in); string(data) != f.Data || err != nil {
				t.Error(i, k, len(data), err)
			}
		}
	}
}

// P15.2: so many files that the end needs numbers of 64 bits.
func TestManyFiles(t *testing.T) {
	for _, n := range []int{65534, 65535, 65536} {
		files := make([]archive.File, n)
		for i := range files {
			files[i] = file(strconv.Itoa(i), "")
		}
		s, err := archive.Make(files, 1)
		if s != strings.Join(modelParts(files, 1), "") || err != api.OK {
			t.Fatal(n, len(s), err)
		}
		if heads, _, err := parse.All(s); len(heads) != n || err != api.OK {
			t.Error(n, len(heads), err)
		}
	}
}
