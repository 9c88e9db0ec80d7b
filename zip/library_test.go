package zip_test

import (
	library "archive/zip"
	"io"
	"strings"
	"testing"

	"lighter/crc"
	"lighter/zip"
)

// sparse: texts at places, noughts between.
type sparse struct {
	size  uint64
	parts map[uint64]string
}

func (x *sparse) put(s string) {
	x.parts[x.size] = s
	x.size += uint64(len(s))
}

func (x *sparse) ReadAt(p []byte, from int64) (int, error) {
	clear(p)
	begin, end := uint64(from), min(uint64(from)+uint64(len(p)), x.size)
	for at, s := range x.parts {
		for i := range len(s) {
			if place := at + uint64(i); place >= begin && place < end {
				p[place-begin] = s[i]
			}
		}
	}
	if end < begin+uint64(len(p)) {
		return int(max(begin, end) - begin), io.EOF
	}
	return len(p), nil
}

// file of an archive: its head but for At, and its packed bytes, or noughts instead.
type file struct {
	head   zip.Head
	packed string
}

// archiveOf files, as the chapters tell it.
func archiveOf(l []file) *sparse {
	x := &sparse{parts: map[uint64]string{}}
	centrals := ""
	for _, f := range l {
		f.head.At = x.size
		x.put(f.head.Local())
		x.parts[x.size] = f.packed
		x.size += f.head.Packed
		x.put(f.head.Descr())
		centrals += f.head.Central()
	}
	at := x.size
	x.put(centrals)
	x.put(zip.End(uint64(len(l)), uint64(len(centrals)), at))
	return x
}

// P13.1: the library reads them as they are meant, big ones, and far ones, too.
func TestLibrary(t *testing.T) {
	const text = "hi"
	stream := "\x01\x02\x00\xfd\xff" + text
	sum := crc.Make().Sum(text)
	some := file{zip.Head{Name: "some/\u03b1", Time: someTime(), Packed: uint64(len(stream)), Size: uint64(len(text)), Sum: sum}, stream}
	kept := file{zip.Head{Name: "kept", Time: firstTime(), Kept: true}, ""}
	atEdge := file{zip.Head{Name: "at the edge", Time: lastTime(), Packed: edge, Size: edge, Sum: 1}, ""}
	big := file{zip.Head{Name: "big", Time: someTime(), Packed: edge + 1, Size: 7, Sum: 2}, ""}
	again := func(f file, name string) file {
		f.head.Name = name
		return f
	}
	for _, l := range [][]file{
		{},
		{kept},
		{some},
		{some, kept, again(some, "b")},
		{kept, atEdge, some},
		{big, some},
		{some, atEdge, again(atEdge, "c"), some, big, again(kept, "d")},
	} {
		x := archiveOf(l)
		got, err := library.NewReader(x, int64(x.size))
		if err != nil {
			t.Fatal(err)
		}
		if len(got.File) != len(l) {
			t.Fatal(len(got.File), "files, not", len(l))
		}
		for i, f := range got.File {
			checkFile(t, f, l[i].head)
			if l[i].head.Packed < 100 {
				checkText(t, f, strings.Repeat(text, min(1, len(l[i].packed))))
			}
		}
	}
}

func checkFile(t *testing.T, f *library.File, h zip.Head) {
	t.Helper()
	if f.Name != h.Name || f.CRC32 != h.Sum || f.CompressedSize64 != h.Packed || f.UncompressedSize64 != h.Size || (f.Method == library.Store) != h.Kept || f.NonUTF8 {
		t.Error(f.FileHeader, h)
	}
	if when := f.Modified.UTC().Format("2006-01-02 15:04:05"); when != h.Time.Text() {
		t.Error(when, h.Time)
	}
	if _, err := f.OpenRaw(); err != nil {
		t.Error(h, err)
	}
}

func checkText(t *testing.T, f *library.File, want string) {
	t.Helper()
	r, err := f.Open()
	if err != nil {
		t.Error(err)
		return
	}
	defer r.Close()
	if s, err := io.ReadAll(r); err != nil || string(s) != want {
		t.Errorf("%s: %q, %v", f.Name, s, err)
	}
}
