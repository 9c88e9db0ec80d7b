package archive_test

import (
	"math"
	"slices"
	"strconv"
	"strings"
	"testing"

	"lighter/api"
	"lighter/archive"
	"lighter/dos"
)

// expect of all calls the same error, and nothing beside it.
func expect(t *testing.T, l []archive.File, level, at int, err api.Errno) {
	t.Helper()
	if n, got := archive.Check(l, level); n != at || got != err {
		t.Error("Check", n, got)
	}
	if err == api.OK {
		return
	}
	if s, got := archive.Make(l, level); s != "" || got != err {
		t.Error("Make", len(s), got)
	}
	if m, got := archive.New(l, level); m != nil || got != err {
		t.Error("New", m, got)
	}
	if segments, got := archive.Segments(l, level); len(segments) > 0 || got != err {
		t.Error("Segments", len(segments), got)
	}
	if sizes, tail, got := archive.Sizes(l, level); len(sizes) > 0 || tail != 0 || got != err {
		t.Error("Sizes", sizes, tail, got)
	}
	for n := 0; n <= len(l); n += 1 + len(l)/4 {
		if s, place, got := archive.Add(l[:n], l[n:], level); s != "" || place != at || got != err {
			t.Error("Add", n, len(s), place, got)
		}
	}
}

// P15.1: levels.
func TestLevels(t *testing.T) {
	bad := []archive.File{file("", ""), {Name: "a"}}
	for _, level := range []int{-1, 10, 256, math.MinInt, math.MaxInt} {
		expect(t, nil, level, 0, api.ErrArg)
		expect(t, []archive.File{file("a", "")}, level, 0, api.ErrArg)
		expect(t, bad, level, 0, api.ErrArg)
	}
	for level := range 10 {
		expect(t, nil, level, 0, api.OK)
		expect(t, []archive.File{file("a", ""), file("b", "text")}, level, 0, api.OK)
		expect(t, bad, level, 0, api.ErrName)
	}
}

// P15.1: names, then times.
func TestFiles(t *testing.T) {
	late := file("late", "")
	late.Time.Day = 30
	never := archive.File{Name: "never", Data: "text"}
	odd := file("odd", "text")
	odd.Time = dos.Time{Year: 2024, Month: 2, Day: 29, Second: 1}
	for _, x := range []struct {
		l   []archive.File
		at  int
		err api.Errno
	}{
		{[]archive.File{file("a", ""), file("", "")}, 1, api.ErrName},
		{[]archive.File{file("a", ""), file("b", ""), file("../c", "")}, 2, api.ErrName},
		{[]archive.File{file("a", ""), file("b", ""), file("a", "")}, 2, api.ErrTwice},
		{[]archive.File{file("a/b", ""), file("a", "text"), file("", "")}, 1, api.ErrTwice},
		{[]archive.File{file("a", ""), file("", ""), file("a", "")}, 1, api.ErrName},
		{[]archive.File{late}, 0, api.ErrTime},
		{[]archive.File{file("a", ""), never}, 1, api.ErrTime},
		{[]archive.File{file("a", ""), file("b", "text"), odd, late}, 2, api.ErrTime},
		// Of the names each is looked at ahead of all times.
		{[]archive.File{late, never, file("", "")}, 2, api.ErrName},
		{[]archive.File{file("a", ""), late, file("c", ""), file("a", "")}, 3, api.ErrTwice},
		{[]archive.File{file("a", ""), file("ab", "text"), file("b/a", ""), file("b/b", "")}, 0, api.OK},
	} {
		expect(t, x.l, 6, x.at, x.err)
	}
}

// P15.1: as many bytes as there may be, and more.
func TestTotal(t *testing.T) {
	const size = 1 << 24
	data := strings.Repeat("\x00", size)
	files := make([]archive.File, api.MaxTotal/size)
	for i := range files {
		files[i] = file(strconv.Itoa(i), data)
	}
	expect(t, files, 1, 0, api.OK)
	expect(t, append(files, file("none", "")), 1, 0, api.OK)
	n := len(files)
	expect(t, append(files, file("none", ""), file("one", "1"), file("two", "22")), 1, n+1, api.ErrLimit)
	files[7].Data += "1"
	expect(t, files, 1, n-1, api.ErrLimit)
	files[3].Data = data[2:]
	expect(t, append(files, file("one", "1")), 1, 0, api.OK)
	expect(t, append(files, file("one", "1"), file("two", "2")), 1, n+1, api.ErrLimit)
	// The times are looked at ahead of that.
	late := file("late", "")
	late.Time.Month = 13
	expect(t, append(files, file("one", "1"), file("two", "2"), late), 1, n+2, api.ErrTime)
}

// P15.1: as many files as there may be, and one more.
func TestMostFiles(t *testing.T) {
	files := make([]archive.File, api.MaxFiles+1)
	for i := range files {
		files[i] = file(strconv.Itoa(i), "")
	}
	files[9].Name = ""
	expect(t, files, 1, api.MaxFiles, api.ErrLimit)
	files[9].Name = "9"
	expect(t, files[1:], 1, 0, api.OK)
}

// P15.3: of none.
func TestNoMaker(t *testing.T) {
	var m *archive.Maker
	if s, ok := m.Next(); s != "" || ok {
		t.Error(s, ok)
	}
}

// What is handed in isn't changed, nor kept.
func TestHandedIn(t *testing.T) {
	files := []archive.File{file("a", "text"), file("b", ""), file("c", strings.Repeat("text ", 200)), file("d", "")}
	kept := slices.Clone(files)
	want, _ := archive.Make(kept, 9)
	archive.Segments(files, 9)
	archive.Sizes(files, 9)
	if s, _, _ := archive.Add(files[:2], files[2:], 9); s != want || !slices.Equal(files, kept) {
		t.Fatal(files)
	}
	archive.Add(files[:1], kept[3:], 9)
	if !slices.Equal(files, kept) {
		t.Fatal("the room behind a list", files)
	}
	m, _ := archive.New(files, 9)
	s, _ := m.Next()
	clear(files)
	for more, ok := m.Next(); ok; more, ok = m.Next() {
		s += more
	}
	if s != want {
		t.Error("a list that changed behind New")
	}
}
