package extract_test

import (
	"math/rand"
	"slices"
	"strconv"
	"strings"
	"testing"

	"lighter/api"
	"lighter/archive"
	"lighter/crc"
	"lighter/deflate"
	"lighter/dos"
	"lighter/extract"
	"lighter/parse"
	"lighter/zip"
)

func someTime() dos.Time {
	return dos.Time{Year: 2024, Month: 2, Day: 29, Hour: 23, Minute: 59, Second: 58}
}

func file(name, data string) archive.File {
	return archive.File{Name: name, Time: someTime(), Data: data}
}

// someFiles: short ones, so that each byte of their archives can be another one.
func someFiles() [][]archive.File {
	return [][]archive.File{
		nil,
		{file("a", "")},
		{file("b", "text")},
		{file("a", ""), file("\xc3\xa9/b", strings.Repeat("text ", 10)), file("c", "\x00\xff"), file("d", "")},
	}
}

func made(t *testing.T, files []archive.File, level int) string {
	t.Helper()
	s, err := archive.Make(files, level)
	if err != api.OK {
		t.Fatal(err)
	}
	return s
}

// against the model.
func against(t *testing.T, what, s string) answer {
	t.Helper()
	want := modelOf(s)
	names, err := extract.Names(s)
	if !slices.Equal(names, want.names) || err != want.namesErr {
		t.Fatalf("%s: Names of %x: %q, %d", what, s, names, err)
	}
	files, err := extract.All(s)
	if err != want.allErr || err != api.OK && len(files) > 0 || err == api.OK && !slices.Equal(files, want.files) {
		t.Fatalf("%s: All of %x: %v, %d, not %d", what, s, files, err, want.allErr)
	}
	for i, name := range names {
		f, err := extract.One(s, name)
		if f != want.files[i] || err != want.errs[i] {
			t.Fatalf("%s: One of %x, %q: %v, %d, not %d", what, s, name, f, err, want.errs[i])
		}
	}
	wantErr := want.namesErr
	if wantErr == api.OK {
		wantErr = api.ErrName
	}
	for _, name := range []string{"", "no such name", "b/", "B"} {
		if slices.Contains(names, name) {
			continue
		}
		if f, err := extract.One(s, name); f != (archive.File{}) || err != wantErr {
			t.Fatalf("%s: One of %x, %q: %v, %d", what, s, name, f, err)
		}
	}
	if extract.IsOf(want.files, s) != (want.allErr == api.OK) {
		t.Fatalf("%s: IsOf of %x", what, s)
	}
	return want
}

// salvaged: against the parser, and what is made of it.
func salvaged(t *testing.T, s string) {
	t.Helper()
	wantFiles, wantSize := modelSalvage(s)
	files, size := extract.Salvage(s)
	if !slices.Equal(files, wantFiles) || size != wantSize {
		t.Fatalf("Salvage of %x: %v, %d, not %d", s, files, size, wantSize)
	}
	whole := extract.Mend(s)
	if !strings.HasPrefix(whole, s[:size]) || !extract.IsOf(files, whole) {
		t.Fatalf("Mend of %x: %x", s, whole)
	}
	if _, _, err := parse.All(whole); err != api.OK {
		t.Fatalf("Mend of %x: %x: %d", s, whole, err)
	}
	if extract.Mend(whole) != whole {
		t.Fatalf("Mend of %x once more", s)
	}
}

// taken: what a parser takes All takes, too.
func taken(t *testing.T, s string) {
	t.Helper()
	heads, texts, err := parse.All(s)
	if err != api.OK {
		return
	}
	files, err := extract.All(s)
	if len(files) != len(heads) || err != api.OK {
		t.Fatalf("All of %x: %v, %d", s, files, err)
	}
	for i, f := range files {
		if f != (archive.File{Name: heads[i].Name, Time: heads[i].Time, Data: texts[i]}) {
			t.Fatalf("All of %x: %v", s, f)
		}
	}
}

// IsOf of no files and 22 bytes of an end: true.
func TestExample(t *testing.T) {
	if s := zip.End(0, 0, 0); len(s) != 22 || !extract.IsOf(nil, s) || !extract.IsOf([]archive.File{}, s) {
		t.Error(s)
	}
}

// P16.1 to P16.3: what is made of files has just these.
func TestMade(t *testing.T) {
	r := rand.New(rand.NewSource(1))
	for range 60 {
		var files []archive.File
		var names []string
		for i := range r.Intn(9) {
			data := make([]byte, r.Intn(2)*r.Intn(3000))
			for k := range data {
				data[k] = byte(r.Intn(1 + r.Intn(256)))
			}
			f := file(strings.Repeat("dir/", r.Intn(3))+strconv.Itoa(i), string(data))
			f.Time, _ = dos.Of(r.Intn(43200 * 46751))
			files = append(files, f)
			names = append(names, f.Name)
		}
		s := made(t, files, r.Intn(10))
		if got, err := extract.Names(s); !slices.Equal(got, names) || err != api.OK {
			t.Fatal(got, names, err)
		}
		if got, err := extract.All(s); !slices.Equal(got, files) || err != api.OK {
			t.Fatal(got, err)
		}
		for _, f := range files {
			if got, err := extract.One(s, f.Name); got != f || err != api.OK {
				t.Fatal(got, f, err)
			}
		}
		if !extract.IsOf(files, s) {
			t.Fatal(names)
		}
		taken(t, s)
	}
}

// P16.3: other files than those of the archive.
func TestIsOf(t *testing.T) {
	files := []archive.File{file("a", ""), file("b", "text"), file("c", "some")}
	s := made(t, files, 9)
	for what, change := range map[string]func(l []archive.File) []archive.File{
		"a name":           func(l []archive.File) []archive.File { l[1].Name = "B"; return l },
		"a time":           func(l []archive.File) []archive.File { l[0].Time.Second = 0; return l },
		"a time, the last": func(l []archive.File) []archive.File { l[2].Time.Year++; return l },
		"bytes":            func(l []archive.File) []archive.File { l[1].Data = "Text"; return l },
		"more bytes":       func(l []archive.File) []archive.File { l[0].Data = "x"; return l },
		"less bytes":       func(l []archive.File) []archive.File { l[2].Data = ""; return l },
		"another order":    func(l []archive.File) []archive.File { l[0], l[1] = l[1], l[0]; return l },
		"one less":         func(l []archive.File) []archive.File { return l[:2] },
		"the first less":   func(l []archive.File) []archive.File { return l[1:] },
		"one more":         func(l []archive.File) []archive.File { return append(l, file("d", "")) },
		"none":             func(l []archive.File) []archive.File { return nil },
	} {
		if extract.IsOf(change(slices.Clone(files)), s) {
			t.Error(what)
		}
	}
	if !extract.IsOf(files, s) || extract.IsOf(nil, "") || extract.IsOf(nil, s[1:]) || extract.IsOf(files, s+"\x00") {
		t.Error("the files, or what is no archive")
	}
	// Other bytes, packed in another way.
	if !extract.IsOf(files, made(t, files, 0)) || extract.IsOf(nil, made(t, files, 9)) {
		t.Error("level 0")
	}
}

// P16.1, P16.2: each bit another one.
func TestFlips(t *testing.T) {
	for i, files := range someFiles() {
		s := made(t, files, 9)
		against(t, "made", s)
		for at := range len(s) {
			for bit := range 8 {
				b := []byte(s)
				b[at] ^= 1 << bit
				against(t, "bit "+strconv.Itoa(bit)+" of "+strconv.Itoa(at)+" of "+strconv.Itoa(i), string(b))
				taken(t, string(b))
				salvaged(t, string(b))
			}
		}
	}
}

// P16.1: less than all of it, and more.
func TestCuts(t *testing.T) {
	for _, files := range someFiles() {
		s := made(t, files, 9)
		for n := range len(s) {
			for _, cut := range []string{s[:n], s[n+1:], s[:n] + s[n+1:], s[:n] + "\x00" + s[n:]} {
				against(t, "cut", cut)
				taken(t, cut)
				salvaged(t, cut)
			}
		}
		for _, more := range []string{"\x00", "PK", s, zip.End(0, 0, 0)} {
			if against(t, "ahead", more+s).namesErr != api.ErrForm && more+s != s+s {
				t.Errorf("%x", more)
			}
			against(t, "behind", s+more)
			salvaged(t, s+more)
		}
	}
}

// P16.3, P16.4: archives that are spoilt at random.
func TestSpoilt(t *testing.T) {
	r := rand.New(rand.NewSource(2))
	var l []string
	for level, files := range someFiles() {
		l = append(l, made(t, files, 3*level))
	}
	for range 3000 {
		s := l[r.Intn(len(l))]
		for range 1 + r.Intn(3) {
			from := r.Intn(len(s) + 1)
			to := from + r.Intn(min(40, len(s)-from)+1)
			other := l[r.Intn(len(l))]
			begin := r.Intn(len(other) + 1)
			end := begin + r.Intn(min(40, len(other)-begin)+1)
			switch r.Intn(4) {
			case 0:
				s = s[:from] + s[to:]
			case 1:
				s = s[:to] + s[from:]
			case 2:
				s = s[:from] + other[begin:end] + s[from:]
			default:
				s = s[:from] + other[begin:end] + s[to:]
			}
		}
		against(t, "spoilt", s)
		taken(t, s)
		salvaged(t, s)
	}
}

// P16.4: cut at each place: just the files that are whole.
func TestSalvage(t *testing.T) {
	files := []archive.File{file("a", ""), file("b", "text"), file("c", strings.Repeat("c", 999)), file("d", "")}
	s := made(t, files, 9)
	sizes, _, _ := archive.Sizes(files, 9)
	for n := range len(s) + 1 {
		count, size := 0, 0
		for count < len(files) && n >= size+sizes[count] {
			size += sizes[count]
			count++
		}
		got, entries := extract.Salvage(s[:n])
		if !slices.Equal(got, files[:count]) || entries != size {
			t.Fatal(n, got, entries, size)
		}
		if extract.Mend(s[:n]) != made(t, files[:count], 9) {
			t.Fatal(n)
		}
	}
	// Files that are whole ahead of an error.
	b := []byte(s)
	b[sizes[0]+sizes[1]+sizes[2]-1] ^= 1
	if got, entries := extract.Salvage(string(b)); !slices.Equal(got, files[:2]) || entries != sizes[0]+sizes[1] {
		t.Error(got, entries)
	}
	if got, entries := extract.Salvage("no archive"); len(got) != 0 || entries != 0 || extract.Mend("no archive") != zip.End(0, 0, 0) {
		t.Error(got, entries)
	}
	if extract.Mend(s+"more") != s || extract.Mend("") != zip.End(0, 0, 0) {
		t.Error("Mend")
	}
}

// entry of an archive: what stands ahead of the tail, and the head in it.
type entry struct {
	local, stream, descr string
	head                 zip.Head
}

// packed entry, as it should be.
func packed(name, data string) entry {
	stream, _ := deflate.All(data, 9)
	h := zip.Head{Name: name, Time: someTime(), Packed: uint64(len(stream)), Size: uint64(len(data)), Sum: crc.Make().Sum(data)}
	return entry{head: h, stream: stream, local: h.Local(), descr: h.Descr()}
}

// streamed entry, whose bytes are such a stream, and whose head tells what it tells of the right one.
func streamed(name, stream, data string) entry {
	e := packed(name, data)
	e.stream = stream
	e.head.Packed = uint64(len(stream))
	e.descr = e.head.Descr()
	return e
}

// told entry: what its head and its descriptor tell is another size and sum.
func told(e entry, size uint64, sum uint32) entry {
	e.head.Size, e.head.Sum = size, sum
	e.descr = e.head.Descr()
	return e
}

// archiveOf entries, with their heads in the directory.
func archiveOf(l ...entry) string {
	s := ""
	var heads []zip.Head
	for _, e := range l {
		e.head.At = uint64(len(s))
		heads = append(heads, e.head)
		s += e.local + e.stream + e.descr
	}
	return s + parse.Tail(heads)
}

// P16.2: what is wrong with a file, in this order.
func TestErrors(t *testing.T) {
	right := packed("a", "text")
	sum := right.head.Sum
	other := packed("b", "text")
	early := right
	early.head.Time.Year = 1980
	local := func(e entry) entry { e.local = other.local; return e }
	descr := func(e entry) entry { e.descr = strings.Repeat("\x00", 16); return e }
	empty := packed("a", "")
	kept := entry{head: zip.Head{Name: "a", Time: someTime(), Kept: true}}
	kept.local = kept.head.Local()
	summed := kept
	summed.head.Sum = 1
	for _, x := range []struct {
		what string
		e    entry
		err  api.Errno
	}{
		{"right", right, api.OK},
		{"another name", local(right), api.ErrForm},
		{"another time", early, api.ErrForm},
		{"no descriptor", descr(right), api.ErrForm},
		{"another descriptor", entry{right.local, right.stream, told(right, 5, sum).descr, right.head}, api.ErrForm},
		{"another head", entry{right.local, right.stream, right.descr, told(right, 4, sum+1).head}, api.ErrForm},
		{"a part of a stream", streamed("a", right.stream[:3], "text"), api.ErrMore},
		{"no stream", streamed("a", "", "text"), api.ErrMore},
		{"a wrong stream", streamed("a", "\x07", "text"), api.ErrForm},
		{"a wrong size in it", streamed("a", "\x01\x04\x00\x04\x00text", "text"), api.ErrSize},
		{"a wrong distance", streamed("a", "\x03\x02\x00", "text"), api.ErrDist},
		{"bytes behind a stream", streamed("a", right.stream+"\x00", "text"), api.ErrForm},
		{"two streams", streamed("a", right.stream+right.stream, "text"), api.ErrForm},
		{"too great", told(right, 5, sum), api.ErrSize},
		{"too small", told(right, 3, sum), api.ErrSize},
		{"none", told(right, 0, 0), api.ErrSize},
		{"another sum", told(right, 4, sum^1), api.ErrSum},
		{"another sum, its last bit", told(right, 4, sum^1<<31), api.ErrSum},
		{"no bytes", empty, api.OK},
		{"no bytes, with a sum", told(empty, 0, 1), api.ErrSum},
		{"no bytes, with a size", told(empty, 1, 0), api.ErrSize},
		{"kept", kept, api.OK},
		{"kept, with a sum", summed, api.ErrSum},
		{"kept, another name, with a sum", local(summed), api.ErrForm},
		// The first of several.
		{"a descriptor, a part of a stream", descr(streamed("a", right.stream[:3], "text")), api.ErrForm},
		{"a name, a part of a stream", local(streamed("a", right.stream[:3], "text")), api.ErrForm},
		{"a part of a stream, a size", told(streamed("a", right.stream[:3], "text"), 9, 0), api.ErrMore},
		{"bytes behind a stream, a size", told(streamed("a", right.stream+"\x00", "text"), 9, 0), api.ErrForm},
		{"a size, a sum", told(right, 9, 0), api.ErrSize},
	} {
		s := archiveOf(x.e)
		if f, err := extract.One(s, "a"); err != x.err || (f == archive.File{}) != (err != api.OK) {
			t.Error(x.what, f, err)
		}
		// Of two files that are wrong the first one counts.
		bad := packed("c", "more")
		bad = told(bad, 4, bad.head.Sum^1)
		for i, l := range [][]entry{{x.e}, {x.e, bad}, {packed("0", "0"), x.e, bad}, {bad, x.e}} {
			s := archiveOf(l...)
			if a := against(t, x.what, s); len(a.names) != len(l) {
				t.Error(x.what, a)
			}
			want := x.err
			if i == 3 || i > 0 && want == api.OK {
				want = api.ErrSum
			}
			if files, err := extract.All(s); err != want || err != api.OK && len(files) > 0 {
				t.Error(x.what, i, files, err)
			}
		}
	}
}

// P16.1: names that can't stand beside one another; the directory counts ahead of them.
func TestNames(t *testing.T) {
	for _, names := range [][]string{{"a", "a"}, {"a", "a/b"}, {"a/b/c", "x", "a/b"}} {
		var l []entry
		for _, name := range names {
			l = append(l, packed(name, "text"))
		}
		s := archiveOf(l...)
		if got, err := extract.Names(s); len(got) > 0 || err != api.ErrTwice {
			t.Error(names, got, err)
		}
		for _, name := range []string{"a", "x", "none"} {
			if f, err := extract.One(s, name); f != (archive.File{}) || err != api.ErrTwice {
				t.Error(names, f, err)
			}
		}
		if files, err := extract.All(s); len(files) > 0 || err != api.ErrTwice || extract.IsOf(nil, s) {
			t.Error(names, files, err)
		}
		against(t, "twice", s)
		against(t, "twice, no directory", s+"\x00")
		salvaged(t, s)
	}
}

// P16.1: other directories of the same files.
func TestDirectory(t *testing.T) {
	files := []archive.File{file("a", "text"), file("b", ""), file("c", "some")}
	s := made(t, files, 9)
	sizes, tail, _ := archive.Sizes(files, 9)
	entries := s[:len(s)-tail]
	heads, _, _ := parse.All(s)
	at := uint64(len(entries))
	changed := func(i int, change func(h *zip.Head)) []zip.Head {
		l := slices.Clone(heads)
		change(&l[i])
		return l
	}
	central := func(l []zip.Head) string {
		s := ""
		for _, h := range l {
			s += h.Central()
		}
		return s
	}
	right := central(heads)
	size := uint64(len(right))
	for what, d := range map[string]string{
		"one less":              right + zip.End(2, size, at),
		"one more":              right + zip.End(4, size, at),
		"none counted":          right + zip.End(0, size, at),
		"a byte less":           right + zip.End(3, size-1, at),
		"a byte more":           right + zip.End(3, size+1, at),
		"no bytes":              right + zip.End(3, 0, at),
		"a place too low":       right + zip.End(3, size, at-1),
		"a place too high":      right + zip.End(3, size, at+1),
		"a place at 0":          right + zip.End(3, size, 0),
		"lower, with a byte":    right + zip.End(3, size+1, at-1),
		"higher, without":       right + zip.End(3, size-1, at+1),
		"a byte between":        right + "\x00" + zip.End(3, size, at),
		"a byte of it":          right + "\x00" + zip.End(3, size+1, at),
		"a byte ahead":          "\x00" + right + zip.End(3, size, at+1),
		"a byte ahead of it":    "\x00" + right + zip.End(3, size+1, at),
		"many":                  right + zip.End(65535, size, at),
		"very many":             right + zip.End(1<<62-1, size, at),
		"a wide size":           right + zip.End(3, 1<<32-1, at),
		"a very wide size":      right + zip.End(3, 1<<62-1, at),
		"a wide place":          right + zip.End(3, size, 1<<62-1),
		"all wide":              right + zip.End(1<<62-1, 1<<62-1, 1<<62-1),
		"the last one missing":  central(heads[:2]) + zip.End(2, uint64(len(central(heads[:2]))), at),
		"the first one missing": central(heads[1:]) + zip.End(2, uint64(len(central(heads[1:]))), at),
		"another order":         central([]zip.Head{heads[0], heads[2], heads[1]}) + zip.End(3, size, at),
		"one twice":             central([]zip.Head{heads[0], heads[1], heads[1]}) + zip.End(3, size-2, at),
		"another place":         central(changed(1, func(h *zip.Head) { h.At++ })) + zip.End(3, size, at),
		"another first place":   central(changed(0, func(h *zip.Head) { h.At++ })) + zip.End(3, size, at),
		"a higher place":        central(changed(2, func(h *zip.Head) { h.At += 1 << 40 })) + zip.End(3, size+12, at),
		"more packed bytes":     central(changed(2, func(h *zip.Head) { h.Packed++ })) + zip.End(3, size, at),
		"many packed bytes":     central(changed(2, func(h *zip.Head) { h.Packed = 1<<62 - 1 })) + zip.End(3, size+20, at),
		"less packed bytes":     central(changed(0, func(h *zip.Head) { h.Packed-- })) + zip.End(3, size, at),
		"a longer name":         central(changed(0, func(h *zip.Head) { h.Name += "a" })) + zip.End(3, size+1, at),
		"a kept one":            central(changed(1, func(h *zip.Head) { h.Kept = false })) + zip.End(3, size, at),
		"no end":                right,
		"nothing":               "",
		"an end of none":        zip.End(0, 0, at),
		"an end of none at 0":   zip.End(0, 0, 0),
	} {
		if a := against(t, what, entries+d); a.namesErr != api.ErrForm {
			t.Error(what, a)
		}
		salvaged(t, entries+d)
	}
	// Another size there is the file's error, not the directory's.
	s = entries + central(changed(0, func(h *zip.Head) { h.Size++ })) + zip.End(3, size, at)
	if a := against(t, "another size", s); a.namesErr != api.OK || a.errs[0] != api.ErrForm || a.errs[2] != api.OK {
		t.Error(a)
	}
	if sizes[1] != 31 {
		t.Error(sizes)
	}
}

// P16.1, P16.3: as many files that the end has numbers of 64 bits, and one less.
func TestManyFiles(t *testing.T) {
	for _, n := range []int{65534, 65535, 65536} {
		files := make([]archive.File, n)
		for i := range files {
			files[i] = file(strconv.Itoa(i), "")
		}
		files[n/2].Data = "text"
		s := made(t, files, 1)
		if got, err := extract.All(s); !slices.Equal(got, files) || err != api.OK || !extract.IsOf(files, s) {
			t.Fatal(n, len(got), err)
		}
		if f, err := extract.One(s, strconv.Itoa(n/2)); f != files[n/2] || err != api.OK {
			t.Error(n, f, err)
		}
		if got, entries := extract.Salvage(s[:len(s)-1]); !slices.Equal(got, files) || entries == 0 {
			t.Error(n, len(got), entries)
		}
		if extract.Mend(s[:len(s)-1]) != s {
			t.Error(n, "Mend")
		}
		// Each byte of the end counts.
		end := 98
		if n == 65534 {
			end = 22
		}
		for at := len(s) - end; at < len(s); at++ {
			b := []byte(s)
			b[at] ^= 4
			if names, err := extract.Names(string(b)); len(names) > 0 || err != api.ErrForm {
				t.Error(n, at, len(names), err)
			}
		}
		if n == 65535 {
			// The last 22 bytes alone are no end.
			short := s[:len(s)-98] + s[len(s)-22:]
			if names, err := extract.Names(short); len(names) > 0 || err != api.ErrForm {
				t.Error(n, len(names), err)
			}
		}
	}
}

// P16.1: more files than there may be.
func TestMostFiles(t *testing.T) {
	var s, tail strings.Builder
	for i := range api.MaxFiles + 1 {
		h := zip.Head{Name: strconv.Itoa(i), Time: someTime(), Kept: true, At: uint64(s.Len())}
		s.WriteString(h.Local())
		tail.WriteString(h.Central())
	}
	end := zip.End(api.MaxFiles+1, uint64(tail.Len()), uint64(s.Len()))
	if names, err := extract.Names(s.String() + tail.String() + end); len(names) > 0 || err != api.ErrLimit {
		t.Error(len(names), err)
	}
}
