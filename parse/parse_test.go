package parse_test

import (
	"math/rand"
	"reflect"
	"slices"
	"strconv"
	"strings"
	"testing"

	"lighter/api"
	"lighter/crc"
	"lighter/deflate"
	"lighter/dos"
	"lighter/parse"
	"lighter/zip"
)

func someTime() dos.Time {
	return dos.Time{Year: 2024, Month: 2, Day: 29, Hour: 23, Minute: 59, Second: 58}
}

// one file of an archive: its head but for At, and its packed bytes.
type one struct {
	head   zip.Head
	packed string
}

// kept file.
func kept(name string) one { return one{head: zip.Head{Name: name, Time: someTime(), Kept: true}} }

// filed: a file whose stream is that, and tells that text.
func filed(name, stream, text string) one {
	return one{zip.Head{Name: name, Time: someTime(), Packed: uint64(len(stream)), Size: uint64(len(text)), Sum: crc.Make().Sum(text)}, stream}
}

// stored file.
func stored(name, text string) one {
	stream, _ := deflate.All(text, 0)
	return filed(name, stream, text)
}

// packed file.
func packed(name, text string) one {
	stream, _ := deflate.All(text, 9)
	return filed(name, stream, text)
}

// entriesOf files: all but the tail, and their heads.
func entriesOf(l ...one) (string, []zip.Head) {
	s := ""
	var heads []zip.Head
	for _, f := range l {
		f.head.At = uint64(len(s))
		s += f.head.Local() + f.packed + f.head.Descr()
		heads = append(heads, f.head)
	}
	return s, heads
}

func archiveOf(l ...one) string {
	s, heads := entriesOf(l...)
	return s + modelTail(heads)
}

// ask of a parser what it holds.
func ask(p *parse.Parser, a answer) answer {
	a.whole, a.heads, a.entries = p.Whole(), p.Heads(), p.Entries()
	return a
}

// feed pieces; behind an error all are fed still.
func feed(t *testing.T, pieces []string) answer {
	t.Helper()
	var a answer
	p := parse.New()
	for _, s := range pieces {
		events, err := p.Feed(s)
		if a.err != api.OK && (err != a.err || len(events) > 0) {
			t.Fatal("behind the error", a.err, ":", events, err)
		}
		for _, e := range events {
			if (e.Kind == parse.Data) != (e.Text != "") || (e.Kind == parse.Data || e.Kind == parse.Done) && e.Head != (zip.Head{}) {
				t.Fatal(e)
			}
			a.tell(e)
		}
		a.err = err
	}
	return ask(p, a)
}

// cut a text at random.
func cut(r *rand.Rand, s string) []string {
	var pieces []string
	for s != "" {
		n := min(len(s), r.Intn(1+r.Intn(len(s)+1)))
		pieces = append(pieces, s[:n])
		s = s[n:]
	}
	return append(pieces, "")
}

func same(a, b answer) bool {
	if len(a.heads) == 0 && len(b.heads) == 0 {
		a.heads, b.heads = nil, nil
	}
	return reflect.DeepEqual(a, b)
}

func expect(t *testing.T, what, s string, got, want answer) {
	t.Helper()
	if !same(got, want) {
		t.Fatalf("%s: of %.400x:\n%.2000v, not\n%.2000v", what, s, got, want)
	}
}

// against the model: at once, byte by byte, and cut at random.
func against(t *testing.T, r *rand.Rand, s string) answer {
	t.Helper()
	want := modelOf(s)
	expect(t, "at once", s, feed(t, []string{s}), want)
	expect(t, "byte by byte", s, feed(t, strings.Split(s, "")), want)
	for range 2 {
		expect(t, "cut", s, feed(t, cut(r, s)), want)
	}
	checkAll(t, s, want)
	return want
}

// checkAll: what All tells of what the model tells.
func checkAll(t *testing.T, s string, want answer) {
	t.Helper()
	heads, texts, err := parse.All(s)
	if !want.whole {
		wrong := want.err
		if wrong == api.OK {
			wrong = api.ErrMore
		}
		if len(heads) > 0 || len(texts) > 0 || err != wrong {
			t.Fatalf("All of %x: %v %q %d, not %d", s, heads, texts, err, wrong)
		}
		return
	}
	var wantTexts []string
	text := ""
	for _, e := range want.events {
		switch e.Kind {
		case parse.Data:
			text += e.Text
		case parse.File:
			wantTexts = append(wantTexts, text)
			text = ""
		}
	}
	if err != api.OK || !same(answer{heads: heads}, answer{heads: want.heads}) || strings.Join(texts, "\x00") != strings.Join(wantTexts, "\x00") || len(texts) != len(heads) {
		t.Fatalf("All of %x: %v %q %d", s, heads, texts, err)
	}
}

// grow: what is told of each beginning is what the model tells of it.
func grow(t *testing.T, s string) {
	t.Helper()
	var a answer
	p := parse.New()
	for i := range len(s) {
		events, err := p.Feed(s[i : i+1])
		for _, e := range events {
			a.tell(e)
		}
		a.err = err
		expect(t, "a beginning", s[:i+1], ask(p, a), modelOf(s[:i+1]))
	}
}

// someArchives of all kinds of files.
func someArchives() []string {
	return []string{
		archiveOf(),
		archiveOf(kept("a")),
		archiveOf(stored("a", "x")),
		archiveOf(packed("a", "")),
		archiveOf(kept("a"), kept("b"), kept("\xc3\xa9/c")),
		archiveOf(packed("a/b", "some text, some text, some text"), kept("a/c"), stored("d", "other"), packed("e", "e")),
		archiveOf(filed("f", "\x4b\x04\x00", "a"), filed("g", "\x00\x01\x00\xfe\xffx\x01\x01\x00\xfe\xffy", "xy"), kept("h")),
	}
}

// The chapter's example: the tail of no files.
func TestExample(t *testing.T) {
	s := parse.Tail(nil)
	if len(s) != 22 {
		t.Error(len(s))
	}
	p := parse.New()
	events, err := p.Feed(s)
	if len(events) != 1 || events[0] != (parse.Event{Kind: parse.Done}) || err != api.OK || !p.Whole() {
		t.Error(events, err)
	}
}

// The numbers of events.
func TestKinds(t *testing.T) {
	if parse.Begin != 1 || parse.Data != 2 || parse.File != 3 || parse.Done != 4 {
		t.Error(parse.Begin, parse.Data, parse.File, parse.Done)
	}
}

// P14.2, P14.3: nothing came yet; and of a nil one.
func TestNew(t *testing.T) {
	p := parse.New()
	for range 2 {
		if p.Whole() || len(p.Heads()) != 0 || p.Entries() != 0 {
			t.Error("something came")
		}
		if events, err := p.Feed(""); len(events) != 0 || err != api.OK {
			t.Error(events, err)
		}
	}
	p = nil
	for _, s := range []string{"", "a", archiveOf()} {
		if events, err := p.Feed(s); len(events) != 0 || err != api.ErrArg {
			t.Error(events, err)
		}
	}
	if p.Whole() || len(p.Heads()) != 0 || p.Entries() != 0 {
		t.Error("a nil one has something")
	}
}

// P14.1: the tail of heads, also of such as don't follow one another.
func TestTail(t *testing.T) {
	small := zip.Head{Name: "a", Time: someTime(), Packed: 2, Size: 3, Sum: 4, At: 5}
	big := zip.Head{Name: "\xc3\xa9", Time: someTime(), Packed: 1 << 40, Size: 3, At: 1 << 33}
	empty := zip.Head{Name: "c/d", Time: someTime(), Kept: true, At: 1<<32 - 32}
	for _, l := range [][]zip.Head{nil, {}, {small}, {big}, {empty}, {small, big, empty}, {big, empty, small}, {small, small}, {empty, empty, big}, {{Name: "a", Time: someTime(), At: 1<<62 - 1}}} {
		if got := parse.Tail(l); got != modelTail(l) {
			t.Errorf("%v: %x", l, got)
		}
	}
	bad := small
	bad.Name = "a/"
	for _, l := range [][]zip.Head{{bad}, {{}}, {small, bad}, {bad, small}, {small, bad, small}} {
		if got := parse.Tail(l); got != "" {
			t.Errorf("%v: %x", l, got)
		}
	}
	// Where the central headers begin, at the edge of four bytes: 31 bytes behind the last one's place.
	for at, size := range map[uint64]int{1<<32 - 2 - 33: 22, 1<<32 - 1 - 33: 98} {
		empty.At = at
		if got := parse.Tail([]zip.Head{empty}); len(got) != 49+size {
			t.Error(at, len(got))
		}
	}
}

// P14.1: the tail of many heads.
func TestTailOfMany(t *testing.T) {
	h := kept("a").head
	for count, size := range map[int]int{65534: 22, 65535: 98} {
		l := make([]zip.Head, count)
		for i := range l {
			l[i] = h
		}
		got := parse.Tail(l)
		if len(got) != 47*count+size || !strings.HasSuffix(got, zip.End(uint64(count), uint64(47*count), 31)) || got[:47*count] != strings.Repeat(h.Central(), count) {
			t.Error(count, len(got))
		}
	}
}

// P14.2, P14.4: as many files as an end without numbers of 64 bits can tell, and one more.
func TestManyFiles(t *testing.T) {
	for count, size := range map[int]int{65534: 22, 65535: 98} {
		var l []zip.Head
		var s strings.Builder
		for i := range count {
			h := kept("d/" + strconv.Itoa(i)).head
			h.At = uint64(s.Len())
			s.WriteString(h.Local())
			l = append(l, h)
		}
		entries := s.Len()
		tail := parse.Tail(l)
		whole := s.String() + tail
		heads, texts, err := parse.All(whole)
		if !slices.Equal(heads, l) || len(texts) != count || strings.Join(texts, "") != "" || err != api.OK {
			t.Error(count, len(heads), len(texts), err)
		}
		p := parse.New()
		if _, err := p.Feed(whole[:len(whole)-size]); err != api.OK || p.Whole() || p.Entries() != entries {
			t.Error(count, err, p.Entries())
		}
		if _, err := p.Feed(whole[len(whole)-size:]); err != api.OK || !p.Whole() {
			t.Error(count, err)
		}
	}
}

// P14.2: the events of an archive, written out.
func TestEvents(t *testing.T) {
	s := archiveOf(packed("a", "text"), kept("b"), stored("c/d", "x"))
	p := parse.New()
	events, err := p.Feed(s)
	a := packed("a", "text").head
	b := kept("b").head
	b.At = 31 + a.Packed + 16
	c := stored("c/d", "x").head
	c.At = b.At + 31
	entries := int(c.At + 33 + c.Packed + 16)
	begun := func(h zip.Head) zip.Head { return zip.Head{Name: h.Name, Time: h.Time, At: h.At, Kept: h.Kept} }
	want := []parse.Event{
		{Kind: parse.Begin, Head: begun(a)}, {Kind: parse.Data, Text: "text"}, {Kind: parse.File, Head: a},
		{Kind: parse.Begin, Head: b}, {Kind: parse.File, Head: b},
		{Kind: parse.Begin, Head: begun(c)}, {Kind: parse.Data, Text: "x"}, {Kind: parse.File, Head: c},
		{Kind: parse.Done},
	}
	if !reflect.DeepEqual(events, want) || err != api.OK {
		t.Error(events, err)
	}
	if !p.Whole() || !reflect.DeepEqual(p.Heads(), []zip.Head{a, b, c}) || p.Entries() != entries {
		t.Error(p.Whole(), p.Heads(), p.Entries())
	}
	// Behind the end nothing more, but an error, which comes again.
	for _, more := range []struct {
		s     string
		err   api.Errno
		whole bool
	}{{"", api.OK, true}, {"a", api.ErrEnd, false}, {"", api.ErrEnd, false}, {s, api.ErrEnd, false}} {
		if events, err := p.Feed(more.s); len(events) > 0 || err != more.err || p.Whole() != more.whole || len(p.Heads()) != 3 || p.Entries() != entries {
			t.Error(more, events, err, p.Whole())
		}
	}
}

// P14.2, P14.3, P14.4: some archives, each told as it came, however it is cut, and what is missing.
func TestArchives(t *testing.T) {
	r := rand.New(rand.NewSource(1))
	for _, s := range someArchives() {
		if a := against(t, r, s); !a.whole || a.err != api.OK || len(a.events) == 0 {
			t.Error(a)
		}
		grow(t, s)
		for i := range len(s) {
			if a := against(t, r, s[:i]); a.whole || a.err != api.OK {
				t.Error(i, a)
			}
		}
	}
}

// P14.3: what is handed out is new memory.
func TestHandedOut(t *testing.T) {
	s := archiveOf(stored("a", "x"), kept("b"))
	p := parse.New()
	events, _ := p.Feed(s[:len(s)-1])
	for i := range events {
		events[i] = parse.Event{}
	}
	heads := p.Heads()
	clear(heads)
	_ = append(heads[:0], zip.Head{Name: "other"})
	if events, err := p.Feed(s[len(s)-1:]); len(events) != 1 || err != api.OK || !p.Whole() || p.Heads()[0].Name != "a" {
		t.Error(events, err, p.Heads())
	}
}

// P14.2, P14.3: every bit another one. Taken is just what doesn't matter in a stream.
func TestFlips(t *testing.T) {
	r := rand.New(rand.NewSource(2))
	for _, s := range someArchives() {
		right := modelOf(s)
		for at := range len(s) {
			for bit := range 8 {
				b := []byte(s)
				b[at] ^= 1 << bit
				if a := against(t, r, string(b)); a.whole && !same(a, right) {
					t.Fatalf("taken: %x, another bit %d of %d", s, bit, at)
				}
			}
		}
	}
}

// P14.2, P14.3: archives that are spoilt: bytes others, missing, or twice, parts of others between.
func TestSpoilt(t *testing.T) {
	r := rand.New(rand.NewSource(3))
	l := someArchives()
	for range 4000 {
		s := l[r.Intn(len(l))]
		for range 1 + r.Intn(2) {
			from := r.Intn(len(s) + 1)
			to := from + r.Intn(min(40, len(s)-from)+1)
			other := l[r.Intn(len(l))]
			begin := r.Intn(len(other) + 1)
			end := begin + r.Intn(min(40, len(other)-begin)+1)
			switch r.Intn(4) {
			case 0:
				s = s[:from] + s[to:]
			case 1:
				s = s[:to] + s[from:]
			case 2:
				s = s[:from] + other[begin:end] + s[from:]
			default:
				s = s[:from] + other[begin:end] + s[to:]
			}
		}
		against(t, r, s)
	}
}

// P14.2: random archives of random texts.
func TestRandom(t *testing.T) {
	r := rand.New(rand.NewSource(4))
	for range 150 {
		var l []one
		for i := range r.Intn(6) {
			name := strings.Repeat("dir/", r.Intn(3)) + string(rune('a'+i))
			text := make([]byte, r.Intn(1+r.Intn(3000)))
			for k := range text {
				text[k] = byte(r.Intn(1 + r.Intn(256)))
			}
			switch r.Intn(3) {
			case 0:
				l = append(l, kept(name))
			case 1:
				l = append(l, stored(name, string(text)))
			default:
				l = append(l, packed(name, string(text)))
			}
		}
		if a := against(t, r, archiveOf(l...)); !a.whole {
			t.Fatal(a.err)
		}
	}
}

// fails: the error, with the events of so many files whole, and of one that is begun, ahead of it.
func fails(t *testing.T, what, s string, err api.Errno, files int, begun bool, data string) {
	t.Helper()
	a := against(t, rand.New(rand.NewSource(5)), s)
	if a.err != err || a.whole || len(a.heads) != files {
		t.Errorf("%s: %d, %v, %d files", what, a.err, a.whole, len(a.heads))
		return
	}
	if !begun {
		if n := len(a.events); n > 0 && a.events[n-1].Kind != parse.File && a.events[n-1].Kind != parse.Done {
			t.Errorf("%s: %v", what, a.events)
		}
		return
	}
	last := a.events[len(a.events)-1]
	if data != "" {
		if last.Kind != parse.Data || last.Text != data {
			t.Errorf("%s: %v", what, last)
		}
		last = a.events[len(a.events)-2]
	}
	if last.Kind != parse.Begin {
		t.Errorf("%s: %v", what, last)
	}
}

// P14.2: names that can't stand beside those ahead.
func TestTwice(t *testing.T) {
	for _, x := range []struct {
		names []string
		files int // whole ones ahead of the error; as many as there are names: none
	}{
		{[]string{"a", "a"}, 1},
		{[]string{"a", "b", "c", "b", "d"}, 3},
		{[]string{"a", "a/b"}, 1},
		{[]string{"a/b", "a"}, 1},
		{[]string{"a/b/c", "a"}, 1},
		{[]string{"a/b/c", "a/b"}, 1},
		{[]string{"a/b", "a/b/c/d"}, 1},
		{[]string{"a/b", "a/c", "a/b/c"}, 2},
		{[]string{"a", "ab", "a.b", "b/a", "A", "aa/b"}, 6},
		{[]string{"a/b", "a/c", "b/a/b", "a/d/e", "a/d/f", "c"}, 6},
		{[]string{"a/b", "ab", "a/bc", "a/b"}, 3},
		{[]string{"\xc3\xa9", "e\xcc\x81"}, 2},
	} {
		var l []one
		for i, s := range x.names {
			if i%2 == 0 {
				l = append(l, kept(s))
			} else {
				l = append(l, stored(s, s))
			}
		}
		s := archiveOf(l...)
		if x.files < len(x.names) {
			fails(t, strings.Join(x.names, " "), s, api.ErrTwice, x.files, false, "")
			begin, _ := entriesOf(l[:x.files+1]...)
			size := len(l[x.files].head.Local()) + len(l[x.files].packed) + len(l[x.files].head.Descr())
			ahead := len(begin) - size + len(l[x.files].head.Local())
			fails(t, "as soon as it came", s[:ahead], api.ErrTwice, x.files, false, "")
			if a := modelOf(s[:ahead-1]); a.err != api.OK || !same(feed(t, []string{s[:ahead-1]}), a) {
				t.Error("ahead of that", a)
			}
		} else if a := against(t, rand.New(rand.NewSource(6)), s); !a.whole {
			t.Error(x.names, a.err)
		}
	}
}

// P14.2: layer 7's errors, behind the bytes that are told.
func TestStreamErrors(t *testing.T) {
	for stream, err := range map[string]api.Errno{
		"\x07":                              api.ErrForm,
		"\x01\x02\x00\xfd\xfe":              api.ErrSize,
		"\x03\x02":                          api.ErrDist,
		"\xfd\xff\xff":                      api.ErrRange,
		"\x00\x01\x00\xfe\xffx\x07":         api.ErrForm,
		"\x00\x01\x00\xfe\xffx\x01\x00\x00": api.OK, // more is needed
	} {
		f := filed("b", stream, "")
		s, _ := entriesOf(kept("a"), f)
		s = s[:len(s)-16]
		data := strings.Repeat("x", strings.Count(stream, "x"))
		fails(t, "a stream", s, err, 1, true, data)
		if err != api.OK {
			fails(t, "a stream, and more", s+"more", err, 1, true, data)
		}
	}
}

// cutDescr: the error, at each cut of a descriptor of 16 bytes behind what is right: first once so many of its bytes are there.
func cutDescr(t *testing.T, what, ahead, descr string, first int, err api.Errno) {
	t.Helper()
	for n := range len(descr) + 1 {
		want := api.OK
		if n >= first {
			want = err
		}
		fails(t, what, ahead+descr[:n], want, 1, true, "text")
	}
	fails(t, what, ahead+descr+"more", err, 1, true, "text")
}

// P14.2: a descriptor's sum is another one, whatever else is wrong in it: it is told once the sum is there. What else is wrong is told once all is there.
func TestSum(t *testing.T) {
	whole, _ := entriesOf(kept("a"), stored("b", "text"))
	ahead, descr := whole[:len(whole)-16], whole[len(whole)-16:]
	for at := range descr {
		for _, bit := range []byte{1, 128} {
			b := []byte(descr)
			b[at] ^= bit
			if at >= 4 && at < 8 {
				cutDescr(t, "the sum", ahead, string(b), 8, api.ErrSum)
			} else {
				cutDescr(t, "one byte", ahead, string(b), 16, api.ErrForm)
			}
			for also := 4; also < 8; also++ {
				b[also] ^= 2
				cutDescr(t, "and the sum", ahead, string(b), 8, api.ErrSum)
				b[also] ^= 2
			}
		}
	}
}

// P14.2: what is neither a local header nor the tail.
func TestForm(t *testing.T) {
	entries, heads := entriesOf(stored("a", "text"), kept("b"))
	tail := modelTail(heads)
	for what, s := range map[string]string{
		"another byte":            "X",
		"another local header":    "PK\x03\x05",
		"a descriptor":            "PK\x07\x08",
		"a wrong header":          strings.Replace(stored("c", "").head.Local(), "\x14", "\x15", 1),
		"a kept one's descriptor": heads[0].Descr(),
		"another file's header":   stored("c", "").head.Central(),
		"the end alone":           zip.End(2, 0, uint64(len(entries))),
		"one central header":      heads[0].Central() + zip.End(1, uint64(len(heads[0].Central())), uint64(len(entries))),
		"another order":           heads[1].Central() + heads[0].Central() + tail[len(tail)-22:],
		"another count":           tail[:len(tail)-22] + zip.End(3, uint64(len(tail)-22), uint64(len(entries))),
		"another size":            tail[:len(tail)-22] + zip.End(2, uint64(len(tail)-21), uint64(len(entries))),
		"another place":           tail[:len(tail)-22] + zip.End(2, uint64(len(tail)-22), uint64(len(entries)-1)),
		"with a comment":          tail[:len(tail)-2] + "\x01\x00a",
		"a wide end":              tail[:len(tail)-22] + zip.End(65535, uint64(len(tail)-22), uint64(len(entries))),
	} {
		fails(t, what, entries+s, api.ErrForm, 2, false, "")
	}
	for _, s := range []string{"X", "KP", "PX", "PK\x05\x07", "PK\x03\x03", "PK\x01\x02", "PK\x06\x06", zip.End(1, 0, 0), zip.End(0, 0, 1), zip.End(0, 1, 0), zip.End(65535, 0, 0)} {
		fails(t, "at the beginning", s, api.ErrForm, 0, false, "")
	}
	// Each is told at the first byte that can't be the tail's.
	for at := range tail {
		b := []byte(tail[:at+1])
		b[at] ^= 0x40
		fails(t, "another byte", entries+string(b), api.ErrForm, 2, false, "")
	}
}

// P14.2: bytes behind the end.
func TestEnd(t *testing.T) {
	for _, l := range [][]one{{}, {stored("a", "text"), kept("b")}} {
		s := archiveOf(l...)
		for _, more := range []string{"\x00", "a", "PK\x03\x04", s} {
			fails(t, "more", s+more, api.ErrEnd, len(l), false, "")
		}
	}
}

// P14.2: a kept one has no bytes, and a packed one without any has its stream and its descriptor.
func TestEmpty(t *testing.T) {
	r := rand.New(rand.NewSource(7))
	a := against(t, r, archiveOf(kept("a"), packed("b", ""), filed("c", "\x01\x00\x00\xff\xff", "")))
	if !a.whole || len(a.events) != 7 || a.heads[1].Packed != 2 || a.heads[1].Size != 0 || a.heads[1].Sum != 0 || a.heads[1].Kept {
		t.Error(a)
	}
	s, _ := entriesOf(kept("a"))
	fails(t, "a kept one with a stream", s+"\x03\x00", api.ErrForm, 1, false, "")
	wrong := kept("a")
	wrong.head.Sum = 1
	fails(t, "a kept one with a sum", archiveOf(wrong), api.ErrForm, 1, false, "")
}

// P14.2: a big one's local header needs a file that is big.
func TestBigHeader(t *testing.T) {
	big := zip.Head{Name: "a", Time: someTime(), Size: 1<<32 - 1}
	small := stored("a", "text").head
	stream := stored("a", "text").packed
	wide := small.Descr()[:8] + "\x09\x00\x00\x00\x00\x00\x00\x00\x04\x00\x00\x00\x00\x00\x00\x00"
	begin := big.Local() + stream
	fails(t, "numbers of 64 bits", begin+wide, api.ErrForm, 0, true, "text")
	fails(t, "numbers of 32 bits", begin+small.Descr()+modelTail([]zip.Head{small}), api.ErrForm, 0, true, "text")
	fails(t, "the sum", begin+"PK\x07\x08abcd"+wide[8:], api.ErrSum, 0, true, "text")
	fails(t, "the sum alone", begin+"PK\x07\x08abcd", api.ErrSum, 0, true, "text")
	fails(t, "all but a byte of the sum", begin+"PK\x07\x08abc", api.OK, 0, true, "text")
	fails(t, "all but one byte", begin+wide[:23], api.OK, 0, true, "text")
	if a := modelOf(begin); a.events[0].Head != (zip.Head{Name: "a", Time: someTime()}) {
		t.Error(a.events[0])
	}
}

// P14.3: a stream of some pieces, and what comes behind it in the same one.
func TestLongStreams(t *testing.T) {
	r := rand.New(rand.NewSource(8))
	long := make([]byte, 70000)
	r.Read(long)
	for _, l := range [][]one{
		{stored("a", string(long)), stored("b", string(long[:1013])), stored("c", string(long[:1014])), kept("d")},
		{packed("a", strings.Repeat("some text ", 40000)), packed("b", string(long[:5000])), packed("c", strings.Repeat("\x00", 1000000))},
	} {
		s := archiveOf(l...)
		want := modelOf(s)
		if !want.whole {
			t.Fatal(want.err)
		}
		expect(t, "at once", "", feed(t, []string{s}), want)
		for range 5 {
			expect(t, "cut", "", feed(t, cut(r, s)), want)
		}
		checkAll(t, s, want)
	}
}

// P14.2: headers of long names, byte by byte.
func TestLongNames(t *testing.T) {
	deep := strings.Repeat("d/", 32700) + "f"
	l := []one{kept(strings.Repeat("n", 65535)), stored(deep, "x"), kept(deep[2:] + "/g")}
	s := archiveOf(l...)
	heads, texts, err := parse.All(s)
	if len(heads) != 3 || strings.Join(texts, "|") != "|x|" || err != api.OK {
		t.Fatal(len(heads), texts, err)
	}
	expect(t, "byte by byte", "", feed(t, strings.Split(s, "")), feed(t, []string{s}))
	for _, name := range []string{deep, deep + "/g", deep[:64999], "d"} {
		if _, _, err := parse.All(archiveOf(stored(deep, "x"), kept(name))); err != api.ErrTwice {
			t.Error(len(name), err)
		}
	}
}
