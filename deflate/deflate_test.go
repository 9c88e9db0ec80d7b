package deflate_test

import (
	"compress/flate"
	"io"
	"math"
	"math/rand"
	"strings"
	"testing"

	"lighter/api"
	"lighter/bits"
	"lighter/block"
	"lighter/deflate"
	"lighter/inflate"
	"lighter/match"
)

const partSize = 16384

// model of an encoder: its stream's bits are written as the document says it.
type model struct {
	w     bits.Writer
	ahead string
	level int
}

// part of a text, as a block.
func (m *model) part(s string, last bool) {
	l, _ := match.Tokens(m.ahead, s, m.level)
	kind := block.Stored
	if m.level != 0 {
		kind = block.Choose(s, l)
	}
	block.Write(&m.w, kind, last, s, l)
	m.ahead += s
}

// parts of a text, but for the last one, if it is kept.
func (m *model) parts(s string, last bool) {
	for len(s) > partSize {
		m.part(s[:partSize], false)
		s = s[partSize:]
	}
	if last || s != "" {
		m.part(s, last)
	}
}

// streamOf texts, with a Flush behind each but the last one.
func streamOf(level int, texts ...string) string {
	m := model{level: level}
	for i, s := range texts {
		last := i == len(texts)-1
		m.parts(s, last)
		if !last {
			block.Write(&m.w, block.Stored, false, "", nil)
		}
	}
	m.w.Align()
	return m.w.Drain()
}

func newEncoder(t testing.TB, level int) *deflate.Encoder {
	t.Helper()
	x, e := deflate.New(level)
	if x == nil || e != api.OK {
		t.Fatal(level, x, e)
	}
	return x
}

// told: what a call told, if it answers no error.
func told(t testing.TB) func(s string, e api.Errno) string {
	return func(s string, e api.Errno) string {
		t.Helper()
		if e != api.OK {
			t.Fatal(e)
		}
		return s
	}
}

// inPieces of some size: all that is told together.
func inPieces(t testing.TB, s string, level, size int) string {
	t.Helper()
	x := newEncoder(t, level)
	var all strings.Builder
	for len(s) > size {
		all.WriteString(told(t)(x.Write(s[:size])))
		s = s[size:]
	}
	all.WriteString(told(t)(x.Write(s)))
	all.WriteString(told(t)(x.Close()))
	return all.String()
}

// texts of many sizes and kinds.
func texts(r *rand.Rand) map[string]string {
	noise := make([]byte, 70000)
	r.Read(noise)
	few := make([]byte, 70000)
	for i := range few {
		few[i] = "abcd"[r.Intn(4)]
	}
	all := map[string]string{"none": "", "a": "a", "half": strings.Repeat("0", 9000) + string(noise[:9000])}
	for name, s := range map[string]string{
		"noise": string(noise),
		"few":   string(few),
		"same":  strings.Repeat("z", 70000),
		"again": strings.Repeat(string(noise[:30000]), 3)[:70000],
		"words": strings.Repeat("a text of some words, of which each comes again. ", 1500)[:70000],
	} {
		all[name] = s
		all[name+", short"] = s[:100+r.Intn(1000)]
		all[name+", less than a part"] = s[:partSize-1]
		all[name+", a part"] = s[:partSize]
		all[name+", more than a part"] = s[:partSize+1]
		all[name+", two parts"] = s[:2*partSize]
		all[name+", more than two parts"] = s[:2*partSize+1]
	}
	return all
}

// The chapter's example.
func TestExample(t *testing.T) {
	if s, e := deflate.All("", 9); s != "\x03\x00" || e != api.OK {
		t.Errorf("%x, %v", s, e)
	}
}

// P10.1, P10.2: which levels there are.
func TestLevels(t *testing.T) {
	for level := range 10 {
		newEncoder(t, level)
		if _, e := deflate.All("text", level); e != api.OK {
			t.Error(level, e)
		}
	}
	for _, level := range []int{-1, 10, 11, math.MinInt, math.MaxInt, 1 << 32} {
		if x, e := deflate.New(level); x != nil || e != api.ErrArg {
			t.Error(level, x, e)
		}
		for _, text := range []string{"", "text"} {
			if s, e := deflate.All(text, level); s != "" || e != api.ErrArg {
				t.Error(level, s, e)
			}
		}
	}
}

// P10.1, P10.2: a text's stream has a block for each part; it tells the text.
func TestStream(t *testing.T) {
	for name, text := range texts(rand.New(rand.NewSource(1))) {
		for _, level := range []int{0, 1, 3, 4, 6, 9} {
			s := told(t)(deflate.All(text, level))
			if s != streamOf(level, text) {
				t.Fatalf("%s, level %d: not the document's stream", name, level)
			}
			if got, rest, e := inflate.All(s); got != text || rest != "" || e != api.OK {
				t.Fatalf("%s, level %d: %d bytes, %d left, %v", name, level, len(got), len(rest), e)
			}
			if got, err := io.ReadAll(flate.NewReader(strings.NewReader(s))); string(got) != text || err != nil {
				t.Fatalf("%s, level %d: the library reads %d bytes, %v", name, level, len(got), err)
			}
		}
	}
}

// P10.1: of level 0 each part is stored.
func TestLevel0(t *testing.T) {
	s := strings.Repeat("x", partSize)
	want := "\x00\x00\x40\xff\xbf" + s + "\x00\x00\x40\xff\xbf" + s + "\x01\x01\x00\xfe\xffy"
	if got, e := deflate.All(s+s+"y", 0); got != want || e != api.OK {
		t.Error(len(got), e)
	}
	if got, e := deflate.All(s, 0); got != "\x01\x00\x40\xff\xbf"+s || e != api.OK {
		t.Error(len(got), e)
	}
	if got, e := deflate.All("", 0); got != "\x01\x00\x00\xff\xff" || e != api.OK {
		t.Errorf("%x, %v", got, e)
	}
}

// P10.1: however a text is cut.
func TestPieces(t *testing.T) {
	r := rand.New(rand.NewSource(2))
	for name, text := range texts(r) {
		level := r.Intn(10)
		want := told(t)(deflate.All(text, level))
		for _, size := range []int{1 + r.Intn(300), 5000 + r.Intn(5000), partSize - 1, partSize, partSize + 1, 2 * partSize} {
			if got := inPieces(t, text, level, size); got != want {
				t.Fatalf("%s, level %d, pieces of %d: not what is told at once", name, level, size)
			}
		}
	}
	text := texts(r)["words"][:2*partSize+5]
	if inPieces(t, text, 6, 1) != told(t)(deflate.All(text, 6)) {
		t.Error("byte by byte: not what is told at once")
	}
}

// P10.1: pieces that are empty, at any place, and by turns with another encoder.
func TestEmptyPieces(t *testing.T) {
	r := rand.New(rand.NewSource(3))
	text := texts(r)["again"]
	want := told(t)(deflate.All(text, 5))
	x, other := newEncoder(t, 5), newEncoder(t, 5)
	all := [2]string{}
	for begin := 0; begin < len(text); {
		end := min(len(text), begin+r.Intn(2)*r.Intn(9000))
		if begin < partSize && end > partSize {
			end = partSize
		}
		all[0] += told(t)(x.Write(text[begin:end]))
		all[1] += told(t)(other.Write(text[begin:end]))
		all[0] += told(t)(x.Write(""))
		begin = end
	}
	for i, x := range []*deflate.Encoder{x, other} {
		if all[i]+told(t)(x.Close()) != want {
			t.Error("not what is told at once")
		}
	}
}

// checkState: every call answers an error, and nothing.
func checkState(t *testing.T, x *deflate.Encoder, want api.Errno) {
	t.Helper()
	for range 2 {
		for _, text := range []string{"", "text", strings.Repeat("text", 9000)} {
			if s, e := x.Write(text); s != "" || e != want {
				t.Errorf("Write: %q, %v", s, e)
			}
		}
		if s, e := x.Flush(); s != "" || e != want {
			t.Errorf("Flush: %q, %v", s, e)
		}
		if s, e := x.Close(); s != "" || e != want {
			t.Errorf("Close: %q, %v", s, e)
		}
	}
}

// P10.1, P10.4: nil, and behind a Close.
func TestState(t *testing.T) {
	checkState(t, nil, api.ErrArg)
	for _, text := range []string{"", "text", strings.Repeat("text", 9000)} {
		for _, flushed := range []bool{false, true} {
			x := newEncoder(t, 3)
			told(t)(x.Write(text))
			if flushed {
				told(t)(x.Flush())
			}
			told(t)(x.Close())
			checkState(t, x, api.ErrState)
		}
	}
}

// P10.3: how many bytes a stream has at most.
func TestMost(t *testing.T) {
	for n, want := range map[int]int{
		-1: 0, math.MinInt: 0, 0: 6, 1: 7, 2: 8, 16383: 16389, 16384: 16390, 16385: 16397, 32768: 32780, 32769: 32787,
		1 << 20: 1<<20 + 6*64, 1<<20 + 1: 1<<20 + 1 + 6*65, 1<<31 - 1: 1<<31 - 1 + 6<<17, 1 << 40: 1<<40 + 6<<26,
	} {
		if got := deflate.Most(n); got != want {
			t.Errorf("%d: %d, not %d", n, got, want)
		}
	}
	r := rand.New(rand.NewSource(4))
	for name, text := range texts(r) {
		for level := range 10 {
			if s := told(t)(deflate.All(text, level)); len(s) > deflate.Most(len(text)) {
				t.Errorf("%s, level %d: %d bytes of %d", name, level, len(s), len(text))
			}
		}
	}
	for range 300 {
		noise := make([]byte, r.Intn(200))
		r.Read(noise)
		level := r.Intn(10)
		if s := told(t)(deflate.All(string(noise), level)); len(s) > deflate.Most(len(noise)) {
			t.Errorf("level %d: %d bytes of %d", level, len(s), len(noise))
		}
	}
}

// P10.4: all that came is told, and the parts begin anew.
func TestFlush(t *testing.T) {
	r := rand.New(rand.NewSource(5))
	for name, text := range texts(r) {
		for range 2 {
			checkFlushed(t, name, r.Intn(10), cut(r, text))
		}
	}
}

// cut a text into some texts, of which some are empty.
func cut(r *rand.Rand, s string) []string {
	var l []string
	for r.Intn(6) > 0 {
		n := []int{0, r.Intn(len(s) + 1), r.Intn(200), partSize, partSize + 1, 2 * partSize}[r.Intn(6)]
		n = min(n, len(s))
		l = append(l, s[:n])
		s = s[n:]
	}
	return append(l, s)
}

// checkFlushed: with a Flush behind each text but the last one.
func checkFlushed(t *testing.T, name string, level int, texts []string) {
	t.Helper()
	x := newEncoder(t, level)
	d := inflate.New()
	stream, came := "", ""
	feed := func(s string) {
		stream += s
		if _, e := d.Feed(s); e != api.OK {
			t.Fatal(name, e)
		}
	}
	for i, s := range texts {
		feed(told(t)(x.Write(s[:len(s)/3])))
		feed(told(t)(x.Write(s[len(s)/3:])))
		came += s
		if i == len(texts)-1 {
			break
		}
		feed(told(t)(x.Flush()))
		if d.Told() != len(came) || d.Done() || !strings.HasSuffix(stream, "\x00\x00\xff\xff") {
			t.Fatalf("%s: %d bytes of %d are told, done %v", name, d.Told(), len(came), d.Done())
		}
	}
	feed(told(t)(x.Close()))
	if got, rest, e := inflate.All(stream); got != came || rest != "" || e != api.OK {
		t.Fatalf("%s: %d bytes, %d left, %v", name, len(got), len(rest), e)
	}
	if stream != streamOf(level, texts...) {
		t.Fatalf("%s, level %d: not the document's stream", name, level)
	}
}

// P10.4: where nothing came there is just the block without bytes.
func TestFlushNothing(t *testing.T) {
	for level := range 10 {
		x := newEncoder(t, level)
		for range 3 {
			if s, e := x.Flush(); s != "\x00\x00\x00\xff\xff" || e != api.OK {
				t.Errorf("%x, %v", s, e)
			}
		}
		want := "\x03\x00"
		if level == 0 {
			want = "\x01\x00\x00\xff\xff"
		}
		if s, e := x.Close(); s != want || e != api.OK {
			t.Errorf("%x, %v", s, e)
		}
	}
	x := newEncoder(t, 9)
	told(t)(x.Write("a"))
	if s, e := x.Flush(); s != "\x4a\x04\x00\x00\x00\xff\xff" || e != api.OK {
		t.Errorf("%x, %v", s, e)
	}
	if s, e := x.Flush(); s != "\x00\x00\x00\xff\xff" || e != api.OK {
		t.Errorf("%x, %v", s, e)
	}
}

// P10.4: what came ahead of a Flush is there to go back to.
func TestMatchBehindFlush(t *testing.T) {
	noise := make([]byte, 10000)
	rand.New(rand.NewSource(6)).Read(noise)
	x := newEncoder(t, 9)
	told(t)(x.Write(string(noise)))
	told(t)(x.Flush())
	begun := told(t)(x.Write(string(noise)))
	if rest := told(t)(x.Close()); len(begun+rest) > 300 {
		t.Errorf("%d bytes tell what came already", len(begun+rest))
	}
}
