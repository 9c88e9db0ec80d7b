package dgram_test

import (
	"math"
	"math/rand"
	"strings"
	"testing"

	"lighter/api"
	"lighter/dgram"
)

func checkGood(t *testing.T, d dgram.Datagram) {
	t.Helper()
	if !d.Good() {
		t.Fatalf("%+v may not be", d)
	}
	want := bytesOf(d)
	s, err := dgram.Encode(d)
	if s != want || err != api.OK {
		t.Fatalf("%+v: %x, %d, not %x", d, s, err, want)
	}
	if got, err := dgram.Decode(want); got != d || err != api.OK {
		t.Fatalf("%+v: %+v, %d", d, got, err)
	}
}

func checkBad(t *testing.T, d dgram.Datagram) {
	t.Helper()
	if d.Good() {
		t.Fatalf("%+v may be", d)
	}
	if s, err := dgram.Encode(d); s != "" || err != api.ErrArg {
		t.Fatalf("%+v: %x, %d", d, s, err)
	}
	checkDecode(t, bytesOf(d))
}

// checkDecode of any bytes against the document's words.
func checkDecode(t *testing.T, s string) {
	t.Helper()
	want := api.ErrSum
	if summed(s) {
		want = api.ErrForm
		if isOne(s) {
			want = api.OK
		}
	}
	d, err := dgram.Decode(s)
	if err != want {
		t.Fatalf("%x: %d, not %d", s, err, want)
	}
	if err != api.OK && d != (dgram.Datagram{}) || err == api.OK && bytesOf(d) != s {
		t.Fatalf("%x: %+v", s, d)
	}
}

// The chapter's example.
func TestExample(t *testing.T) {
	s, err := dgram.Encode(dgram.Datagram{Kind: dgram.Hello})
	if len(s) != 38 || err != api.OK {
		t.Error(len(s), err)
	}
}

// The kinds' numbers.
func TestKinds(t *testing.T) {
	if got := [5]int{dgram.Hello, dgram.Welcome, dgram.Data, dgram.Ack, dgram.Abort}; got != [5]int{1, 2, 3, 4, 5} {
		t.Error(got)
	}
}

// P22.1: the bytes of one, written out.
func TestBytes(t *testing.T) {
	d := dgram.Datagram{
		Kind: dgram.Data, Session: 0x04030201, Epoch: 0x08070605, Seq: 0x0c0b0a09,
		At: 0x14131211100f0e0d, Sum: 0x18171615, Last: true, Text: "\x21\x22\x23",
	}
	want := "\x4c\x47\x03\x01" + "\x01\x02\x03\x04" + "\x05\x06\x07\x08" + "\x09\x0a\x0b\x0c" +
		"\x0d\x0e\x0f\x10\x11\x12\x13\x14" + "\x15\x16\x17\x18" + "\x00\x00\x00\x00" + "\x03\x00" + "\x21\x22\x23"
	if s, err := dgram.Encode(d); s != sealed(want) || err != api.OK {
		t.Errorf("%x, %d", s, err)
	}
	d = dgram.Datagram{Kind: dgram.Ack, Map: 0x1c1b1a19}
	want = "\x4c\x47\x04\x00" + strings.Repeat("\x00", 24) + "\x19\x1a\x1b\x1c" + "\x00\x00"
	if s, err := dgram.Encode(d); s != sealed(want) || err != api.OK {
		t.Errorf("%x, %d", s, err)
	}
}

// P22.1, P22.2: datagrams that may be, of all kinds, up to the edges.
func TestGood(t *testing.T) {
	r := rand.New(rand.NewSource(1))
	for kind := dgram.Hello; kind <= dgram.Abort; kind++ {
		checkGood(t, dgram.Datagram{Kind: kind})
		checkGood(t, wide(kind))
		for range 3000 {
			checkGood(t, anyGood(r, kind))
		}
	}
	for size := range 257 {
		checkGood(t, dgram.Datagram{Kind: dgram.Data, Text: strings.Repeat("a", size)})
	}
}

// P22.1: datagrams that may not be, for one cause each.
func TestBad(t *testing.T) {
	checkBad(t, dgram.Datagram{})
	r := rand.New(rand.NewSource(2))
	for range 50 {
		for kind := dgram.Hello; kind <= dgram.Abort; kind++ {
			good := anyGood(r, kind)
			for _, d := range badOf(good) {
				checkBad(t, d)
			}
		}
	}
}

// badOf one that may be: others that may not.
func badOf(good dgram.Datagram) []dgram.Datagram {
	var l []dgram.Datagram
	add := func(change func(d *dgram.Datagram)) {
		d := good
		change(&d)
		l = append(l, d)
	}
	for _, kind := range []int{0, 6, 7, 255, 256, 256 + good.Kind, 1<<32 + good.Kind, -1, -good.Kind, math.MinInt, math.MaxInt} {
		add(func(d *dgram.Datagram) { d.Kind = kind })
	}
	for _, at := range []uint64{1 << 62, 1<<62 + 1, 1<<62 + good.At, 1 << 63, 1<<63 + good.At, math.MaxUint64} {
		add(func(d *dgram.Datagram) { d.At = at })
	}
	for _, size := range []int{257, 258, 512, 65535, 65536, 65536 + len(good.Text)} {
		add(func(d *dgram.Datagram) { d.Text = strings.Repeat("a", size) })
	}
	if good.Kind != dgram.Ack {
		for _, bits := range []uint32{1, 2, 1 << 31, math.MaxUint32} {
			add(func(d *dgram.Datagram) { d.Map = bits })
		}
	}
	if good.Kind != dgram.Data {
		for _, text := range []string{"a", "\x00", strings.Repeat("a", 256)} {
			add(func(d *dgram.Datagram) { d.Text = text })
		}
	}
	if good.Kind != dgram.Data && good.Kind != dgram.Welcome {
		add(func(d *dgram.Datagram) { d.Last = true })
	}
	return l
}

// P22.2: bytes that are too few, or whose sum is another one.
func TestSum(t *testing.T) {
	for size := range 64 {
		for _, b := range []string{"\x00", "\xff", "L"} {
			checkDecode(t, strings.Repeat(b, size))
		}
	}
	if d, err := dgram.Decode("\x00\x00\x00\x00"); d != (dgram.Datagram{}) || err != api.ErrForm {
		t.Error("the sum of nothing", d, err)
	}
	for kind := dgram.Hello; kind <= dgram.Abort; kind++ {
		s := bytesOf(wide(kind))
		for size := range len(s) {
			if d, err := dgram.Decode(s[:size]); d != (dgram.Datagram{}) || err != api.ErrSum {
				t.Error("the first", size, d, err)
			}
			checkDecode(t, s[len(s)-size:])
		}
		for _, more := range []string{"\x00", "\xff", "\x00\x00\x00\x00", s} {
			if d, err := dgram.Decode(s + more); d != (dgram.Datagram{}) || err != api.ErrSum {
				t.Error(more, "behind", d, err)
			}
		}
	}
}

// P22.2: bytes whose sum is right, with any byte at any place ahead of it.
func TestForm(t *testing.T) {
	r := rand.New(rand.NewSource(3))
	for kind := dgram.Hello; kind <= dgram.Abort; kind++ {
		for _, d := range []dgram.Datagram{{Kind: kind}, wide(kind), anyGood(r, kind)} {
			s := bytesOf(d)
			body := s[:len(s)-4]
			for i := range len(body) {
				for b := range 256 {
					checkDecode(t, sealed(body[:i]+string([]byte{byte(b)})+body[i+1:]))
				}
				checkDecode(t, sealed(body[:i]))
				checkDecode(t, sealed(body[i:]))
				checkDecode(t, sealed(body[:i]+body[i+1:]))
				checkDecode(t, sealed(body[:i]+"\x00"+body[i:]))
			}
			checkDecode(t, sealed(body+"\x00"))
			checkDecode(t, sealed(s))
			checkDecode(t, sealed(body+body))
		}
	}
}

// P22.2: forms that look right, each wrong in one part.
func TestWrongForms(t *testing.T) {
	s := bytesOf(wide(dgram.Data))
	body := s[:len(s)-4]
	hello := bytesOf(dgram.Datagram{Kind: dgram.Hello})
	for name, wrong := range map[string]string{
		"nothing":                   "",
		"magic":                     "GL" + body[2:],
		"kind 0":                    hello[:kindAt] + "\x00" + hello[kindAt+1:34],
		"kind 6":                    hello[:kindAt] + "\x06" + hello[kindAt+1:34],
		"last 2":                    body[:lastAt] + "\x02" + body[lastAt+1:],
		"last of a Hello":           hello[:lastAt] + "\x01" + hello[lastAt+1:34],
		"at 2^62":                   body[:atAt+7] + "\x40" + body[atAt+8:],
		"map of a Data":             body[:mapAt] + "\x01" + body[mapAt+1:],
		"less text than told":       body[:len(body)-1],
		"more text than told":       body + "\xff",
		"257 bytes":                 body[:sizeAt] + "\x01\x01" + body[textAt:] + "a",
		"text of a Hello":           hello[:sizeAt] + "\x01\x00a",
		"told text that isn't":      hello[:sizeAt] + "\x01\x00",
		"no size":                   hello[:sizeAt],
		"half a size":               hello[:sizeAt+1],
		"a datagram behind another": hello + hello[:34],
	} {
		if d, err := dgram.Decode(sealed(wrong)); d != (dgram.Datagram{}) || err != api.ErrForm {
			t.Error(name, d, err)
		}
		checkDecode(t, sealed(wrong))
	}
}

// turned: of some bytes the bits from one on, where the pattern's are set; of each byte the lowest one first.
func turned(s string, at int, pattern uint32) string {
	b := []byte(s)
	for k := range 32 {
		if i := at + k; pattern>>k&1 == 1 && i < 8*len(b) {
			b[i/8] ^= 1 << (i % 8)
		}
	}
	return string(b)
}

// P22.2: up to 32 bits behind one another, of which some are other ones: the sum is wrong.
func TestBursts(t *testing.T) {
	r := rand.New(rand.NewSource(4))
	for kind := dgram.Hello; kind <= dgram.Abort; kind++ {
		for _, s := range []string{bytesOf(dgram.Datagram{Kind: kind}), bytesOf(wide(kind)), bytesOf(anyGood(r, kind))} {
			for at := range 8 * len(s) {
				for _, pattern := range []uint32{1, 3, 1<<31 | 1, math.MaxUint32, 0xedb88320, 0xdb710641, r.Uint32() | 1, r.Uint32() | 1} {
					spoilt := turned(s, at, pattern)
					if spoilt == s {
						continue // all bits of the pattern are beyond the end
					}
					d, err := dgram.Decode(spoilt)
					if d != (dgram.Datagram{}) || err != api.ErrSum {
						t.Fatalf("%x: bits %x from %d on: %+v, %d", s, pattern, at, d, err)
					}
				}
			}
		}
	}
}

// P22.2: any bytes, also such as look like datagrams.
func TestAnyBytes(t *testing.T) {
	r := rand.New(rand.NewSource(5))
	for range 50000 {
		s := anyText(r, 60)
		checkDecode(t, s)
		checkDecode(t, sealed(s))
		head := "LG" + string([]byte{byte(r.Intn(7)), byte(r.Intn(3))}) + strings.Repeat("\x00", 28)
		checkDecode(t, sealed(head+string([]byte{byte(len(s)), 0})+s))
		checkDecode(t, sealed(head+"\x00\x00"))
	}
	checkDecode(t, strings.Repeat("LG", 1<<20))
	checkDecode(t, sealed(strings.Repeat("LG", 1<<20)))
}
