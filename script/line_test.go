package script_test

import (
	"math"
	"math/rand"
	"slices"
	"strconv"
	"strings"
	"testing"

	"lighter/api"
	"lighter/script"
	"lighter/world"
)

// same steps? Lists without elements count as the same.
func same(a, b world.Step) bool {
	return a.Kind == b.Kind && a.Way == b.Way && a.N == b.N && a.Bits == b.Bits && a.Text == b.Text && slices.Equal(a.Fates, b.Fates)
}

// P30.1: each kind's line.
func TestLines(t *testing.T) {
	for line, s := range map[string]world.Step{
		"tick":                                   {Kind: world.Tick},
		"round":                                  {Kind: world.Round},
		"deliver there":                          {Kind: world.Deliver},
		"deliver back":                           {Kind: world.Deliver, Way: 1},
		"lose there":                             {Kind: world.Lose},
		"lose back":                              {Kind: world.Lose, Way: 1},
		"twice there":                            {Kind: world.Twice},
		"twice back":                             {Kind: world.Twice, Way: 1},
		"turn there":                             {Kind: world.Turn},
		"turn back":                              {Kind: world.Turn, Way: 1},
		"spoil there 0 0":                        {Kind: world.Spoil},
		"spoil back 65535 4294967295":            {Kind: world.Spoil, Way: 1, N: 65535, Bits: math.MaxUint32},
		"spoil back 10 2147483648":               {Kind: world.Spoil, Way: 1, N: 10, Bits: 1 << 31},
		"fuse there -1":                          {Kind: world.Fuse, N: -1},
		"fuse back 0":                            {Kind: world.Fuse, Way: 1},
		"fuse back 65535":                        {Kind: world.Fuse, Way: 1, N: 65535},
		"crash there":                            {Kind: world.Crash},
		"crash back 0 1 2 3 3":                   {Kind: world.Crash, Way: 1, Fates: []int{0, 1, 2, 3, 3}},
		"crash there" + strings.Repeat(" 2", 64): {Kind: world.Crash, Fates: slices.Repeat([]int{2}, 64)},
		"inject .":                               {Kind: world.Inject},
		"inject 00":                              {Kind: world.Inject, Text: "\x00"},
		"inject 0a2061ff":                        {Kind: world.Inject, Text: "\x0a a\xff"},
		"inject " + strings.Repeat("9f", 512):    {Kind: world.Inject, Text: strings.Repeat("\x9f", 512)},
	} {
		if !script.Good(s) {
			t.Errorf("%+v isn't good", s)
		}
		if got := script.Show([]world.Step{s}); got != line+"\n" {
			t.Errorf("%+v: %q", s, got)
		}
		l, at, err := script.Parse(line + "\n")
		if len(l) != 1 || at != 0 || err != api.OK || !same(l[0], s) {
			t.Errorf("%q: %+v, %d, %d", line, l, at, err)
		}
		checkParse(t, line+"\n")
	}
}

// P30.1: steps that aren't good.
func TestNotGood(t *testing.T) {
	var l []world.Step
	for _, kind := range []int{math.MinInt, -1, 0, 11, 256 + world.Tick, math.MaxInt} {
		l = append(l, world.Step{Kind: kind})
	}
	for kind := world.Tick; kind <= world.Round; kind++ {
		for _, way := range []int{math.MinInt, -1, 2, 1 << 32, math.MaxInt} {
			l = append(l, world.Step{Kind: kind, Way: way})
		}
		if kind == world.Tick || kind == world.Inject || kind == world.Round {
			l = append(l, world.Step{Kind: kind, Way: 1})
		}
		for _, n := range []int{math.MinInt, -2, 65536, 1 << 32, math.MaxInt} {
			l = append(l, world.Step{Kind: kind, N: n})
		}
		if kind != world.Fuse {
			l = append(l, world.Step{Kind: kind, N: -1})
		}
		if kind != world.Fuse && kind != world.Spoil {
			l = append(l, world.Step{Kind: kind, N: 1}, world.Step{Kind: kind, N: 65535})
		}
		for _, fates := range [][]int{{-1}, {4}, {0, 1, 2, 3, 4}, {4, 0}, {math.MinInt}, {math.MaxInt}, make([]int, 65)} {
			l = append(l, world.Step{Kind: kind, Fates: fates})
		}
		if kind != world.Crash {
			l = append(l, world.Step{Kind: kind, Fates: []int{0}})
		}
		l = append(l, world.Step{Kind: kind, Text: strings.Repeat("a", 513)})
		if kind != world.Inject {
			l = append(l, world.Step{Kind: kind, Text: "a"}, world.Step{Kind: kind, Text: "\x00"})
		}
		if kind != world.Spoil {
			l = append(l, world.Step{Kind: kind, Bits: 1}, world.Step{Kind: kind, Bits: 1 << 31})
		}
	}
	for _, s := range l {
		if script.Good(s) {
			t.Errorf("%+v is good", s)
		}
	}
	if got := script.Show(l); got != "" {
		t.Errorf("%q", got)
	}
	if got := script.Show([]world.Step{{Kind: world.Round}, l[0], {Kind: world.Tick}, l[len(l)-1], {Kind: world.Fuse, N: 7}}); got != "round\ntick\nfuse there 7\n" {
		t.Errorf("%q", got)
	}
}

// P30.1: a list without fates is as none.
func TestEmptyFates(t *testing.T) {
	for kind := world.Tick; kind <= world.Round; kind++ {
		if !script.Good(world.Step{Kind: kind, Fates: []int{}}) {
			t.Error(kind)
		}
	}
}

// P30.1: nothing to show, or to parse.
func TestNothing(t *testing.T) {
	if got := script.Show(nil); got != "" {
		t.Errorf("%q", got)
	}
	if l, line, err := script.Parse(""); len(l) != 0 || line != 0 || err != api.OK {
		t.Error(l, line, err)
	}
}

// P30.1: wrong lines, and which error comes first.
func TestWrongLines(t *testing.T) {
	long := strings.Repeat
	for line, want := range map[string]api.Errno{
		"": api.ErrWord, " ": api.ErrWord, " tick": api.ErrWord, "Tick": api.ErrWord, "ticks": api.ErrWord, "tic": api.ErrWord,
		"tick\r": api.ErrWord, "tick\t": api.ErrWord, "\x00": api.ErrWord, "\xfftick": api.ErrWord, "there": api.ErrWord,
		"none there 1": api.ErrWord, "fuse\tthere\t1": api.ErrWord, "1": api.ErrWord, "roundround": api.ErrWord,

		"tick ": api.ErrCount, "tick there": api.ErrCount, "round 0": api.ErrCount, "round  ": api.ErrCount,
		"deliver": api.ErrCount, "lose": api.ErrCount, "twice": api.ErrCount, "turn": api.ErrCount,
		"deliver  there": api.ErrCount, "deliver there ": api.ErrCount, "turn there back": api.ErrCount, "lose x y": api.ErrCount,
		"spoil": api.ErrCount, "spoil there": api.ErrCount, "spoil there 0": api.ErrCount, "spoil there 0 0 0": api.ErrCount,
		"spoil x 0": api.ErrCount, "spoil there  0 0": api.ErrCount,
		"fuse": api.ErrCount, "fuse there": api.ErrCount, "fuse there 0 0": api.ErrCount, "fuse x": api.ErrCount,
		"crash": api.ErrCount, "crash there" + long(" 0", 65): api.ErrCount, "crash x" + long(" 9", 65): api.ErrCount,
		"inject": api.ErrCount, "inject 00 00": api.ErrCount, "inject . ": api.ErrCount, "inject  .": api.ErrCount,

		"deliver ": api.ErrNum, "deliver There": api.ErrNum, "deliver 0": api.ErrNum, "lose x": api.ErrNum, "turn backs": api.ErrNum,
		"twice bac": api.ErrNum, "deliver there\r": api.ErrNum, "deliver there\x00": api.ErrNum,
		"spoil there -1 0": api.ErrNum, "spoil there 65536 0": api.ErrNum, "spoil there 0 4294967296": api.ErrNum,
		"spoil there 0 -1": api.ErrNum, "spoil there 00 0": api.ErrNum, "spoil there 0 00": api.ErrNum, "spoil there 0 01": api.ErrNum,
		"spoil there 0 +1": api.ErrNum, "spoil there +0 1": api.ErrNum, "spoil x 0 0": api.ErrNum, "spoil there 0 ": api.ErrNum,
		"spoil there  0": api.ErrNum, "spoil there 0 18446744073709551616": api.ErrNum, "spoil there 0 1_0": api.ErrNum,
		"spoil there 0 0x1": api.ErrNum, "spoil there 4294967296 0": api.ErrNum,
		"fuse there -2": api.ErrNum, "fuse there 65536": api.ErrNum, "fuse there -0": api.ErrNum, "fuse there -01": api.ErrNum,
		"fuse there 007": api.ErrNum, "fuse there +7": api.ErrNum, "fuse there --1": api.ErrNum, "fuse there -": api.ErrNum,
		"fuse there 18446744073709551617": api.ErrNum, "fuse there " + long("1", 1000): api.ErrNum, "fuse there 1a": api.ErrNum,
		"fuse there ": api.ErrNum, "fuse there 1.0": api.ErrNum, "fuse 1 there": api.ErrNum, "fuse there \uff11": api.ErrNum,
		"crash ": api.ErrNum, "crash x": api.ErrNum, "crash there 4": api.ErrNum, "crash there -1": api.ErrNum, "crash there 00": api.ErrNum,
		"crash there 0 ": api.ErrNum, "crash there  0": api.ErrNum, "crash 0 there": api.ErrNum, "crash there 0 1 2 3 x": api.ErrNum,
		"crash there" + long(" 4", 64): api.ErrNum, "crash there 4294967296": api.ErrNum,
		"inject ": api.ErrNum, "inject 0": api.ErrNum, "inject 000": api.ErrNum, "inject 0A": api.ErrNum, "inject 0g": api.ErrNum,
		"inject ..": api.ErrNum, "inject .0": api.ErrNum, "inject 0.": api.ErrNum, "inject +1": api.ErrNum, "inject 0x": api.ErrNum,
		"inject " + long("00", 513): api.ErrNum, "inject " + long("0", 1023): api.ErrNum, "inject 0\xff": api.ErrNum,
	} {
		for n, ahead := range []string{"", "tick\n", "tick\ndeliver there\n"} {
			for _, behind := range []string{"\n", "\ntick\n", "\nnone\n", "", "\n\n"} {
				s := ahead + line + behind
				if line == "" && behind == "" {
					continue // no line is there
				}
				if l, at, err := script.Parse(s); len(l) > 0 || at != n+1 || err != want {
					t.Errorf("%.100q: %d, %d, not %d, %d", s, at, err, n+1, want)
				}
				checkParse(t, s)
			}
		}
	}
}

// P30.1: a line that has no newline behind.
func TestMissingNewline(t *testing.T) {
	for _, line := range []string{"tick", "round", "deliver there", "spoil back 1 2", "crash there", "crash back 3", "fuse there -1", "inject .", "inject 61"} {
		if l, at, err := script.Parse("round\n" + line); len(l) > 0 || at != 2 || err != api.ErrCount {
			t.Error(line, at, err)
		}
		checkParse(t, line)
	}
}

// P30.1: as many bytes as may be, and one more.
func TestMostBytes(t *testing.T) {
	line := "inject " + strings.Repeat("61", 508) + "\n" // 1024 bytes
	s := strings.Repeat(line, 64)
	if l, at, err := script.Parse(s); len(l) != 64 || at != 0 || err != api.OK {
		t.Error(len(l), at, err)
	}
	checkParse(t, s)
	for _, more := range []string{s + "\n", "\n" + s, s + s, strings.Repeat("\n", 65537), strings.Repeat("x", 65537)} {
		if l, at, err := script.Parse(more); len(l) > 0 || at != 0 || err != api.ErrLimit {
			t.Error(len(l), at, err)
		}
	}
	for _, least := range []string{strings.Repeat("x", 65536), strings.Repeat(" ", 65536), strings.Repeat("tick\n", 13107), strings.Repeat("\n", 65536)} {
		checkParse(t, least)
	}
}

// anyGood step, at its edges at times.
func anyGood(r *rand.Rand) world.Step {
	s := world.Step{Kind: 1 + r.Intn(10)}
	if s.Kind != world.Tick && s.Kind != world.Inject && s.Kind != world.Round {
		s.Way = r.Intn(2)
	}
	switch s.Kind {
	case world.Spoil:
		s.N, s.Bits = r.Intn(65536)>>r.Intn(17), r.Uint32()>>r.Intn(33)
	case world.Fuse:
		s.N = r.Intn(65537)>>r.Intn(17) - 1
	case world.Crash:
		for range r.Intn(65) >> r.Intn(7) {
			s.Fates = append(s.Fates, r.Intn(4))
		}
	case world.Inject:
		text := make([]byte, r.Intn(513)>>r.Intn(10))
		r.Read(text)
		s.Text = string(text)
	}
	return s
}

// P30.1: good steps, there and back.
func TestThereAndBack(t *testing.T) {
	r := rand.New(rand.NewSource(1))
	for range 3000 {
		var l []world.Step
		want := ""
		for range r.Intn(12) {
			s := anyGood(r)
			if !script.Good(s) {
				t.Fatalf("%+v isn't good", s)
			}
			l = append(l, s)
			want += lineOf(s)
		}
		if got := script.Show(l); got != want {
			t.Fatalf("%q, not %q", got, want)
		}
		got, at, err := script.Parse(want)
		if at != 0 || err != api.OK || !slices.EqualFunc(got, l, same) {
			t.Fatalf("%q: %d, %d", want, at, err)
		}
	}
}

// anyWord that may stand in a line.
func anyWord(r *rand.Rand) string {
	l := []string{
		"tick", "round", "deliver", "lose", "twice", "turn", "spoil", "fuse", "crash", "inject", "there", "back", ".", "", "-", "-1", "-0", "0", "00",
		"1", "2", "3", "4", "61", "6a", "6A", "65535", "65536", "4294967295", "4294967296", "x", "THERE", "\r", "+1",
	}
	if r.Intn(8) == 0 {
		return strconv.Itoa(r.Intn(70000) - 5)
	}
	return l[r.Intn(len(l))]
}

// P30.1: random lines, and good ones of which something is another, held against the model.
func TestAnyLines(t *testing.T) {
	r := rand.New(rand.NewSource(2))
	counts := map[api.Errno]int{}
	for range 60000 {
		var b []byte
		for range 1 + r.Intn(3) {
			b = append(b, lineOf(anyGood(r))...)
		}
		for range r.Intn(3) {
			i := r.Intn(len(b))
			switch r.Intn(4) {
			case 0:
				b[i] = "0123456789abcdef -.\ntherbackfusinjlo"[r.Intn(36)]
			case 1:
				b = append(b[:i:i], b[i+1:]...)
			case 2:
				b = slices.Insert(b, i, " 0-\n.1a"[r.Intn(7)])
			default:
				b[i] ^= 1 << r.Intn(8)
			}
			b = append(b, '\n')
		}
		if r.Intn(3) == 0 {
			var l []string
			for range 1 + r.Intn(5) {
				l = append(l, anyWord(r))
			}
			b = append(b, strings.Join(l, " ")...)
			b = append(b, "\n"[r.Intn(2):]...)
		}
		counts[checkParse(t, string(b))]++
	}
	if min(counts[api.OK], counts[api.ErrWord], counts[api.ErrCount], counts[api.ErrNum]) < 1000 {
		t.Error(counts)
	}
}

// What is told isn't kept, and what is handed in isn't changed.
func TestShared(t *testing.T) {
	s := "crash there 1 2 3\ncrash there 3\n"
	for range 2 {
		l, _, _ := script.Parse(s)
		if script.Show(l) != s {
			t.Fatal(l)
		}
		_ = append(l[0].Fates, 9)
		clear(l[0].Fates)
		if script.Show(l) != "crash there 0 0 0\ncrash there 3\n" {
			t.Error(l)
		}
		clear(l)
	}
	fates := []int{1, 2, 3, 9}
	l := []world.Step{{Kind: world.Crash, Fates: fates[:3]}, {Kind: -1}}
	script.Show(l[:1])
	if !slices.Equal(fates, []int{1, 2, 3, 9}) || l[1].Kind != -1 {
		t.Error(fates, l)
	}
}
