package name_test

import (
	"math/rand"
	"slices"
	"strconv"
	"strings"
	"testing"
	"unicode/utf8"

	"lighter/api"
	"lighter/name"
)

func checkCheck(t *testing.T, s string, want bool) {
	t.Helper()
	e := name.Check(s)
	if want && e != api.OK || !want && e != api.ErrName {
		t.Fatalf("%.100q of %d bytes: %v", s, len(s), e)
	}
}

// The chapter's example.
func TestExample(t *testing.T) {
	checkCheck(t, "a/b", true)
	for _, s := range []string{"a//b", "/a", "a/", "..", "a\\b"} {
		checkCheck(t, s, false)
	}
}

// P12.1: names that may be.
func TestGood(t *testing.T) {
	for _, s := range []string{
		"a", " ", "~", "...", "....", ". ", " .", ".. ", ".a", "a.", "..a", "a..", "a/...", ".../a", "a/.b/c.", "a/b/c/d.txt", "C:", "*?\"<>|",
		"\u0080", "\u009f", "é", "日本/語", "😀", "\ufffd", "\ufeff", "\ud7ff", "\ue000", "\uffff", "\U00010000", "\U0010ffff", "‥", "∕",
	} {
		checkCheck(t, s, true)
		checkCheck(t, s+"/"+s+"/a", true)
	}
}

// P12.1: names that may not be, also as a part of a greater one.
func TestBad(t *testing.T) {
	for _, s := range []string{
		"", ".", "..", "/", "//", "/a", "a/", "a//b", "./a", "../a", "a/.", "a/..", "a/./b", "a/../b", "a/b/", "a/b/.",
		"\\", "a\\b", "..\\a", "\x00", "a\x00", "\n", "\t", "a\x1f", "\x7f", "é\x7f",
		"\x80", "\xbf", "a\xffb", "\xc3", "\xc3a", "\xe6\x97", "\xf0\x9f\x98", "\xc0\x80", "\xc0\xaf", "\xc1\xbf", "\xe0\x80\x80", "\xe0\x9f\xbf",
		"\xf0\x80\x80\x80", "\xf0\x8f\xbf\xbf", "\xed\xa0\x80", "\xed\xbf\xbf", "\xed\xa0\xbd\xed\xb8\x80", "\xf4\x90\x80\x80", "\xf5\x80\x80\x80",
		"\xf8\x88\x80\x80\x80", "\xfc\x84\x80\x80\x80\x80", "\xfe", "\xff",
	} {
		checkCheck(t, s, false)
		checkCheck(t, "a/"+s, false)
		checkCheck(t, s+"/a", false)
		checkCheck(t, "a/"+s+"/a", false)
	}
}

// P12.1: all texts of up to two bytes, alone and between others.
func TestShort(t *testing.T) {
	check := func(s string) {
		checkCheck(t, s, mayBe(s))
		checkCheck(t, "a/"+s+"/b", mayBe("a/"+s+"/b"))
		checkCheck(t, "x"+s, mayBe("x"+s))
	}
	check("")
	for a := range 256 {
		check(string([]byte{byte(a)}))
		for b := range 256 {
			check(string([]byte{byte(a), byte(b)}))
		}
	}
}

// P12.1: signs of more bytes, and what looks like these.
func TestBytes(t *testing.T) {
	edges := []byte{0, '/', 0x7f, 0x80, 0x81, 0x8f, 0x90, 0x9f, 0xa0, 0xbe, 0xbf, 0xc0, 0xff}
	for a := 0xc0; a < 256; a++ {
		for _, b := range edges {
			for _, c := range edges {
				for _, d := range edges {
					s := string([]byte{byte(a), b, c, d})
					checkCheck(t, s, mayBe(s))
					checkCheck(t, s[:3], mayBe(s[:3]))
					checkCheck(t, s+"a", mayBe(s+"a"))
				}
			}
		}
	}
}

// P12.1: every sign, and numbers that are none.
func TestSigns(t *testing.T) {
	for sign := range rune(0x10ffff + 1) {
		want := sign >= 32 && sign != 127 && sign != '\\' && sign != '/' && (sign < 0xd800 || sign > 0xdfff)
		s := string(sign)
		if sign >= 0xd800 && sign <= 0xdfff {
			s = string([]byte{0xe0 | byte(sign>>12), 0x80 | byte(sign>>6)&0x3f, 0x80 | byte(sign)&0x3f})
		}
		checkCheck(t, s, want && sign != '.')
		checkCheck(t, "a"+s, want)
	}
}

// P12.1: as many bytes as may be, and one more.
func TestLong(t *testing.T) {
	deep := strings.Repeat("a/", 32767) + "b"
	for s, want := range map[string]bool{
		strings.Repeat("a", 65534):        true,
		strings.Repeat("a", 65535):        true,
		strings.Repeat("a", 65536):        false,
		strings.Repeat("a", 1<<20):        false,
		deep:                              true,
		deep + "c":                        false,
		deep[:65534]:                      false,
		strings.Repeat("日", 21845):        true,
		strings.Repeat("日", 21845) + "a":  false,
		strings.Repeat("日", 21846):        false,
		strings.Repeat("a", 65534) + "/":  false,
		strings.Repeat("a", 65534) + "\\": false,
		strings.Repeat("a", 65534) + "é":  false,
		strings.Repeat("a", 65533) + "é":  true,
		strings.Repeat("/", 65535):        false,
		"a/" + strings.Repeat(".", 65533): true,
	} {
		checkCheck(t, s, want)
	}
}

// P12.1: bytes below 128 alone, of any text.
func TestPlain(t *testing.T) {
	for _, s := range []string{"", "a", "\x00", "\x7f", "a//b\\..", "\n", strings.Repeat("\x7f", 70000)} {
		if !name.Plain(s) {
			t.Errorf("%.100q isn't plain", s)
		}
		for b := 128; b < 256; b++ {
			other := string([]byte{byte(b)})
			if name.Plain(s+other) || name.Plain(other+s) || name.Plain(s+other+s) {
				t.Errorf("%.100q with %x is plain", s, b)
			}
		}
	}
	for b := range utf8.RuneSelf {
		if !name.Plain(string([]byte{byte(b)})) {
			t.Errorf("%x isn't plain", b)
		}
	}
}

func checkNames(t *testing.T, l []string, place int, want api.Errno) {
	t.Helper()
	given := slices.Clone(l)
	if i, e := name.All(l); i != place || e != want {
		t.Fatalf("%.200q: %v at %d, not %v at %d", l, e, i, want, place)
	}
	if !slices.Equal(l, given) {
		t.Fatal("what was handed in is changed")
	}
}

// P12.2: names that stand beside one another, or can't.
func TestAll(t *testing.T) {
	for _, x := range []struct {
		names []string
		place int
		want  api.Errno
	}{
		{nil, 0, api.OK},
		{[]string{"a"}, 0, api.OK},
		{[]string{"a", "b", "A", "aa", "a ", "a!", "a.", "a0", ".a"}, 0, api.OK},
		{[]string{"d/a", "d/b", "d/c/a", "e/a", "d/c/b", "a", "c"}, 0, api.OK},
		{[]string{"a/b", "a!/b", "a0", "a!b", "b/a", "b/b/a"}, 0, api.OK},
		{[]string{"é", "e\u0301"}, 0, api.OK},
		{[]string{""}, 0, api.ErrName},
		{[]string{"a", "b", "a//b", "/", ""}, 2, api.ErrName},
		{[]string{"a", "b", "a"}, 2, api.ErrTwice},
		{[]string{"a", "a"}, 1, api.ErrTwice},
		{[]string{"d/a", "d/b", "d/a"}, 2, api.ErrTwice},
		{[]string{"a", "a/b"}, 1, api.ErrTwice},
		{[]string{"a/b", "a"}, 1, api.ErrTwice},
		{[]string{"x", "a/b/c/d", "a/b"}, 2, api.ErrTwice},
		{[]string{"x", "a/b", "y", "a/b/c/d"}, 3, api.ErrTwice},
		{[]string{"a", "x/a", "a/x", "a"}, 2, api.ErrTwice},
		{[]string{"a/b/c", "a/d", "a/b/d", "a/b"}, 3, api.ErrTwice},
		{[]string{"a/b/c", "a/d", "a/d/b"}, 2, api.ErrTwice},
		// At one place the name's own fault tells, else what comes first.
		{[]string{"a", "a/"}, 1, api.ErrName},
		{[]string{"a", "a", "/"}, 1, api.ErrTwice},
		{[]string{"a", "/", "a"}, 1, api.ErrName},
		{[]string{"", ""}, 0, api.ErrName},
		{[]string{"a", "a/../b"}, 1, api.ErrName},
	} {
		checkNames(t, x.names, x.place, x.want)
	}
}

// P12.2: any names.
func TestAllRandom(t *testing.T) {
	r := rand.New(rand.NewSource(1))
	times := map[api.Errno]int{}
	for range 100000 {
		var l []string
		for range r.Intn(9) {
			switch r.Intn(20) {
			case 0:
				l = append(l, anyText(r, 4, "a", "/", "."))
			case 1, 2, 3:
				l = append(l, "a"+anyText(r, 3, "/a", "/b", "a", "!"))
			default:
				l = append(l, anyText(r, 2, "a/", "b/", "c/", "d!/")+anyText(r, 1, "é", "q")+strconv.Itoa(r.Intn(9)))
			}
		}
		place, want := firstFault(l)
		checkNames(t, l, place, want)
		times[want]++
	}
	for _, e := range []api.Errno{api.OK, api.ErrName, api.ErrTwice} {
		if times[e] < 5000 {
			t.Errorf("%v %d times", e, times[e])
		}
	}
}

// P12.2: as many names as may be, and more.
func TestManyNames(t *testing.T) {
	l := make([]string, 1<<20+1)
	for i := range l {
		l[i] = strconv.Itoa(i%1000) + "/" + strconv.Itoa(i)
	}
	checkNames(t, l[:1<<20], 0, api.OK)
	checkNames(t, l, 1<<20, api.ErrLimit)
	l[1<<20-1] = "7"
	checkNames(t, l[:1<<20], 1<<20-1, api.ErrTwice)
	l[0], l[1], l[2] = "", "a", "a"
	checkNames(t, l[:1<<20], 0, api.ErrName)
	checkNames(t, l, 1<<20, api.ErrLimit)
	checkNames(t, make([]string, 1<<20+5), 1<<20, api.ErrLimit)
}

// P12.2: deep names, each of which shares all directories with the one ahead.
func TestDeepNames(t *testing.T) {
	deep := strings.Repeat("a/", 32766)
	var l []string
	for i := range 100 {
		l = append(l, deep+"x"+strconv.Itoa(i))
	}
	checkNames(t, l, 0, api.OK)
	checkNames(t, append(l, deep[:40001]), 100, api.ErrTwice)
	checkNames(t, append(l, deep[:40000]+"b"), 0, api.OK)
	checkNames(t, append(l, l[50]+"/"), 100, api.ErrName)
	checkNames(t, append(l, l[50]+"/q"), 100, api.ErrName)
	checkNames(t, append([]string{"b"}, append(l, deep+"x5")...), 101, api.ErrTwice)
	checkNames(t, append([]string{deep[:40001]}, l...), 1, api.ErrTwice)
	dirs := name.Dirs(l)
	if len(dirs) != 32766 {
		t.Fatal(len(dirs))
	}
	for i, s := range dirs {
		if s != deep[:2*i+1] {
			t.Fatal(i, len(s))
		}
	}
}

// P12.2: Below, of any texts.
func TestBelow(t *testing.T) {
	for _, x := range []struct {
		s, dir string
		want   bool
	}{
		{"a/b", "a", true},
		{"a/b/c", "a", true},
		{"a/b/c", "a/b", true},
		{"a/", "a", true},
		{"/", "", true},
		{"/a", "", true},
		{"a//", "a/", true},
		{"\xff/", "\xff", true},
		{"a", "a", false},
		{"ab", "a", false},
		{"ab/c", "a", false},
		{"a", "a/b", false},
		{"a/b", "b", false},
		{"a/b", "a/", false},
		{"a/b", "a/b", false},
		{"A/b", "a", false},
		{"a", "", false},
		{"", "", false},
		{"", "a", false},
		{"a\\b", "a", false},
	} {
		if name.Below(x.s, x.dir) != x.want {
			t.Errorf("%q, %q: not %v", x.s, x.dir, x.want)
		}
	}
	r := rand.New(rand.NewSource(2))
	for range 50000 {
		s, dir := anyText(r, 6, "a", "/", "b"), anyText(r, 4, "a", "/", "b")
		if name.Below(s, dir) != below(s, dir) {
			t.Fatalf("%q, %q", s, dir)
		}
	}
}

// P12.3: Split, of any texts.
func TestSplit(t *testing.T) {
	for s, want := range map[string][2]string{
		"":         {"", ""},
		"a":        {"", "a"},
		"a/b":      {"a", "b"},
		"a/b/c":    {"a/b", "c"},
		"/":        {"", ""},
		"/a":       {"", "a"},
		"a/":       {"a", ""},
		"//":       {"/", ""},
		"a//b":     {"a/", "b"},
		"..":       {"", ".."},
		"a\\b":     {"", "a\\b"},
		"\xff/日/é": {"\xff/日", "é"},
	} {
		if dir, base := name.Split(s); dir != want[0] || base != want[1] {
			t.Errorf("%q: %q, %q", s, dir, base)
		}
	}
}

func checkDirs(t *testing.T, l, want []string) {
	t.Helper()
	given := slices.Clone(l)
	if got := name.Dirs(l); !slices.Equal(got, want) {
		t.Fatalf("%q: %q, not %q", l, got, want)
	}
	if !slices.Equal(l, given) {
		t.Fatal("what was handed in is changed")
	}
}

// P12.3: directories.
func TestDirs(t *testing.T) {
	for _, x := range []struct{ names, want []string }{
		{nil, nil},
		{[]string{"a", "b"}, nil},
		{[]string{"a/b"}, []string{"a"}},
		{[]string{"a/b/c", "a/d"}, []string{"a", "a/b"}},
		{[]string{"b/a", "a/b", "c", "b/c"}, []string{"a", "b"}},
		// Rising by their bytes: a slash comes behind some signs.
		{[]string{"a/b/c", "a!/b", "a0/b"}, []string{"a", "a!", "a/b", "a0"}},
		{[]string{"é/x", "z/x", "\U00010000/x", "\uffff/x"}, []string{"z", "é", "\uffff", "\U00010000"}},
		{[]string{"B/x", "a/x", "aa/x", "A/x"}, []string{"A", "B", "a", "aa"}},
		// Of the names that may be, also of those that can't stand beside others.
		{[]string{"", "/a", "a//b", "a/b/", "x/../y", "x/.", "p\\q/r", "q/\xff", "q/\n"}, nil},
		{[]string{"a/b/", "a/b/c", "a\x00/b"}, []string{"a", "a/b"}},
		{[]string{"a", "a/b", "a/b/c", "a/b/c"}, []string{"a", "a/b"}},
		{[]string{"a/b/c", "a/b", "a"}, []string{"a", "a/b"}},
		{[]string{strings.Repeat("a/", 32768) + "b", "c/d"}, []string{"c"}},
	} {
		checkDirs(t, x.names, x.want)
	}
	r := rand.New(rand.NewSource(3))
	for range 30000 {
		var l []string
		for range r.Intn(8) {
			l = append(l, anyText(r, 8, "a", "/", "b", "!", "/", "é"))
		}
		checkDirs(t, l, dirsOf(l))
	}
	many := make([]string, 1<<20+1) // more than one archive has
	for i := range many {
		many[i] = "d/" + strconv.Itoa(i)
	}
	many[1<<20] = "e/f"
	checkDirs(t, many, []string{"d", "e"})
}

func checkClean(t *testing.T, s, want string, may bool) {
	t.Helper()
	if got, ok := name.Clean(s); got != want || ok != may {
		t.Fatalf("%.100q: %.100q, %v, not %.100q, %v", s, got, ok, want, may)
	}
}

// P12.3: texts that can be names.
func TestClean(t *testing.T) {
	for s, want := range map[string]string{
		"a":                                   "a",
		"a/b":                                 "a/b",
		"/a":                                  "a",
		"a/":                                  "a",
		"a//b":                                "a/b",
		"///a///b///":                         "a/b",
		"./a":                                 "a",
		"a/.":                                 "a",
		"a/./b":                               "a/b",
		"a/../b":                              "b",
		"a/b/..":                              "a",
		"a/b/../c":                            "a/c",
		"a/b/../../c":                         "c",
		"a//../b":                             "b",
		"a/./../b":                            "b",
		"a/b/.././/../c/..d":                  "c/..d",
		".../a":                               ".../a",
		"\\/../b":                             "b",
		"\xff\x00/../é":                       "é",
		"a/.. ":                               "a/.. ",
		strings.Repeat("x", 70000) + "/../a":  "a",
		strings.Repeat("a/../", 70000) + "b":  "b",
		strings.Repeat("./", 70000) + "b/c":   "b/c",
		strings.Repeat("/", 70000) + "b":      "b",
		strings.Repeat("a//", 32767) + "/./b": strings.Repeat("a/", 32767) + "b",
	} {
		checkClean(t, s, want, true)
	}
	for _, s := range []string{
		"", "/", "//", ".", "./.", "..", "/..", "../a", "a/../..", "a/../../b", "./../a", "a/..", "a/b/../..", "a/../b/../../c",
		"a\\b", "a/\x00", "\x7f", "a/\xff", "\xed\xa0\x80/b", strings.Repeat("a", 65536), strings.Repeat("a/", 32768) + "b",
		strings.Repeat("a/", 100) + strings.Repeat("../", 101) + "b",
	} {
		checkClean(t, s, "", false)
	}
	checkClean(t, strings.Repeat("a", 65535)+"/", strings.Repeat("a", 65535), true)
}

// P12.3: any texts; what is clean stays as it is.
func TestCleanRandom(t *testing.T) {
	r := rand.New(rand.NewSource(4))
	times := 0
	for range 100000 {
		s := anyText(r, 9, "a", "/", "/", ".", "..", "/..", "b/", "é/", "a", anyText(r, 1, "\\", "\xff", "\x1f"))
		want, may := cleaned(s)
		checkClean(t, s, want, may)
		if may {
			times++
			checkClean(t, want, want, true)
		}
		if mayBe(s) {
			checkClean(t, s, s, true)
		}
	}
	if times < 20000 {
		t.Error(times)
	}
}
