package name_test

import (
	"math/rand"
	"slices"
	"strings"

	"lighter/api"
)

// signAt the beginning of a text, by the document's words: how many bytes it has; 0, where there is none that is right.
func signAt(s string) int {
	size, n := 0, 0
	switch b := int(s[0]); {
	case b < 0x80:
		return 1
	case b < 0xc0 || b >= 0xf8:
		return 0
	case b < 0xe0:
		size, n = 2, b-0xc0
	case b < 0xf0:
		size, n = 3, b-0xe0
	default:
		size, n = 4, b-0xf0
	}
	if len(s) < size {
		return 0
	}
	for i := 1; i < size; i++ {
		if s[i] < 0x80 || s[i] >= 0xc0 {
			return 0
		}
		n = n<<6 + int(s[i]) - 0x80
	}
	least := []int{2: 0x80, 3: 0x800, 4: 0x10000}[size]
	if n < least || n > 0x10ffff || n >= 0xd800 && n <= 0xdfff {
		return 0
	}
	return size
}

// mayBe a name, by the document's words.
func mayBe(s string) bool {
	if len(s) < 1 || len(s) > 65535 {
		return false
	}
	for rest := s; rest != ""; {
		n := signAt(rest)
		if n == 0 {
			return false
		}
		rest = rest[n:]
	}
	for i := range len(s) {
		if s[i] < 32 || s[i] == 127 || s[i] == '\\' {
			return false
		}
	}
	for _, part := range strings.Split(s, "/") {
		if part == "" || part == "." || part == ".." {
			return false
		}
	}
	return true
}

func below(s, dir string) bool { return strings.HasPrefix(s, dir+"/") }

// firstFault of names, by the document's words.
func firstFault(l []string) (int, api.Errno) {
	for i, s := range l {
		if !mayBe(s) {
			return i, api.ErrName
		}
		for _, ahead := range l[:i] {
			if s == ahead || below(s, ahead) || below(ahead, s) {
				return i, api.ErrTwice
			}
		}
	}
	return 0, api.OK
}

// dirsOf names, by the document's words.
func dirsOf(l []string) []string {
	found := map[string]bool{}
	for _, s := range l {
		for i := range len(s) {
			if s[i] == '/' && mayBe(s) {
				found[s[:i]] = true
			}
		}
	}
	var dirs []string
	for s := range found {
		dirs = append(dirs, s)
	}
	slices.Sort(dirs)
	return dirs
}

// cleaned by the document's words: one part after the other is taken away.
func cleaned(s string) (string, bool) {
	l := strings.Split(s, "/")
	l = slices.DeleteFunc(l, func(part string) bool { return part == "" || part == "." })
	for {
		i := slices.Index(l, "..")
		if i < 0 {
			break
		}
		if i == 0 {
			return "", false
		}
		l = slices.Delete(l, i-1, i+1)
	}
	s = strings.Join(l, "/")
	if !mayBe(s) {
		return "", false
	}
	return s, true
}

// anyText of some signs, and parts.
func anyText(r *rand.Rand, most int, signs ...string) string {
	var s strings.Builder
	for range r.Intn(most + 1) {
		s.WriteString(signs[r.Intn(len(signs))])
	}
	return s.String()
}
