package dgram

import (
	"strings"

	"lighter/bits"
)

const (
	countSize = 2                    // bytes that tell how many a joined text has
	mostText  = 1<<(8*countSize) - 1 // so it has at most so many
)

// Join datagrams' bytes to one text.
func Join(l []string) string {
	var w strings.Builder
	for _, text := range l {
		if len(text) <= mostText {
			w.WriteString(bits.Put(uint64(len(text)), countSize))
			w.WriteString(text)
		}
	}
	return w.String()
}

// Split a text into what was joined.
func Split(s string) ([]string, bool) {
	var l []string
	for s != "" {
		text, rest, ok := first(s)
		if !ok {
			return nil, false
		}
		l = append(l, text)
		s = rest
	}
	return l, true
}

// first text that was joined, and what stands behind it; false: it isn't whole.
func first(s string) (string, string, bool) {
	if len(s) < countSize {
		return "", "", false
	}
	end := countSize + int(bits.Get(s[:countSize]))
	if len(s) < end {
		return "", "", false
	}
	return s[countSize:end], s[end:], true
}
