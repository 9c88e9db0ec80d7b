package script

import (
	"strconv"
	"strings"
)

const (
	digits  = "0123456789abcdef"
	noBytes = "." // what stands for none
)

// sixteens of bytes: two digits for each.
func sixteens(text string) string {
	if text == "" {
		return noBytes
	}
	var told strings.Builder
	for i := range len(text) {
		told.WriteByte(digits[text[i]>>4])
		told.WriteByte(digits[text[i]&15])
	}
	return told.String()
}

// bytesOf sixteens; of anything else some bytes.
func bytesOf(word string) string {
	var text strings.Builder
	for ; len(word) > 1; word = word[2:] {
		b, _ := strconv.ParseUint(word[:2], len(digits), 8)
		text.WriteByte(byte(b))
	}
	return text.String()
}
