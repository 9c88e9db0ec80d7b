package zip_test

import (
	"strings"

	"lighter/dos"
	"lighter/name"
	"lighter/zip"
)

// le: a number's bytes, the lowest first.
func le(n uint64, size int) string {
	s := ""
	for range size {
		s += string([]byte{byte(n)})
		n >>= 8
	}
	return s
}

const (
	edge = 1<<32 - 7 - 1<<18 // above it a size is big
	ff4  = "\xff\xff\xff\xff"
	top  = 1 << 62
)

// modelBig, modelGood, modelLocal, modelDescr, modelCentral and modelEnd are the chapter's words, one by one.
func modelBig(h zip.Head) bool { return h.Size > edge || h.Packed > edge }

func modelGood(h zip.Head) bool {
	if name.Check(h.Name) != 0 || !h.Time.Good() || h.Packed >= top || h.Size >= top || h.At >= top {
		return false
	}
	return !h.Kept || h.Packed == 0 && h.Size == 0
}

func modelManner(h zip.Head) string {
	flags, method := uint64(8), uint64(8)
	if h.Kept {
		flags, method = 0, 0
	}
	if strings.ContainsFunc(h.Name, func(r rune) bool { return r >= 128 }) {
		flags += 2048
	}
	t := h.Time
	clock := t.Second/2 + t.Minute*32 + t.Hour*2048
	date := t.Day + t.Month*32 + (t.Year-1980)*512
	return le(flags, 2) + le(method, 2) + le(uint64(clock), 2) + le(uint64(date), 2)
}

func modelLocal(h zip.Head) string {
	if !modelGood(h) {
		return ""
	}
	size := le(uint64(len(h.Name)), 2)
	if modelBig(h) {
		return "\x50\x4b\x03\x04\x2d\x00" + modelManner(h) + "\x00\x00\x00\x00" + ff4 + ff4 + size + "\x14\x00" + h.Name +
			"\x01\x00\x10\x00" + "\x00\x00\x00\x00\x00\x00\x00\x00" + "\x00\x00\x00\x00\x00\x00\x00\x00"
	}
	return "\x50\x4b\x03\x04\x14\x00" + modelManner(h) + "\x00\x00\x00\x00\x00\x00\x00\x00\x00\x00\x00\x00" + size + "\x00\x00" + h.Name
}

func modelDescr(h zip.Head) string {
	if !modelGood(h) || h.Kept {
		return ""
	}
	s := "\x50\x4b\x07\x08" + le(uint64(h.Sum), 4)
	if modelBig(h) {
		return s + le(h.Packed, 8) + le(h.Size, 8)
	}
	return s + le(h.Packed, 4) + le(h.Size, 4)
}

func modelCentral(h zip.Head) string {
	if !modelGood(h) {
		return ""
	}
	sizes, at, numbers := le(h.Packed, 4)+le(h.Size, 4), le(h.At, 4), ""
	if modelBig(h) {
		sizes = ff4 + ff4
		numbers += le(h.Size, 8) + le(h.Packed, 8)
	}
	if h.At > 1<<32-2 {
		at = ff4
		numbers += le(h.At, 8)
	}
	version, extra := "\x14\x00", ""
	if numbers != "" {
		version, extra = "\x2d\x00", "\x01\x00"+le(uint64(len(numbers)), 2)+numbers
	}
	return "\x50\x4b\x01\x02" + version + version + modelManner(h) + le(uint64(h.Sum), 4) + sizes +
		le(uint64(len(h.Name)), 2) + le(uint64(len(extra)), 2) + "\x00\x00\x00\x00\x00\x00\x00\x00\x00\x00" + at + h.Name + extra
}

func modelEnd(count, size, at uint64) string {
	if count >= top || size >= top || at >= top {
		return ""
	}
	s := ""
	if count > 65534 || size > 1<<32-2 || at > 1<<32-2 {
		s = "\x50\x4b\x06\x06" + le(44, 8) + le(45, 2) + le(45, 2) + le(0, 8) + le(count, 8) + le(count, 8) + le(size, 8) + le(at, 8) +
			"\x50\x4b\x06\x07" + le(0, 4) + le(at+size, 8) + le(1, 4)
	}
	files := le(count, 2)
	if count > 65534 {
		files = "\xff\xff"
	}
	s += "\x50\x4b\x05\x06\x00\x00\x00\x00" + files + files
	for _, n := range []uint64{size, at} {
		if n > 1<<32-2 {
			s += ff4
		} else {
			s += le(n, 4)
		}
	}
	return s + "\x00\x00"
}

// begins: 0, where s may yet become a header, -1, where it is none; else how many bytes its lengths tell.
func begins(s, magic string, fixed, lengths int) int {
	if len(s) < 4 && strings.HasPrefix(magic, s) {
		return 0
	}
	if !strings.HasPrefix(s, magic) {
		return -1
	}
	if len(s) < fixed {
		return 0
	}
	size := fixed
	for i := range 2 {
		size += int(s[lengths+2*i]) + int(s[lengths+2*i+1])*256
	}
	if len(s) < size {
		return 0
	}
	return size
}

func get(s string) uint64 {
	var n uint64
	for i := len(s) - 1; i >= 0; i-- {
		n = n<<8 + uint64(s[i])
	}
	return n
}

// modelRead holds a text against the headers of all heads that it could be one of.
func modelRead(s string) (zip.Head, int) {
	size := begins(s, "PK\x03\x04", 30, 26)
	if size < 1 {
		return zip.Head{}, size
	}
	title := s[30 : 30+get(s[26:28])]
	t, _ := dos.Unpack(get(s[12:14]), get(s[10:12]))
	for _, h := range []zip.Head{
		{Name: title, Time: t},
		{Name: title, Time: t, Kept: true},
		{Name: title, Time: t, Size: 1<<32 - 1},
	} {
		if modelLocal(h) == s[:size] {
			return h, size
		}
	}
	return zip.Head{}, -1
}

// modelReadCentral does so, too.
func modelReadCentral(s string) (zip.Head, int) {
	size := begins(s, "PK\x01\x02", 46, 28)
	if size < 1 {
		return zip.Head{}, size
	}
	title := s[46 : 46+get(s[28:30])]
	t, _ := dos.Unpack(get(s[14:16]), get(s[12:14]))
	small := zip.Head{Name: title, Time: t, Sum: uint32(get(s[16:20])), Packed: get(s[20:24]), Size: get(s[24:28]), At: get(s[42:46])}
	kept := small
	kept.Kept = true
	heads := []zip.Head{small, kept}
	extra := s[46+len(title) : size]
	if len(extra) >= 12 {
		small.At, kept.At = get(extra[4:12]), get(extra[4:12])
		heads = append(heads, small, kept)
	}
	if len(extra) >= 20 {
		big := small
		big.Size, big.Packed, big.At = get(extra[4:12]), get(extra[12:20]), get(s[42:46])
		heads = append(heads, big)
	}
	if len(extra) >= 28 {
		far := small
		far.Size, far.Packed, far.At = get(extra[4:12]), get(extra[12:20]), get(extra[20:28])
		heads = append(heads, far)
	}
	for _, h := range heads {
		if modelCentral(h) == s[:size] {
			return h, size
		}
	}
	return zip.Head{}, -1
}
