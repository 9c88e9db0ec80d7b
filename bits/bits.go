// Package bits is layer 1: see shared/doc/01-bits.md.
package bits

// widest: how many bits are written or read at once, at most.
const widest = 32

// Put: a number's bytes, the lowest first.
func Put(n uint64, size int) string {
	if size < 1 || size > 8 {
		return ""
	}
	s := make([]byte, size)
	for i := range size {
		s[i] = byte(n >> (8 * i))
	}
	return string(s)
}

// Get the number of bytes.
func Get(s string) uint64 {
	if len(s) > 8 {
		return 0
	}
	var n uint64
	for i := range len(s) {
		n |= uint64(s[i]) << (8 * i)
	}
	return n
}

// Writer of bits, the lowest first.
type Writer struct {
	whole []byte // bytes that are whole
	part  uint64 // the bits behind them
	size  int    // how many these are, below eight
}

// Write a number in so many bits.
func (w *Writer) Write(v uint64, n int) {
	if w == nil || n < 1 || n > widest {
		return
	}
	w.part |= v & (1<<n - 1) << w.size
	w.size += n
	for range w.size / 8 {
		w.whole = append(w.whole, byte(w.part))
		w.part >>= 8
	}
	w.size %= 8
}

// Align to the next byte.
func (w *Writer) Align() {
	if w != nil && w.size > 0 {
		w.Write(0, 8-w.size)
	}
}

// Add bytes behind the next byte's beginning.
func (w *Writer) Add(s string) {
	if w == nil {
		return
	}
	w.Align()
	w.whole = append(w.whole, s...)
}

// Len: how many bits were written, and not drained.
func (w *Writer) Len() int {
	if w == nil {
		return 0
	}
	return 8*len(w.whole) + w.size
}

// Drain the bytes that are whole.
func (w *Writer) Drain() string {
	if w == nil {
		return ""
	}
	s := string(w.whole)
	w.whole = nil
	return s
}

// Reader of bits, the lowest first.
type Reader struct {
	bytes []byte // bytes of which at least one bit is left
	gone  int    // how many bits of the first one are gone, below eight
}

// Feed bytes.
func (r *Reader) Feed(s string) {
	if r != nil {
		r.bytes = append(r.bytes, s...)
	}
}

// Left: how many bits are there.
func (r *Reader) Left() int {
	if r == nil {
		return 0
	}
	return 8*len(r.bytes) - r.gone
}

// Peek at the next bits.
func (r *Reader) Peek(n int) (uint64, bool) {
	if r == nil || n < 0 || n > widest || n > r.Left() {
		return 0, false
	}
	var v uint64
	for i := range (r.gone + n + 7) / 8 {
		v |= uint64(r.bytes[i]) << (8 * i)
	}
	return v >> r.gone & (1<<n - 1), true
}

// Read the next bits.
func (r *Reader) Read(n int) (uint64, bool) {
	v, ok := r.Peek(n)
	if ok {
		r.drop(n)
	}
	return v, ok
}

// drop bits that are there.
func (r *Reader) drop(n int) {
	r.gone += n
	r.bytes = r.bytes[r.gone/8:]
	r.gone %= 8
}

// Align to the next byte.
func (r *Reader) Align() {
	if r != nil && r.gone > 0 {
		r.drop(8 - r.gone)
	}
}

// Take bytes: as many as there are, and at most so many.
func (r *Reader) Take(n int) string {
	if r == nil {
		return ""
	}
	r.Align()
	n = max(0, min(n, len(r.bytes)))
	s := string(r.bytes[:n])
	r.drop(8 * n)
	return s
}
