// Package wire: numbers and texts as bytes: see doc/01-wire.md.
package wire

import "broadsheet/api"

// How many bytes a number takes, and how many the length of a text.
const (
	numSize    = 4
	lengthSize = 2
)

// Writer lays down numbers and texts, one behind the other.
type Writer struct {
	written []byte
}

// New begins with nothing written.
func New() *Writer { return &Writer{} }

// Byte writes b itself.
func (w *Writer) Byte(b byte) { w.number(uint32(b), 1) }

// Num writes n as four bytes.
func (w *Writer) Num(n uint32) { w.number(n, numSize) }

// Bytes writes b behind its length. A text longer than api.MaxRecord has no length of two bytes: it is refused, and nothing is written.
func (w *Writer) Bytes(b []byte) bool {
	if len(b) > api.MaxRecord {
		return false
	}
	w.number(uint32(len(b)), lengthSize)
	w.Raw(b)
	return true
}

// Raw writes b itself: who reads must know its length.
func (w *Writer) Raw(b []byte) { w.written = append(w.written, b...) }

// Done tells all that was written. It is a copy: the writer may go on.
func (w *Writer) Done() []byte { return copyOf(w.written) }

// number writes the lowest size bytes of n, the highest of them first.
func (w *Writer) number(n uint32, size int) {
	for i := size - 1; i >= 0; i-- {
		w.written = append(w.written, byte(n>>(8*i)))
	}
}

// Each writes the texts of l by Bytes up to the first that is refused; was none?
func Each(w *Writer, l [][]byte) bool {
	if w == nil {
		return false
	}
	return allTaken(l, w.Bytes)
}

// allTaken hands the texts of l to take as long as it is true; was it of all?
func allTaken(l [][]byte, take func([]byte) bool) bool {
	for _, b := range l {
		if !take(b) {
			return false
		}
	}
	return true
}

// Reader reads what a Writer laid down. Once bad it stays bad, so that who reads many things may ask once, at the end.
type Reader struct {
	rest []byte // nothing of a bad one
	bad  bool
}

// Read begins at b's first byte. It reads a copy: b may be changed meanwhile.
func Read(b []byte) *Reader { return &Reader{rest: copyOf(b)} }

// Byte reads one byte.
func (r *Reader) Byte() byte { return byte(r.number(1)) }

// Num reads a number of four bytes.
func (r *Reader) Num() uint32 { return r.number(numSize) }

// Bytes reads a text behind its length, of at most most bytes.
func (r *Reader) Bytes(most int) []byte {
	length := int(r.number(lengthSize))
	if length > max(most, 0) {
		r.spoil()
	}
	return r.Raw(length)
}

// Raw reads n bytes.
func (r *Reader) Raw(n int) []byte { return copyOf(r.take(n)) }

// Bad: was more asked than there was?
func (r *Reader) Bad() bool { return r.bad }

// End: was all read, and all well?
func (r *Reader) End() bool { return !r.bad && len(r.rest) == 0 }

// Left tells how many bytes are not read yet.
func (r *Reader) Left() int { return len(r.rest) }

// number reads size bytes, the highest first; 0 of a bad reader, because take gives no bytes then.
func (r *Reader) number(size int) uint32 {
	var n uint32
	for _, b := range r.take(size) {
		n = n<<8 | uint32(b)
	}
	return n
}

// take goes past n bytes and tells them: a piece of the reader's own memory, not to be handed out.
func (r *Reader) take(n int) []byte {
	if n < 0 || n > len(r.rest) {
		r.spoil()
		return nil
	}
	piece := r.rest[:n]
	r.rest = r.rest[n:]
	return piece
}

// spoil makes the reader bad and forgets what was left, so that nothing can be read any more.
func (r *Reader) spoil() { r.rest, r.bad = nil, true }

// copyOf is b in new memory.
func copyOf(b []byte) []byte { return append([]byte(nil), b...) }
