// Package coding writes numbers, texts and frames behind bytes, and goes through bytes that have them one behind the other, mixed, and however many: what several layers need. How they are written says doc/01-wire.md.
package coding

import "tabulary/api"

// maxNumBytes: MaxNum is written in as many; a longer number is above it, or not as short as can be.
const maxNumBytes = 5

// AppendNum writes a number that is not negative behind bytes.
func AppendNum(out []byte, n int) []byte {
	for n >= 0x80 {
		out = append(out, byte(n&0x7f)|0x80)
		n >>= 7
	}
	return append(out, byte(n))
}

// AppendText writes a text behind bytes.
func AppendText(out []byte, t string) []byte {
	return append(AppendNum(out, len(t)), t...)
}

// Reader goes through bytes. A method that answers false leaves the reader where it is.
type Reader struct {
	bytes []byte
	at    int
}

// ReaderOf bytes stands ahead of the first one.
func ReaderOf(b []byte) Reader {
	return Reader{bytes: b}
}

// Done tells whether all bytes are behind the reader.
func (r *Reader) Done() bool {
	return r.at == len(r.bytes)
}

// At tells how many bytes are behind the reader.
func (r *Reader) At() int {
	return r.at
}

// Rest: the bytes that are still ahead; they are not copied.
func (r *Reader) Rest() []byte {
	return r.bytes[r.at:]
}

// Skip goes on by n bytes, if there are as many.
func (r *Reader) Skip(n int) bool {
	if n < 0 || n > len(r.bytes)-r.at {
		return false
	}
	r.at += n
	return true
}

// Num reads a written number.
func (r *Reader) Num() (int, bool) {
	b := r.Rest()
	n := 0
	for i := range min(maxNumBytes, len(b)) {
		n |= int(b[i]&0x7f) << (7 * i)
		if b[i] >= 0x80 {
			continue
		}
		if b[i] == 0 && i > 0 || n > api.MaxNum {
			return 0, false
		}
		return n, r.Skip(i + 1)
	}
	return 0, false
}

// Text reads a written text.
func (r *Reader) Text() (string, bool) {
	start := r.at
	n, ok := r.Num()
	b := r.Rest()
	if !ok || !r.Skip(n) {
		r.at = start
		return "", false
	}
	return string(b[:n]), true
}
