package wire

import "tabulary/api"

// maxNumBytes: MaxNum is written in as many; a longer number is above it, or not as short as can be.
const maxNumBytes = 5

// reader goes through bytes. A method that answers false leaves the reader where it is.
type reader struct {
	bytes []byte
	at    int
}

func (r *reader) done() bool {
	return r.at == len(r.bytes)
}

func (r *reader) left() int {
	return len(r.bytes) - r.at
}

// num reads a written number.
func (r *reader) num() (int, bool) {
	n := 0
	for i := range min(maxNumBytes, r.left()) {
		x := r.bytes[r.at+i]
		n |= int(x&0x7f) << (7 * i)
		if x >= 0x80 {
			continue
		}
		if x == 0 && i > 0 || n > api.MaxNum {
			return 0, false
		}
		r.at += i + 1
		return n, true
	}
	return 0, false
}

// text reads a written text.
func (r *reader) text() (string, bool) {
	start := r.at
	n, ok := r.num()
	if !ok || n > r.left() {
		r.at = start
		return "", false
	}
	t := string(r.bytes[r.at : r.at+n])
	r.at += n
	return t, true
}

// frame reads a whole frame with its sum, and answers its body in memory of its own.
func (r *reader) frame() ([]byte, bool) {
	if r.left() < headBytes+sumBytes {
		return nil, false
	}
	b := r.bytes[r.at:]
	n := int(b[0])<<8 | int(b[1])
	if n > len(b)-headBytes-sumBytes {
		return nil, false
	}
	end := headBytes + n
	if remainder(b[:end]) != highFirst(b[end:end+sumBytes]) {
		return nil, false
	}
	body := make([]byte, n)
	copy(body, b[headBytes:end])
	r.at += end + sumBytes
	return body, true
}

// highFirst: the number that bytes, at most four, tell with the highest one first.
func highFirst(b []byte) uint32 {
	n := uint32(0)
	for _, x := range b {
		n = n<<8 | uint32(x)
	}
	return n
}
