package wire

import "tabulary/coding"

// reader goes through numbers and texts as each layer does, and through frames besides.
type reader struct {
	coding.Reader
}

func readerOf(b []byte) reader {
	return reader{coding.ReaderOf(b)}
}

// frame reads a whole frame with its sum, and answers its body in memory of its own. If there is none, the reader stays where it is.
func (r *reader) frame() ([]byte, bool) {
	b := r.Rest()
	if len(b) < headBytes+sumBytes {
		return nil, false
	}
	n := int(b[0])<<8 | int(b[1])
	if n > len(b)-headBytes-sumBytes {
		return nil, false
	}
	end := headBytes + n
	if remainder(b[:end]) != highFirst(b[end:end+sumBytes]) {
		return nil, false
	}
	body := make([]byte, n)
	copy(body, b[headBytes:end])
	return body, r.Skip(end + sumBytes)
}

// highFirst: the number that bytes, at most four, tell with the highest one first.
func highFirst(b []byte) uint32 {
	n := uint32(0)
	for _, x := range b {
		n = n<<8 | uint32(x)
	}
	return n
}
