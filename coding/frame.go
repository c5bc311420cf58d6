package coding

// A frame has its body's length ahead of the body, and the sum of both behind it.
const (
	headBytes = 2
	sumBytes  = 4
)

// FrameBytes: so many bytes a frame has beside its body.
const FrameBytes = headBytes + sumBytes

// AppendFrame writes the frame of a body, of at most 65535 bytes, behind bytes.
func AppendFrame(out, body []byte) []byte {
	start := len(out)
	out = append(out, byte(len(body)>>8), byte(len(body)))
	out = append(out, body...)
	s := Sum(out[start:])
	return append(out, byte(s>>24), byte(s>>16), byte(s>>8), byte(s))
}

// Frame reads a whole frame with its sum, and answers its body, which is not copied.
func (r *Reader) Frame() ([]byte, bool) {
	b := r.Rest()
	if len(b) < FrameBytes {
		return nil, false
	}
	n := int(b[0])<<8 | int(b[1])
	if n > len(b)-FrameBytes {
		return nil, false
	}
	end := headBytes + n
	if Sum(b[:end]) != highFirst(b[end:end+sumBytes]) {
		return nil, false
	}
	return b[headBytes:end], r.Skip(end + sumBytes)
}

// Sum: the remainder of CRC-32, bit by bit, of however many bytes.
func Sum(b []byte) uint32 {
	bits := ^uint32(0)
	for _, x := range b {
		bits ^= uint32(x)
		for range 8 {
			fallen := bits & 1
			bits >>= 1
			if fallen == 1 {
				bits ^= 0xEDB88320
			}
		}
	}
	return ^bits
}

// highFirst: the number that bytes, at most four, tell with the highest one first.
func highFirst(b []byte) uint32 {
	n := uint32(0)
	for _, x := range b {
		n = n<<8 | uint32(x)
	}
	return n
}
