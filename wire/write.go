package wire

// A frame has its body's length ahead of the body, and the sum of both behind it.
const (
	headBytes = 2
	sumBytes  = 4
)

// appendFrame writes the frame of a body, of at most 65535 bytes, behind bytes.
func appendFrame(out, body []byte) []byte {
	start := len(out)
	out = append(out, byte(len(body)>>8), byte(len(body)))
	out = append(out, body...)
	s := remainder(out[start:])
	return append(out, byte(s>>24), byte(s>>16), byte(s>>8), byte(s))
}

// remainder of CRC-32, bit by bit.
func remainder(b []byte) uint32 {
	bits := ^uint32(0)
	for _, x := range b {
		bits ^= uint32(x)
		for range 8 {
			fallen := bits & 1
			bits >>= 1
			if fallen == 1 {
				bits ^= 0xEDB88320
			}
		}
	}
	return ^bits
}
