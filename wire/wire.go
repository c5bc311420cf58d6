// Package wire writes numbers, texts and frames as bytes, and reads them again: see doc/01-wire.md.
package wire

import (
	"bytes"

	"tabulary/api"
	"tabulary/coding"
)

// Nums writes numbers, one behind the other.
func Nums(l []int) ([]byte, api.Fault) {
	if len(l) > api.MaxList {
		return nil, api.Fault{Code: api.ErrMany}
	}
	var out []byte
	for i, n := range l {
		if n < 0 || n > api.MaxNum {
			return nil, api.Fault{Code: api.ErrRange, At: i}
		}
		out = coding.AppendNum(out, n)
	}
	return out, api.Fault{}
}

// ReadNums reads what Nums writes.
func ReadNums(b []byte) ([]int, api.Fault) {
	if len(b) > api.MaxBytes {
		return nil, api.Fault{Code: api.ErrSize}
	}
	r := coding.ReaderOf(b)
	var out []int
	for !r.Done() {
		n, ok := r.Num()
		if !ok {
			return nil, api.Fault{Code: api.ErrForm, At: len(out)}
		}
		out = append(out, n)
	}
	// Asked last: a wrong form anywhere is told ahead of too many.
	if len(out) > api.MaxList {
		return nil, api.Fault{Code: api.ErrMany}
	}
	return out, api.Fault{}
}

// Texts writes texts, one behind the other.
func Texts(l []string) ([]byte, api.Fault) {
	if len(l) > api.MaxList {
		return nil, api.Fault{Code: api.ErrMany}
	}
	var out []byte
	for _, t := range l {
		out = coding.AppendNum(out, len(t))
		// Asked ahead of the text's bytes, which may be many more than can come out.
		if len(out)+len(t) > api.MaxBytes {
			return nil, api.Fault{Code: api.ErrMuch}
		}
		out = append(out, t...)
	}
	return out, api.Fault{}
}

// ReadTexts reads what Texts writes.
func ReadTexts(b []byte) ([]string, api.Fault) {
	if len(b) > api.MaxBytes {
		return nil, api.Fault{Code: api.ErrSize}
	}
	r := coding.ReaderOf(b)
	var out []string
	for !r.Done() {
		t, ok := r.Text()
		if !ok {
			return nil, api.Fault{Code: api.ErrForm, At: len(out)}
		}
		out = append(out, t)
	}
	// Asked last: a wrong form anywhere is told ahead of too many.
	if len(out) > api.MaxList {
		return nil, api.Fault{Code: api.ErrMany}
	}
	return out, api.Fault{}
}

// Sum tells the sum of bytes.
func Sum(b []byte) (uint32, api.Fault) {
	if len(b) > api.MaxBytes {
		return 0, api.Fault{Code: api.ErrSize}
	}
	return coding.Sum(b), api.Fault{}
}

// Frames writes frames of bodies, one behind the other.
func Frames(bodies [][]byte) ([]byte, api.Fault) {
	if len(bodies) > api.MaxList {
		return nil, api.Fault{Code: api.ErrMany}
	}
	var out []byte
	for _, body := range bodies {
		// A body that passes has a length that two bytes can tell.
		if len(out)+len(body)+coding.FrameBytes > api.MaxBytes {
			return nil, api.Fault{Code: api.ErrMuch}
		}
		out = coding.AppendFrame(out, body)
	}
	return out, api.Fault{}
}

// Open reads the whole frames with which bytes begin: their bodies, and how many bytes the frames are.
func Open(b []byte) ([][]byte, int, api.Fault) {
	if len(b) > api.MaxBytes {
		return nil, 0, api.Fault{Code: api.ErrSize}
	}
	r := coding.ReaderOf(b)
	var out [][]byte
	for {
		body, ok := r.Frame()
		if !ok {
			return out, r.At(), api.Fault{}
		}
		if len(out) == api.MaxList {
			return nil, 0, api.Fault{Code: api.ErrMany}
		}
		out = append(out, bytes.Clone(body))
	}
}
