package coding_test

import (
	"bytes"
	"hash/crc32"
	"testing"

	"tabulary/api"
	"tabulary/coding"
)

func TestFramesBetweenNumbers(t *testing.T) {
	b := coding.AppendNum(nil, 300)
	b = coding.AppendFrame(b, []byte{1})
	b = coding.AppendText(b, "ab")
	b = coding.AppendFrame(b, nil)
	want := []byte{172, 2, 0, 1, 1, 0x91, 0x5D, 0xD8, 0xC5, 2, 'a', 'b', 0, 0, 0x41, 0xD9, 0x12, 0xFF}
	if !bytes.Equal(b, want) {
		t.Fatalf("%v, want %v", b, want)
	}
	r := coding.ReaderOf(b)
	wantFrame(t, &r, nil, false)
	wantNum(t, &r, 300, true)
	wantFrame(t, &r, []byte{1}, true)
	wantFrame(t, &r, nil, false)
	wantText(t, &r, "ab", true)
	wantFrame(t, &r, nil, true)
	wantFrame(t, &r, nil, false)
	if !r.Done() {
		t.Errorf("at %d of %d at the end", r.At(), len(b))
	}
}

// TestMoreFramesThanAListMayHave: each of them is read.
func TestMoreFramesThanAListMayHave(t *testing.T) {
	var b []byte
	for i := range 2 * api.MaxList {
		b = coding.AppendFrame(b, []byte{byte(i)})
	}
	r := coding.ReaderOf(b)
	for i := range 2 * api.MaxList {
		wantFrame(t, &r, []byte{byte(i)}, true)
	}
	wantFrame(t, &r, nil, false)
}

// TestAFrameThatIsNotWhole: cut off anywhere, or with a byte changed, also of the longest one.
func TestAFrameThatIsNotWhole(t *testing.T) {
	for _, n := range []int{0, 1, 300, 65535} {
		body := bytes.Repeat([]byte{7}, n)
		b := coding.AppendFrame(nil, body)
		if len(b) != n+coding.FrameBytes {
			t.Errorf("a frame of %d bytes for %d", len(b), n)
		}
		r := coding.ReaderOf(b)
		wantFrame(t, &r, body, true)
		for at := 0; at < len(b); at += 1 + at/20 {
			r := coding.ReaderOf(b[:at])
			wantFrame(t, &r, nil, false)
			changed := bytes.Clone(b)
			changed[at] ^= 32
			r = coding.ReaderOf(changed)
			wantFrame(t, &r, nil, false)
		}
	}
}

// TestSumOfAnyLength: also of more bytes than a text has.
func TestSumOfAnyLength(t *testing.T) {
	for _, n := range []int{0, 1, 2, 9, api.MaxBytes, api.MaxBytes + 1, 1 << 20} {
		b := bytes.Repeat([]byte("tabulary"), n/8+1)[:n]
		if s := coding.Sum(b); s != crc32.ChecksumIEEE(b) {
			t.Errorf("Sum of %d bytes: %#x, want %#x", n, s, crc32.ChecksumIEEE(b))
		}
	}
}

func wantFrame(t *testing.T, r *coding.Reader, want []byte, wantOK bool) {
	t.Helper()
	at := r.At()
	body, ok := r.Frame()
	if !bytes.Equal(body, want) || ok != wantOK || !ok && r.At() != at || ok && r.At() != at+len(want)+coding.FrameBytes {
		t.Errorf("Frame at %d: %d bytes, %v, then at %d; want %d, %v", at, len(body), ok, r.At(), len(want), wantOK)
	}
}
