package coding_test

import (
	"bytes"
	"math"
	"slices"
	"testing"

	"tabulary/api"
	"tabulary/coding"
)

func TestNumbersAndTextsMixed(t *testing.T) {
	b := coding.AppendNum([]byte{9}, 300)
	b = coding.AppendText(b, "ab")
	b = coding.AppendNum(b, api.MaxNum)
	b = coding.AppendText(b, "")
	want := []byte{9, 172, 2, 2, 'a', 'b', 128, 148, 235, 220, 3, 0}
	if !bytes.Equal(b, want) {
		t.Fatalf("%v, want %v", b, want)
	}
	r := coding.ReaderOf(b)
	wantNum(t, &r, 9, true)
	wantNum(t, &r, 300, true)
	wantText(t, &r, "ab", true)
	wantNum(t, &r, api.MaxNum, true)
	if r.Done() || r.At() != 11 || !bytes.Equal(r.Rest(), []byte{0}) {
		t.Errorf("at %d, with %v ahead", r.At(), r.Rest())
	}
	wantText(t, &r, "", true)
	if !r.Done() || r.At() != len(b) || len(r.Rest()) != 0 {
		t.Errorf("at %d, with %v ahead, at the end", r.At(), r.Rest())
	}
	wantNum(t, &r, 0, false)
	wantText(t, &r, "", false)
}

// TestWhatIsNotReadIsLeft: the reader stays where it is.
func TestWhatIsNotReadIsLeft(t *testing.T) {
	for _, b := range [][]byte{
		{128}, {128, 0}, {129, 148, 235, 220, 3}, {129, 128, 128, 128, 128, 0}, slices.Repeat([]byte{255}, 50),
	} {
		r := coding.ReaderOf(b)
		wantNum(t, &r, 0, false)
		wantText(t, &r, "", false)
	}
	r := coding.ReaderOf([]byte{3, 'a', 'b'})
	wantText(t, &r, "", false)
	wantNum(t, &r, 3, true)
}

func TestSkip(t *testing.T) {
	r := coding.ReaderOf([]byte{1, 2, 3, 4}[:3])
	for _, n := range []int{-1, 4, math.MinInt, math.MaxInt} {
		if r.Skip(n) || r.At() != 0 {
			t.Errorf("Skip by %d goes to %d", n, r.At())
		}
	}
	if !r.Skip(2) || r.Skip(2) || r.At() != 2 || !r.Skip(1) || !r.Skip(0) || !r.Done() {
		t.Errorf("Skip by 2 and 1 goes to %d", r.At())
	}
}

// TestTextsAreNewMemory: a text that was read stays, whatever becomes of the bytes.
func TestTextsAreNewMemory(t *testing.T) {
	b := []byte{1, 'a'}
	r := coding.ReaderOf(b)
	text, _ := r.Text()
	b[1] = 'b'
	if text != "a" {
		t.Errorf("the text is %q", text)
	}
}

func wantNum(t *testing.T, r *coding.Reader, want int, wantOK bool) {
	t.Helper()
	at := r.At()
	n, ok := r.Num()
	if n != want || ok != wantOK || !ok && r.At() != at {
		t.Errorf("Num at %d: %d, %v, then at %d; want %d, %v", at, n, ok, r.At(), want, wantOK)
	}
}

func wantText(t *testing.T, r *coding.Reader, want string, wantOK bool) {
	t.Helper()
	at := r.At()
	s, ok := r.Text()
	if s != want || ok != wantOK || !ok && r.At() != at {
		t.Errorf("Text at %d: %q, %v, then at %d; want %q, %v", at, s, ok, r.At(), want, wantOK)
	}
}
