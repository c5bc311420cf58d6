package wire_test

import (
	"slices"
	"strings"
	"testing"

	"tabulary/api"
	"tabulary/wire"
)

func TestTextsAndReadTexts(t *testing.T) {
	long := strings.Repeat("x", 300)
	for _, c := range []struct {
		what string
		l    []string
		b    []byte
	}{
		{"nothing", nil, nil},
		{"an empty list", []string{}, []byte{}},
		{"an empty text", []string{""}, []byte{0}},
		{"three empty texts", []string{"", "", ""}, []byte{0, 0, 0}},
		{"two", []string{"ab", ""}, []byte{2, 'a', 'b', 0}},
		{"bytes that are no letters", []string{"\x00\xff", "é"}, []byte{2, 0, 255, 2, 195, 169}},
		{"127 bytes", []string{long[:127]}, append([]byte{127}, long[:127]...)},
		{"128 bytes", []string{long[:128]}, append([]byte{128, 1}, long[:128]...)},
		{"300 bytes, and one", []string{long, "y"}, append(append([]byte{172, 2}, long...), 1, 'y')},
	} {
		b, f := wire.Texts(c.l)
		wantFault(t, "Texts of "+c.what, f, api.Fault{})
		wantBytes(t, "Texts of "+c.what, b, c.b)
		l, f := wire.ReadTexts(c.b)
		wantFault(t, "ReadTexts of "+c.what, f, api.Fault{})
		wantList(t, "ReadTexts of "+c.what, l, c.l)
	}
}

func TestTextsAtTheirLimits(t *testing.T) {
	// A text of 59997 bytes has a length of three bytes: 60000 in all.
	full := strings.Repeat("x", api.MaxBytes-3)
	for _, c := range []struct {
		what string
		l    []string
		size int
	}{
		{"one text", []string{full}, api.MaxBytes},
		{"texts behind one another", []string{"", full[:len(full)-4], "ab"}, api.MaxBytes},
		{"the longest list", slices.Repeat([]string{full[:59]}, api.MaxList), api.MaxBytes},
		{"the longest list of empty texts", make([]string, api.MaxList), api.MaxList},
	} {
		b, f := wire.Texts(c.l)
		wantFault(t, c.what, f, api.Fault{})
		if len(b) != c.size {
			t.Errorf("%s: %d bytes, want %d", c.what, len(b), c.size)
		}
		l, f := wire.ReadTexts(b)
		wantFault(t, c.what+" read", f, api.Fault{})
		wantList(t, c.what+" read", l, c.l)
	}
}

func TestTextsFaults(t *testing.T) {
	full := strings.Repeat("x", api.MaxBytes)
	sixty := slices.Repeat([]string{full[:59]}, api.MaxList)
	sixty[0] += "x"
	for _, c := range []struct {
		what string
		l    []string
		want api.Fault
	}{
		{"one too many", make([]string, api.MaxList+1), fault(api.ErrMany, 0)},
		{"too many, told ahead of too much", slices.Repeat([]string{full}, api.MaxList+1), fault(api.ErrMany, 0)},
		{"one byte too much", []string{full[:api.MaxBytes-2]}, fault(api.ErrMuch, 0)},
		{"its length too much", []string{full}, fault(api.ErrMuch, 0)},
		{"an empty text too much", []string{full[:api.MaxBytes-3], ""}, fault(api.ErrMuch, 0)},
		{"an empty text ahead too much", []string{"", full[:api.MaxBytes-3]}, fault(api.ErrMuch, 0)},
		{"much too much", slices.Repeat([]string{full}, api.MaxList), fault(api.ErrMuch, 0)},
		{"one byte too much in the longest list", sixty, fault(api.ErrMuch, 0)},
	} {
		b, f := wire.Texts(c.l)
		wantFault(t, c.what, f, c.want)
		wantBytes(t, c.what, b, nil)
	}
}

func TestReadTextsFaults(t *testing.T) {
	empty := make([]byte, api.MaxBytes+1)
	for _, c := range []struct {
		what string
		b    []byte
		want api.Fault
	}{
		{"too long", empty, fault(api.ErrSize, 0)},
		{"too long, told ahead of the form", slices.Repeat([]byte{128}, api.MaxBytes+1), fault(api.ErrSize, 0)},
		{"as long as may be, but too many", empty[:api.MaxBytes], fault(api.ErrMany, 0)},
		{"one too many", empty[:api.MaxList+1], fault(api.ErrMany, 0)},
		{"the form, told ahead of too many", append(slices.Clone(empty[:api.MaxList+3]), 1), fault(api.ErrForm, api.MaxList+3)},
		{"no text behind its length", []byte{1}, fault(api.ErrForm, 0)},
		{"a text that is cut off", []byte{1, 'a', 3, 'b', 'c'}, fault(api.ErrForm, 1)},
		{"a length that is cut off", []byte{0, 0, 128}, fault(api.ErrForm, 2)},
		{"a length longer than it must", []byte{128, 0}, fault(api.ErrForm, 0)},
		{"a length longer than it must, with its text", []byte{1, 'z', 129, 0, 'a'}, fault(api.ErrForm, 1)},
		{"the length MaxNum", []byte{128, 148, 235, 220, 3, 'a'}, fault(api.ErrForm, 0)},
		{"a length above MaxNum", []byte{129, 148, 235, 220, 3, 'a'}, fault(api.ErrForm, 0)},
		{"a length without end", slices.Repeat([]byte{255}, 100), fault(api.ErrForm, 0)},
	} {
		l, f := wire.ReadTexts(c.b)
		wantFault(t, c.what, f, c.want)
		wantList(t, c.what, l, nil)
	}
}
