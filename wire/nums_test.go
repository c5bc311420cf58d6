package wire_test

import (
	"math"
	"slices"
	"testing"

	"tabulary/api"
	"tabulary/wire"
)

// writtenNums: numbers at the edges of their written lengths.
var writtenNums = []struct {
	n int
	b []byte
}{
	{0, []byte{0}},
	{1, []byte{1}},
	{5, []byte{5}},
	{127, []byte{127}},
	{128, []byte{128, 1}},
	{129, []byte{129, 1}},
	{255, []byte{255, 1}},
	{256, []byte{128, 2}},
	{300, []byte{172, 2}},
	{1<<14 - 1, []byte{255, 127}},
	{1 << 14, []byte{128, 128, 1}},
	{1<<21 - 1, []byte{255, 255, 127}},
	{1 << 21, []byte{128, 128, 128, 1}},
	{1<<28 - 1, []byte{255, 255, 255, 127}},
	{1 << 28, []byte{128, 128, 128, 128, 1}},
	{api.MaxNum - 1, []byte{255, 147, 235, 220, 3}},
	{api.MaxNum, []byte{128, 148, 235, 220, 3}},
}

func TestNumsWritesEachNumber(t *testing.T) {
	var all []int
	var allBytes []byte
	for _, w := range writtenNums {
		b, f := wire.Nums([]int{w.n})
		wantFault(t, "Nums", f, api.Fault{})
		wantBytes(t, "Nums", b, w.b)
		all = append(all, w.n)
		allBytes = append(allBytes, w.b...)
	}
	b, f := wire.Nums(all)
	wantFault(t, "Nums of all", f, api.Fault{})
	wantBytes(t, "Nums of all", b, allBytes)
}

func TestReadNumsReadsEachNumber(t *testing.T) {
	var all []int
	var allBytes []byte
	for _, w := range writtenNums {
		l, f := wire.ReadNums(w.b)
		wantFault(t, "ReadNums", f, api.Fault{})
		wantList(t, "ReadNums", l, []int{w.n})
		all = append(all, w.n)
		allBytes = append(allBytes, w.b...)
	}
	l, f := wire.ReadNums(allBytes)
	wantFault(t, "ReadNums of all", f, api.Fault{})
	wantList(t, "ReadNums of all", l, all)
}

func TestNumsExample(t *testing.T) {
	b, f := wire.Nums([]int{5, 300})
	wantFault(t, "Nums", f, api.Fault{})
	wantBytes(t, "Nums", b, []byte{5, 172, 2})
}

func TestNumsOfNothing(t *testing.T) {
	for _, l := range [][]int{nil, {}} {
		b, f := wire.Nums(l)
		wantFault(t, "Nums", f, api.Fault{})
		wantBytes(t, "Nums", b, nil)
	}
	for _, b := range [][]byte{nil, {}} {
		l, f := wire.ReadNums(b)
		wantFault(t, "ReadNums", f, api.Fault{})
		wantList(t, "ReadNums", l, nil)
	}
}

func TestNumsFaults(t *testing.T) {
	many := make([]int, api.MaxList+1)
	manyWrong := slices.Clone(many)
	manyWrong[0] = -1
	lastWrong := make([]int, api.MaxList)
	lastWrong[api.MaxList-1] = api.MaxNum + 1
	for _, c := range []struct {
		what string
		l    []int
		want api.Fault
	}{
		{"one too many", many, fault(api.ErrMany, 0)},
		{"too many, told ahead of the range", manyWrong, fault(api.ErrMany, 0)},
		{"negative", []int{-1}, fault(api.ErrRange, 0)},
		{"above MaxNum", []int{api.MaxNum, api.MaxNum + 1}, fault(api.ErrRange, 1)},
		{"the first of two", []int{0, 1, -5, api.MaxNum + 1}, fault(api.ErrRange, 2)},
		{"the last of the longest list", lastWrong, fault(api.ErrRange, api.MaxList-1)},
		{"least int", []int{7, math.MinInt}, fault(api.ErrRange, 1)},
		{"greatest int", []int{math.MaxInt, 7}, fault(api.ErrRange, 0)},
	} {
		b, f := wire.Nums(c.l)
		wantFault(t, c.what, f, c.want)
		wantBytes(t, c.what, b, nil)
	}
}

func TestNumsOfTheLongestList(t *testing.T) {
	l := make([]int, api.MaxList)
	for i := range l {
		l[i] = api.MaxNum - i
	}
	b, f := wire.Nums(l)
	wantFault(t, "Nums", f, api.Fault{})
	back, f := wire.ReadNums(b)
	wantFault(t, "ReadNums", f, api.Fault{})
	wantList(t, "ReadNums", back, l)
}

func TestReadNumsFaults(t *testing.T) {
	ones := slices.Repeat([]byte{1}, api.MaxBytes+1)
	for _, c := range []struct {
		what string
		b    []byte
		want api.Fault
	}{
		{"too long", ones, fault(api.ErrSize, 0)},
		{"too long, told ahead of the form", slices.Repeat([]byte{128}, api.MaxBytes+1), fault(api.ErrSize, 0)},
		{"as long as may be, but too many", ones[:api.MaxBytes], fault(api.ErrMany, 0)},
		{"one too many", ones[:api.MaxList+1], fault(api.ErrMany, 0)},
		{"the form, told ahead of too many", append(slices.Clone(ones[:api.MaxList+7]), 128), fault(api.ErrForm, api.MaxList+7)},
		{"cut off", []byte{128}, fault(api.ErrForm, 0)},
		{"the second cut off", []byte{5, 172}, fault(api.ErrForm, 1)},
		{"MaxNum cut off", []byte{128, 148, 235, 220}, fault(api.ErrForm, 0)},
		{"0 in two bytes", []byte{128, 0}, fault(api.ErrForm, 0)},
		{"5 in two bytes, the third", []byte{1, 2, 133, 0}, fault(api.ErrForm, 2)},
		{"1 in five bytes", []byte{129, 128, 128, 128, 0}, fault(api.ErrForm, 0)},
		{"1 in six bytes", []byte{129, 128, 128, 128, 128, 0}, fault(api.ErrForm, 0)},
		{"MaxNum + 1", []byte{129, 148, 235, 220, 3}, fault(api.ErrForm, 0)},
		{"2^35 - 1", []byte{0, 0, 255, 255, 255, 255, 127}, fault(api.ErrForm, 2)},
		{"2^35", []byte{128, 128, 128, 128, 128, 1}, fault(api.ErrForm, 0)},
		{"2^63", []byte{128, 128, 128, 128, 128, 128, 128, 128, 128, 1}, fault(api.ErrForm, 0)},
		{"2^70, and 1", []byte{129, 128, 128, 128, 128, 128, 128, 128, 128, 128, 1}, fault(api.ErrForm, 0)},
		{"no end", slices.Repeat([]byte{255}, api.MaxBytes), fault(api.ErrForm, 0)},
		{"the first of two", []byte{3, 128, 0, 128, 0}, fault(api.ErrForm, 1)},
	} {
		l, f := wire.ReadNums(c.b)
		wantFault(t, c.what, f, c.want)
		wantList(t, c.what, l, nil)
	}
}

func TestReadNumsOfTheLongestBytes(t *testing.T) {
	// 60000 bytes can't be 1000 good numbers: the most that may be read is 1000 of five bytes.
	b := slices.Repeat([]byte{128, 148, 235, 220, 3}, api.MaxList)
	l, f := wire.ReadNums(b)
	wantFault(t, "ReadNums", f, api.Fault{})
	wantList(t, "ReadNums", l, slices.Repeat([]int{api.MaxNum}, api.MaxList))
}

func TestBytesThatAreReadAreTheOnlyOnesOfTheirNumber(t *testing.T) {
	for i := range 1 << 16 {
		for _, b := range [][]byte{{byte(i)}, {byte(i), byte(i >> 8)}, {byte(i) | 128, byte(i >> 8), 3}} {
			l, f := wire.ReadNums(b)
			if f != (api.Fault{}) {
				continue
			}
			again, f := wire.Nums(l)
			wantFault(t, "Nums", f, api.Fault{})
			wantBytes(t, "Nums of ReadNums", again, b)
		}
	}
}

func TestNumsThatAreWrittenAreRead(t *testing.T) {
	var l []int
	for n := 0; n <= api.MaxNum; n = n*9/8 + 1 {
		l = append(l, n)
	}
	b, f := wire.Nums(l)
	wantFault(t, "Nums", f, api.Fault{})
	back, f := wire.ReadNums(b)
	wantFault(t, "ReadNums", f, api.Fault{})
	wantList(t, "ReadNums of Nums", back, l)
}
