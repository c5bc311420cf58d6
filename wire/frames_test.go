package wire_test

import (
	"hash/crc32"
	"slices"
	"testing"

	"tabulary/api"
	"tabulary/wire"
)

// someBodies: bodies of several lengths, two of them empty, one whose length needs both bytes.
func someBodies() [][]byte {
	return [][]byte{{1}, {}, {2, 3}, noise(3, 300), {}, {0, 0, 0}, {255}}
}

// frameOf: the frame by the library's own sum.
func frameOf(body []byte) []byte {
	b := append([]byte{byte(len(body) / 256), byte(len(body) % 256)}, body...)
	s := crc32.ChecksumIEEE(b)
	return append(b, byte(s>>24), byte(s>>16), byte(s>>8), byte(s))
}

// written: the frames of bodies, and where each one begins; at last, where all end.
func written(t *testing.T, bodies [][]byte) ([]byte, []int) {
	t.Helper()
	b, f := wire.Frames(bodies)
	wantFault(t, "Frames", f, api.Fault{})
	starts := []int{0}
	for _, body := range bodies {
		starts = append(starts, starts[len(starts)-1]+len(body)+6)
	}
	if len(b) != starts[len(bodies)] {
		t.Fatalf("Frames: %d bytes, want %d", len(b), starts[len(bodies)])
	}
	return b, starts
}

// wantOpen: Open of b has just these bodies, and so many bytes.
func wantOpen(t *testing.T, what string, b []byte, bodies [][]byte, size int) {
	t.Helper()
	got, n, f := wire.Open(b)
	wantFault(t, what, f, api.Fault{})
	wantBodies(t, what, got, bodies)
	if n != size {
		t.Errorf("%s: %d bytes, want %d", what, n, size)
	}
}

func TestSum(t *testing.T) {
	for _, c := range []struct {
		b    []byte
		want uint32
	}{
		{nil, 0},
		{[]byte{}, 0},
		{[]byte{0}, 0xD202EF8D},
		{[]byte{255}, 0xFF000000},
		{[]byte("a"), 0xE8B7BE43},
		{[]byte("123456789"), 0xCBF43926},
	} {
		s, f := wire.Sum(c.b)
		wantFault(t, "Sum", f, api.Fault{})
		if s != c.want {
			t.Errorf("Sum of %v: %#x, want %#x", c.b, s, c.want)
		}
	}
	for n := range 500 {
		b := noise(uint32(n), n)
		s, f := wire.Sum(b)
		wantFault(t, "Sum", f, api.Fault{})
		if s != crc32.ChecksumIEEE(b) {
			t.Errorf("Sum of %d bytes: %#x, want %#x", n, s, crc32.ChecksumIEEE(b))
		}
	}
}

func TestSumAtItsLimit(t *testing.T) {
	b := noise(1, api.MaxBytes+1)
	s, f := wire.Sum(b[:api.MaxBytes])
	wantFault(t, "Sum of MaxBytes bytes", f, api.Fault{})
	if s != crc32.ChecksumIEEE(b[:api.MaxBytes]) {
		t.Errorf("Sum of MaxBytes bytes: %#x", s)
	}
	s, f = wire.Sum(b)
	wantFault(t, "Sum of one byte more", f, fault(api.ErrSize, 0))
	if s != 0 {
		t.Errorf("Sum of one byte more: %#x beside a fault", s)
	}
}

func TestFramesWritesEachFrame(t *testing.T) {
	b, f := wire.Frames([][]byte{{1}})
	wantFault(t, "Frames", f, api.Fault{})
	wantBytes(t, "Frames of 1", b, []byte{0, 1, 1, 0x91, 0x5D, 0xD8, 0xC5})
	var want []byte
	for _, body := range someBodies() {
		b, f := wire.Frames([][]byte{body})
		wantFault(t, "Frames", f, api.Fault{})
		wantBytes(t, "Frames of one", b, frameOf(body))
		want = append(want, frameOf(body)...)
	}
	b, _ = written(t, someBodies())
	wantBytes(t, "Frames of some", b, want)
}

func TestFramesOfNothing(t *testing.T) {
	for _, l := range [][][]byte{nil, {}} {
		b, f := wire.Frames(l)
		wantFault(t, "Frames", f, api.Fault{})
		wantBytes(t, "Frames", b, nil)
	}
	wantOpen(t, "Open of nil", nil, nil, 0)
	wantOpen(t, "Open of no bytes", []byte{}, nil, 0)
	for _, body := range [][]byte{nil, {}} {
		b, _ := written(t, [][]byte{body})
		wantBytes(t, "the frame of no bytes", b, frameOf(nil))
		wantOpen(t, "the frame of no bytes", b, [][]byte{{}}, 6)
	}
}

func TestFramesAtTheirLimits(t *testing.T) {
	for _, c := range []struct {
		what   string
		bodies [][]byte
		size   int
	}{
		{"one body", [][]byte{noise(1, api.MaxBytes-6)}, api.MaxBytes},
		{"bodies behind one another", [][]byte{{}, noise(1, api.MaxBytes-19), {7}}, api.MaxBytes},
		{"the longest list", slices.Repeat([][]byte{noise(1, 54)}, api.MaxList), api.MaxBytes},
		{"the longest list of empty bodies", make([][]byte, api.MaxList), api.MaxList * 6},
	} {
		b, _ := written(t, c.bodies)
		if len(b) != c.size {
			t.Errorf("%s: %d bytes, want %d", c.what, len(b), c.size)
		}
		wantOpen(t, c.what, b, c.bodies, len(b))
	}
}

func TestFramesFaults(t *testing.T) {
	full := noise(1, 1<<16+10)
	sixty := slices.Repeat([][]byte{full[:54]}, api.MaxList)
	sixty[api.MaxList-1] = full[:55]
	for _, c := range []struct {
		what   string
		bodies [][]byte
		want   api.Fault
	}{
		{"one too many", make([][]byte, api.MaxList+1), fault(api.ErrMany, 0)},
		{"too many, told ahead of too much", slices.Repeat([][]byte{full}, api.MaxList+1), fault(api.ErrMany, 0)},
		{"one byte too much", [][]byte{full[:api.MaxBytes-5]}, fault(api.ErrMuch, 0)},
		{"an empty body too much", [][]byte{full[:api.MaxBytes-6], nil}, fault(api.ErrMuch, 0)},
		{"an empty body ahead too much", [][]byte{nil, full[:api.MaxBytes-6]}, fault(api.ErrMuch, 0)},
		{"a length beyond two bytes", [][]byte{{1}, full}, fault(api.ErrMuch, 0)},
		{"one byte too much in the longest list", sixty, fault(api.ErrMuch, 0)},
	} {
		b, f := wire.Frames(c.bodies)
		wantFault(t, c.what, f, c.want)
		wantBytes(t, c.what, b, nil)
	}
}

func TestOpenFaults(t *testing.T) {
	many := slices.Repeat(frameOf(nil), api.MaxList+1)
	for _, c := range []struct {
		what string
		b    []byte
		want api.Fault
	}{
		{"too long", make([]byte, api.MaxBytes+1), fault(api.ErrSize, 0)},
		{"too long, told ahead of too many", append(slices.Repeat(frameOf(nil), api.MaxBytes/6), 0), fault(api.ErrSize, 0)},
		{"one too many", many, fault(api.ErrMany, 0)},
		{"one too many, and no frame behind", append(slices.Clone(many), 1, 2, 3), fault(api.ErrMany, 0)},
		{"as long as may be, but too many", slices.Repeat(frameOf(nil), api.MaxBytes/6), fault(api.ErrMany, 0)},
	} {
		l, n, f := wire.Open(c.b)
		wantFault(t, c.what, f, c.want)
		wantBodies(t, c.what, l, nil)
		if n != 0 {
			t.Errorf("%s: %d bytes beside a fault", c.what, n)
		}
	}
}

func TestOpenOfTheMostFramesAndWhatIsNone(t *testing.T) {
	b := slices.Repeat(frameOf(nil), api.MaxList+1)
	whole := api.MaxList * 6
	wantOpen(t, "the last one cut off", b[:len(b)-1], make([][]byte, api.MaxList), whole)
	b[len(b)-1]++
	wantOpen(t, "the last one's sum changed", b, make([][]byte, api.MaxList), whole)
}

func TestOpenOfWhatIsNoFrame(t *testing.T) {
	one := frameOf([]byte{1})
	for _, c := range []struct {
		what string
		b    []byte
	}{
		{"a byte", []byte{0}},
		{"a length", []byte{0, 0}},
		{"noughts", make([]byte, 100)},
		{"as many noughts as may be", make([]byte, api.MaxBytes)},
		{"a length beyond the end", []byte{255, 255, 1, 2, 3, 4, 5, 6}},
		{"noise", noise(9, 1000)},
		{"a sum with its lowest byte first", []byte{0, 1, 1, one[6], one[5], one[4], one[3]}},
		{"a sum of the body alone", append([]byte{0, 1, 'a'}, 0xE8, 0xB7, 0xBE, 0x43)},
	} {
		wantOpen(t, c.what, c.b, nil, 0)
		wantOpen(t, c.what+" behind a frame", append(slices.Clone(one), c.b...)[:min(len(c.b)+7, api.MaxBytes)], [][]byte{{1}}, 7)
	}
	// A whole frame behind what is none is not looked for.
	wantOpen(t, "a frame behind a byte", append([]byte{9}, one...), nil, 0)
}

func TestFramesThatAreCutOff(t *testing.T) {
	bodies := someBodies()
	b, starts := written(t, bodies)
	for k := range len(b) + 1 {
		whole := 0
		for whole < len(bodies) && starts[whole+1] <= k {
			whole++
		}
		wantOpen(t, "cut off", b[:k], bodies[:whole], starts[whole])
	}
}

func TestFramesOfWhichOneByteIsChanged(t *testing.T) {
	bodies := someBodies()
	b, starts := written(t, bodies)
	for i := range bodies {
		for at := starts[i] + 2; at < starts[i+1]; at++ {
			for _, x := range []byte{1, 2, 16, 128, 255} {
				changed := slices.Clone(b)
				changed[at] ^= x
				wantOpen(t, "changed", changed, bodies[:i], starts[i])
			}
		}
	}
}
