package file_test

import (
	"math"
	"slices"
	"testing"

	"tabulary/api"
	"tabulary/cell"
	"tabulary/file"
	"tabulary/wire"
)

// TestMakeOfNothing: the bytes as the document's example tells them.
func TestMakeOfNothing(t *testing.T) {
	want := []byte{0, 0, 0x41, 0xD9, 0x12, 0xFF, 0, 1, 0, 0xE6, 0x5A, 0xE8, 0x53}
	if !slices.Equal(want, framesOf(nil, []byte{0})) {
		t.Fatalf("the frames are %v", framesOf(nil, []byte{0}))
	}
	for _, l := range [][]api.Cell{nil, {}} {
		for _, size := range []int{50, 4000} {
			b, f := file.Make(l, size)
			wantBytes(t, "Make of nothing", b, f, want)
		}
	}
}

// TestMakeToTheByte: two blocks, each byte told.
func TestMakeToTheByte(t *testing.T) {
	// The first two cells have 43 bytes and 7: just with the second one the first block has 50.
	l := []api.Cell{put("a", "c", 1, x(36)), put("a", "d", 1, ""), put("b", "", 300, "y")}
	b, f := file.Make(l, 50)
	first := slices.Concat([]byte{1, 'a', 1, 'c', 1, 0, 36}, []byte(x(36)), []byte{1, 'a', 1, 'd', 1, 0, 0})
	second := []byte{1, 'b', 0, 172, 2, 0, 1, 'y'}
	index := []byte{1, 'a', 50, 1, 'b', 8}
	// The sum of a is 0xE8B7BE43, that of b 0x71BEEFF9: of 16 bits a's are 3, 10 and 1, b's 9, 7 and 5.
	filter := []byte{1<<3 | 1<<1 | 1<<7 | 1<<5, 1<<2 | 1<<1}
	wantBytes(t, "Make", b, f, framesOf(first, second, index, filter))
}

func TestBlocksEndWithTheCellThatFillsThem(t *testing.T) {
	// Of 20 bytes each.
	l := rising(11)
	for _, c := range []struct {
		what  string
		size  int
		cells int
	}{
		{"beyond size", 50, 3},
		{"just with size", 60, 3},
		{"one byte beyond size", 59, 3},
		{"one byte short of size", 61, 4},
		{"just with size, the last of all", 220, 11},
		{"with the last one", 221, 11},
		{"with the last one, far from size", 4000, 11},
	} {
		b, f := file.Make(l, c.size)
		wantBytes(t, c.what, b, f, fileOf(t, chopped(l, c.cells)...))
	}
	for _, size := range []int{50, 260, 500, 4000} {
		l := edges()
		b, f := file.Make(l, size)
		wantBytes(t, "the edges", b, f, fileOf(t, cutBySize(t, l, size)...))
	}
}

// TestEachSizeOfBlocks: whichever it is, the bytes are those that the chapter tells.
func TestEachSizeOfBlocks(t *testing.T) {
	s := number(1)
	for size := 50; size <= 4000; size += 1 + s.below(60) {
		l := anyCells(t, &s, s.below(200))
		b, f := file.Make(l, size)
		wantBytes(t, "Make", b, f, fileOf(t, cutBySize(t, l, size)...))
	}
}

// TestBlocksComeToSize: each block but the last has size bytes or more, and not so without its last cell.
func TestBlocksComeToSize(t *testing.T) {
	s := number(2)
	for _, size := range []int{50, 51, 99, 700, 3999, 4000} {
		b, f := file.Make(anyCells(t, &s, 500), size)
		wantFault(t, "Make", f, api.Fault{})
		bodies, n, f := wire.Open(b)
		wantFault(t, "layer 1's Open", f, api.Fault{})
		if n != len(b) {
			t.Errorf("%d bytes of %d are frames", n, len(b))
		}
		for i, body := range bodies[:len(bodies)-2] {
			l, f := cell.Read(body)
			wantFault(t, "layer 3's Read", f, api.Fault{})
			if len(cellsBytes(t, l[:len(l)-1]...)) >= size || i < len(bodies)-3 && len(body) < size {
				t.Errorf("block %d of size %d has %d bytes, and %d cells", i, size, len(body), len(l))
			}
		}
	}
}

// fullFile: cells of a file with just so many bytes, in blocks of 4000. Their values could be longer.
func fullFile(t *testing.T, size int) []api.Cell {
	t.Helper()
	l := rising(400)
	for i := range l {
		l[i].Value = x(150)
	}
	left := func() int { return size - len(fileOf(t, cutBySize(t, l, 4000)...)) }
	for left() < 0 {
		l = l[:len(l)-1]
	}
	for i := len(l) - 1; left() > 0; i-- {
		l[i].Value += x(min(left(), 45))
	}
	if left() != 0 {
		t.Fatalf("%d bytes are left of %d", left(), size)
	}
	return l
}

func TestMakeAtItsLimits(t *testing.T) {
	most := rising(500)
	for _, size := range []int{50, 4000} {
		b, f := file.Make(most, size)
		wantBytes(t, "the most cells", b, f, fileOf(t, cutBySize(t, most, size)...))
		l, f := file.Open(b)
		wantCells(t, "the most cells", l, f, most)
	}
	for _, size := range []int{api.MaxBytes - 1, api.MaxBytes} {
		full := fullFile(t, size)
		b, f := file.Make(full, 4000)
		wantBytes(t, "the most bytes", b, f, fileOf(t, cutBySize(t, full, 4000)...))
		if len(b) != size {
			t.Errorf("%d bytes, want %d", len(b), size)
		}
		l, f := file.Open(b)
		wantCells(t, "the most bytes", l, f, full)
	}
	// The more blocks, the more bytes: of one cell each it is too much.
	full := fullFile(t, api.MaxBytes)
	b, f := file.Make(full, 50)
	wantFault(t, "the most bytes in smaller blocks", f, fault(api.ErrMuch, 0))
	if len(b) != 0 {
		t.Errorf("%d bytes beside a fault", len(b))
	}
}

func TestMakeFaults(t *testing.T) {
	some := someCells()
	many, far := rising(501), rising(api.MaxList+1)
	much := fullFile(t, api.MaxBytes)
	much[len(much)-1].Value += "z"
	huge := rising(500)
	for i := range huge {
		huge[i].Value = x(api.MaxValue)
	}
	for _, c := range []struct {
		what string
		l    []api.Cell
		size int
		want api.Fault
	}{
		{"more than a list may have", far, 50, fault(api.ErrMany, 0)},
		{"a cell without a row", replaced(some, 2, api.Cell{}), 50, fault(api.ErrSize, 2)},
		{"a value that is too long", replaced(some, 8, put("é", "c", 4, x(api.MaxValue+1))), 50, fault(api.ErrSize, 8)},
		{"a time beyond", replaced(some, 0, put("b", "", api.MaxNum+1, "")), 50, fault(api.ErrRange, 0)},
		{"Gone, with a value", replaced(some, 7, api.Cell{Row: "d", Gone: true, Value: "v"}), 50, fault(api.ErrForm, 7)},
		{"one twice", replaced(some, 1, some[0]), 50, fault(api.ErrTwice, 1)},
		{"not in order", []api.Cell{put("b", "", 1, ""), put("a", "", 1, "")}, 50, fault(api.ErrTwice, 1)},
		{"one cell too many", many, 50, fault(api.ErrMany, -1)},
		{"as many as a list may have", rising(api.MaxList), 50, fault(api.ErrMany, -1)},
		{"a size below", some, 49, fault(api.ErrRange, -1)},
		{"a size beyond", some, 4001, fault(api.ErrRange, -1)},
		{"a size of 0, of nothing", nil, 0, fault(api.ErrRange, -1)},
		{"a size below 0", some, -50, fault(api.ErrRange, -1)},
		{"the least size", some, math.MinInt, fault(api.ErrRange, -1)},
		{"the greatest size", some, math.MaxInt, fault(api.ErrRange, -1)},
		{"one byte too much", much, 4000, fault(api.ErrMuch, 0)},
		{"far too much", huge, 4000, fault(api.ErrMuch, 0)},
		{"what Check says, ahead of too many", replaced(many, 500, many[0]), 50, fault(api.ErrTwice, 500)},
		{"what Check says, ahead of the size", replaced(some, 2, api.Cell{}), 49, fault(api.ErrSize, 2)},
		{"too many for a list, ahead of the size", far, 49, fault(api.ErrMany, 0)},
		{"too many, ahead of the size", many, 4001, fault(api.ErrMany, -1)},
		{"too many, ahead of too much", append(huge, put("s", "", 1, "")), 4000, fault(api.ErrMany, -1)},
		{"the size, ahead of too much", huge, 49, fault(api.ErrRange, -1)},
	} {
		b, f := file.Make(c.l, c.size)
		wantFault(t, c.what, f, c.want)
		if len(b) != 0 {
			t.Errorf("%s: %d bytes beside a fault", c.what, len(b))
		}
	}
}
