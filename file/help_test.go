package file_test

import (
	"bytes"
	"hash/crc32"
	"slices"
	"strconv"
	"strings"
	"testing"

	"tabulary/api"
	"tabulary/cell"
	"tabulary/wire"
)

func fault(code, at int) api.Fault { return api.Fault{Code: code, At: at} }

func put(row, col string, time int, value string) api.Cell {
	return api.Cell{Row: row, Col: col, Time: time, Value: value}
}

func gone(row, col string, time int) api.Cell {
	return api.Cell{Row: row, Col: col, Time: time, Gone: true}
}

func x(n int) string { return strings.Repeat("x", n) }

func wantFault(t *testing.T, what string, got, want api.Fault) {
	t.Helper()
	if got != want {
		t.Errorf("%s: fault %v, want %v", what, got, want)
	}
}

// wantBytes: no fault, and just these bytes.
func wantBytes(t *testing.T, what string, got []byte, f api.Fault, want []byte) {
	t.Helper()
	wantFault(t, what, f, api.Fault{})
	if !bytes.Equal(got, want) {
		t.Errorf("%s: %d bytes %v, want %d %v", what, len(got), cut(got), len(want), cut(want))
	}
}

// wantCells: no fault, and just these cells.
func wantCells(t *testing.T, what string, got []api.Cell, f api.Fault, want []api.Cell) {
	t.Helper()
	wantFault(t, what, f, api.Fault{})
	if !slices.Equal(got, want) {
		t.Errorf("%s: %d cells %v, want %d %v", what, len(got), cut(got), len(want), cut(want))
	}
}

// cut keeps what a failing test tells readable.
func cut[T any](l []T) []T { return l[:min(len(l), 20)] }

// framesOf bodies, however many and however long together.
func framesOf(bodies ...[]byte) []byte {
	var out []byte
	for _, body := range bodies {
		b := append([]byte{byte(len(body) / 256), byte(len(body) % 256)}, body...)
		s := crc32.ChecksumIEEE(b)
		out = append(append(out, b...), byte(s>>24), byte(s>>16), byte(s>>8), byte(s))
	}
	return out
}

// cellsBytes: what layer 3 writes of cells, one by one, in whichever order they are, and however many.
func cellsBytes(t *testing.T, l ...api.Cell) []byte {
	t.Helper()
	var out []byte
	for _, c := range l {
		b, f := cell.Write([]api.Cell{c})
		wantFault(t, "layer 3's Write", f, api.Fault{})
		out = append(out, b...)
	}
	return out
}

// mark: what an index tells of a block.
type mark struct {
	row  string
	size int
}

func indexBytes(t *testing.T, marks ...mark) []byte {
	t.Helper()
	var out []byte
	for _, m := range marks {
		row, f1 := wire.Texts([]string{m.row})
		size, f2 := wire.Nums([]int{m.size})
		wantFault(t, "layer 1's Texts", f1, api.Fault{})
		wantFault(t, "layer 1's Nums", f2, api.Fault{})
		out = append(append(out, row...), size...)
	}
	return out
}

// bitsOf a row among n: what the chapter tells, by the library's sum.
func bitsOf(row string, n uint64) []uint64 {
	s := uint64(crc32.ChecksumIEEE([]byte(row)))
	a, b := s%65536, s/65536
	return []uint64{a % n, (a + b) % n, (a + 2*b) % n}
}

// filterBytes of the rows of cells, in so many bytes.
func filterBytes(size int, l ...api.Cell) []byte {
	on := make([]bool, 8*size)
	for _, c := range l {
		for _, bit := range bitsOf(c.Row, uint64(len(on))) {
			on[bit] = true
		}
	}
	out := make([]byte, size)
	power := 1
	for i, is := range on {
		if i%8 == 0 {
			power = 1
		}
		if is {
			out[i/8] += byte(power)
		}
		power *= 2
	}
	return out
}

// rowsOf cells, each once.
func rowsOf(l []api.Cell) []string {
	var out []string
	for _, c := range l {
		if !slices.Contains(out, c.Row) {
			out = append(out, c.Row)
		}
	}
	return out
}

// made: the bodies of a file whose blocks have these cells, whatever they are, with what stands behind the blocks as it should.
func made(t *testing.T, blocks ...[]api.Cell) [][]byte {
	t.Helper()
	var bodies [][]byte
	var marks []mark
	for _, l := range blocks {
		body := cellsBytes(t, l...)
		bodies = append(bodies, body)
		m := mark{size: len(body)}
		if len(l) > 0 {
			m.row = l[0].Row
		}
		marks = append(marks, m)
	}
	all := slices.Concat(blocks...)
	return append(bodies, indexBytes(t, marks...), filterBytes(max(len(rowsOf(all)), 1), all...))
}

// fileOf: the bytes of the file with these blocks.
func fileOf(t *testing.T, blocks ...[]api.Cell) []byte {
	t.Helper()
	return framesOf(made(t, blocks...)...)
}

// cutBySize: the blocks of cells, as Make promises them.
func cutBySize(t *testing.T, l []api.Cell, size int) [][]api.Cell {
	t.Helper()
	var out [][]api.Cell
	for len(l) > 0 {
		n := 1
		for bytes := len(cellsBytes(t, l[0])); n < len(l) && bytes < size; n++ {
			bytes += len(cellsBytes(t, l[n]))
		}
		out = append(out, l[:n])
		l = l[n:]
	}
	return out
}

// chopped: the cells in blocks of n.
func chopped(l []api.Cell, n int) [][]api.Cell {
	return slices.Collect(slices.Chunk(l, n))
}

// rising: n cells in order, each of a row of its own, of 20 bytes each.
func rising(n int) []api.Cell {
	out := make([]api.Cell, n)
	for i := range out {
		out[i] = put("row"+strconv.Itoa(100000+i), "col", 1, "v"+strconv.Itoa(10+i%90))
	}
	return out
}

// replaced: the list, one of its things another one.
func replaced[T any](l []T, at int, v T) []T {
	out := slices.Clone(l)
	out[at] = v
	return out
}

// number makes numbers below n that look like nothing, the same ones in each run.
type number uint32

func (s *number) below(n int) int {
	*s = *s*1664525 + 1013904223
	return int(*s>>16) % n
}

// anyCells: at most n cells in order, of few rows, columns and times, some of them Gone.
func anyCells(t *testing.T, s *number, n int) []api.Cell {
	t.Helper()
	rows := []string{"a", "aa", "ab", "b", "\x00", "\xff", "é", "row", "rower", x(api.MaxKey)}
	cols := []string{"", "aa", "b", "\xff"}
	l := make([]api.Cell, n)
	for i := range l {
		l[i] = put(rows[s.below(len(rows))], cols[s.below(len(cols))], s.below(9), x(s.below(9)*s.below(9)))
		if s.below(4) == 0 {
			l[i].Gone, l[i].Value = true, ""
		}
	}
	out, f := cell.Sort(l)
	wantFault(t, "layer 3's Sort", f, api.Fault{})
	return out
}

// anyBlocks: the cells in blocks of any lengths, none of them without cells.
func anyBlocks(s *number, l []api.Cell) [][]api.Cell {
	var out [][]api.Cell
	for len(l) > 0 {
		n := 1 + s.below(min(len(l), 7))
		out = append(out, l[:n])
		l = l[n:]
	}
	return out
}

// someCells: of a row that goes on, of others, of one that is gone.
func someCells() []api.Cell {
	return []api.Cell{
		put("b", "", 3, "empty"),
		put("b", "c", api.MaxNum, "last"),
		put("b", "c", 7, "seven"),
		gone("b", "c", 5),
		put("b", "c", 0, "first"),
		put("b", "d", 2, ""),
		put("bb", "c", 1, "bb"),
		gone("d", "c", 4),
		put("é", "c", 4, "\x00\xff"),
	}
}

// edges: cells at the edges of what may be.
func edges() []api.Cell {
	return []api.Cell{
		put("\x00", "", 0, ""),
		put("r", "", api.MaxNum, "v"),
		put("r", x(api.MaxKey), 1, ""),
		put(x(api.MaxKey), x(api.MaxKey), api.MaxNum, x(api.MaxValue)),
		gone(x(api.MaxKey), x(api.MaxKey), api.MaxNum-1),
		gone(strings.Repeat("\xff", api.MaxKey), "c", api.MaxNum),
	}
}
