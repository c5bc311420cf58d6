package file

import (
	"tabulary/api"
	"tabulary/cell"
	"tabulary/coding"
)

// blocksOf cells, which are checked, and the index of these blocks.
func blocksOf(l []api.Cell, size int) ([][]byte, []byte) {
	var blocks [][]byte
	var index, block []byte
	first := 0
	for i := range l {
		// One cell at a time, since where a block ends hangs on its bytes. A cell that is checked has bytes.
		b, _ := cell.Write(l[i : i+1])
		block = append(block, b...)
		if len(block) < size && i+1 < len(l) {
			continue
		}
		index = coding.AppendText(index, l[first].Row)
		index = coding.AppendNum(index, len(block))
		blocks = append(blocks, block)
		block, first = nil, i+1
	}
	return blocks, index
}

// readIndex: the row that the index tells of each block; with false it is not written so, or tells other lengths.
func readIndex(index []byte, blocks [][]byte) ([]string, bool) {
	r := coding.ReaderOf(index)
	var rows []string
	for _, block := range blocks {
		row, rowOK := r.Text()
		size, sizeOK := r.Num()
		if !rowOK || !sizeOK || size != len(block) {
			return nil, false
		}
		rows = append(rows, row)
	}
	return rows, r.Done()
}

// readBlocks: all their cells; with false one is no block, or begins with another row, or they are not a file's together.
func readBlocks(blocks [][]byte, rows []string) ([]api.Cell, bool) {
	var out []api.Cell
	for i, block := range blocks {
		l, f := cell.Read(block)
		if f != (api.Fault{}) || len(l) == 0 || l[0].Row != rows[i] {
			return nil, false
		}
		out = append(out, l...)
	}
	return out, len(out) <= maxCells && cell.Check(out) == (api.Fault{})
}

// blocksToRead for a row, by the blocks' first rows, which do not fall. A row may go on through several blocks, and begin within the block ahead of the first that begins with it.
func blocksToRead(rows []string, row string) int {
	less, notGreater := 0, 0
	for _, r := range rows {
		if r < row {
			less++
		}
		if r <= row {
			notGreater++
		}
	}
	return notGreater - max(less-1, 0)
}
