package file

import (
	"tabulary/api"
	"tabulary/coding"
	"tabulary/view"
)

// probes: so many bits are of a row.
const probes = 3

// filter: bits of rows. It has at least one byte.
type filter []byte

// filterOf cells that are in order.
func filterOf(l []api.Cell) filter {
	rows := view.Rows(l)
	out := make(filter, max(len(rows), 1))
	for _, row := range rows {
		for _, place := range out.placesOf(row) {
			out[place/8] |= 1 << (place % 8)
		}
	}
	return out
}

// has tells whether all bits of a row are 1.
func (f filter) has(row string) bool {
	for _, place := range f.placesOf(row) {
		if f[place/8]>>(place%8)&1 == 0 {
			return false
		}
	}
	return true
}

// placesOf a row's bits. The row may be longer than layer 1's Sum takes: each row is asked for.
func (f filter) placesOf(row string) [probes]int {
	sum := coding.Sum([]byte(row))
	low, high := int(sum%65536), int(sum/65536)
	var out [probes]int
	for i := range probes {
		out[i] = (low + i*high) % (8 * len(f))
	}
	return out
}
