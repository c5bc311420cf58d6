package cell_test

import (
	"testing"

	"tabulary/api"
	"tabulary/cell"
)

func TestCheck(t *testing.T) {
	for _, c := range []struct {
		what string
		l    []api.Cell
	}{
		{"nothing", nil},
		{"no cells", []api.Cell{}},
		{"one cell", []api.Cell{put("r", "c", 1, "v")}},
		{"the edges", edges()},
		{"the most cells", rising(api.MaxList)},
		{"newer ahead of older", []api.Cell{put("r", "c", 3, ""), gone("r", "c", 2), put("r", "c", 1, "")}},
		{"a column behind another one, whatever the time", []api.Cell{put("r", "c", 1, ""), put("r", "d", 9, "")}},
		{"a row behind another one, whatever the column", []api.Cell{put("r", "z", 1, ""), put("s", "a", 9, "")}},
		{"a row behind one that it goes on", []api.Cell{put("r", "z", 1, ""), put("r\x00", "a", 1, "")}},
		{"a column behind one that it goes on", []api.Cell{put("r", "", 0, ""), put("r", "\x00", 0, "")}},
		{"texts by bytes", []api.Cell{put("Z", "", 0, ""), put("a", "", 0, ""), put("é", "", 0, ""), put("\xff", "", 0, "")}},
		{"Row and Col that make one text", []api.Cell{put("a", "bc", 1, ""), put("ab", "c", 1, "")}},
	} {
		wantFault(t, c.what, cell.Check(c.l), api.Fault{})
	}
}

func TestCheckFaults(t *testing.T) {
	for _, w := range wrongLists() {
		wantFault(t, w.what, cell.Check(w.l), w.want)
	}
}

// TestWhatCheckSaysIsToldFirst: ahead of what else Get, Scan and Write would tell.
func TestWhatCheckSaysIsToldFirst(t *testing.T) {
	for _, w := range wrongLists() {
		for _, n := range []int{0, -1, api.MaxNum + 1} {
			v, is, f := cell.Get(w.l, "r", "c", n)
			wantFault(t, "Get of "+w.what, f, w.want)
			if v != "" || is {
				t.Errorf("Get of %s: %q, %v, beside a fault", w.what, v, is)
			}
			l, f := cell.Scan(w.l, api.Ask{Time: n, Many: n})
			wantNoCells(t, "Scan of "+w.what, l, f, w.want)
		}
		b, f := cell.Write(w.l)
		wantFault(t, "Write of "+w.what, f, w.want)
		if len(b) != 0 {
			t.Errorf("Write of %s: %d bytes beside a fault", w.what, len(b))
		}
	}
}
