// Package view has how cells stand in order, which rows they have, and which of them are seen at a time: what several layers need, of however many cells. What it means says doc/03-cell.md.
package view

import (
	"cmp"

	"tabulary/api"
)

// IsNum tells whether a number is one that may be a time or an ID, and can be written.
func IsNum(n int) bool {
	return n >= 0 && n <= api.MaxNum
}

// Order is below 0 if a stands ahead of b, above 0 if behind it, and 0 if both have one Row, Col and Time.
func Order(a, b api.Cell) int {
	if c := cmp.Compare(a.Row, b.Row); c != 0 {
		return c
	}
	if c := cmp.Compare(a.Col, b.Col); c != 0 {
		return c
	}
	return cmp.Compare(b.Time, a.Time)
}

// NewestAt answers a function that is asked of cells in order, of each one once: is this one, of those of its row and column whose Time is not above the time, the newest?
func NewestAt(time int) func(api.Cell) bool {
	// It hides those behind it. No cell has a Row without bytes, as the zero Cell has, which therefore hides nothing.
	var newest api.Cell
	return func(c api.Cell) bool {
		if c.Time > time || c.Row == newest.Row && c.Col == newest.Col {
			return false
		}
		newest = c
		return true
	}
}

// SeenAt answers a function that is asked of cells in order, of each one once: is this one seen at the time?
func SeenAt(time int) func(api.Cell) bool {
	isNewest := NewestAt(time)
	return func(c api.Cell) bool {
		return isNewest(c) && !c.Gone
	}
}

// AskFault tells what is wrong with the numbers that are asked with.
func AskFault(a api.Ask) api.Fault {
	if !IsNum(a.Time) {
		return api.Fault{Code: api.ErrRange, At: -1}
	}
	if a.Many < 0 || a.Many > api.MaxList {
		return api.Fault{Code: api.ErrRange, At: -2}
	}
	return api.Fault{}
}

// AskedFor answers a function that is asked of cells in order, of each one once: is this one seen, and of the rows that are asked for?
func AskedFor(a api.Ask) func(api.Cell) bool {
	isSeen := SeenAt(a.Time)
	return func(c api.Cell) bool {
		return isSeen(c) && IsBetween(c.Row, a.From, a.To)
	}
}

// IsBetween tells whether a row is one of those from from on, ahead of to (without an end, if to is empty).
func IsBetween(row, from, to string) bool {
	return row >= from && (to == "" || row < to)
}

// Rows of cells that are in order, each row once, rising.
func Rows(l []api.Cell) []string {
	var out []string
	for i, c := range l {
		if i == 0 || c.Row != l[i-1].Row {
			out = append(out, c.Row)
		}
	}
	return out
}
