package parts

import (
	"slices"

	"tabulary/api"
	"tabulary/view"
)

// byID: the numbers of parts by their IDs.
type byID map[int]int

// numbered checks parts, and tells their numbers; none beside a fault.
func numbered(l []api.Part) (byID, api.Fault) {
	if len(l) == 0 {
		return nil, api.Fault{Code: api.ErrNone, At: -1}
	}
	if len(l) > api.MaxParts {
		return nil, api.Fault{Code: api.ErrMany, At: -1}
	}
	numbers := byID{}
	for i, p := range l {
		code := codeAt(l, i)
		if _, is := numbers[p.ID]; is && code == api.OK {
			code = api.ErrTwice
		}
		if code != api.OK {
			return nil, api.Fault{Code: code, At: i}
		}
		numbers[p.ID] = i
	}
	return numbers, api.Fault{}
}

// codeAt: the code of what is wrong with a part, but for an ID that another one has, or OK.
func codeAt(l []api.Part, i int) int {
	p := l[i]
	switch {
	case len(p.From) > api.MaxKey || len(p.To) > api.MaxKey:
		return api.ErrSize
	case !view.IsNum(p.ID):
		return api.ErrRange
	case p.From != endAhead(l, i) || !endsWell(l, i):
		return api.ErrForm
	}
	return api.OK
}

// endAhead: where the parts ahead of one end, which is where it must begin. Ahead of the first one there is nothing, and no row is below the empty one.
func endAhead(l []api.Part, i int) string {
	if i == 0 {
		return ""
	}
	return l[i-1].To
}

// endsWell tells whether a part leaves rows to those behind it just if there are such, and has some of its own.
func endsWell(l []api.Part, i int) bool {
	if i == len(l)-1 {
		return l[i].To == ""
	}
	return l[i].To > l[i].From
}

// rowFault tells why a part can't be split at a row.
func rowFault(p api.Part, row string) api.Fault {
	if len(row) > api.MaxKey {
		return api.Fault{Code: api.ErrSize, At: -2}
	}
	if row == p.From || !view.IsBetween(row, p.From, p.To) {
		return api.Fault{Code: api.ErrForm, At: -2}
	}
	return api.Fault{}
}

// idFault tells what is wrong with the IDs of parts that come in the stead of those from the number from on, ahead of to.
func (numbers byID) idFault(from, to int, ids ...int) api.Fault {
	isWrong := func(id int) bool { return !view.IsNum(id) }
	if slices.ContainsFunc(ids, isWrong) {
		return api.Fault{Code: api.ErrRange, At: -3}
	}
	for i, id := range ids {
		n, is := numbers[id]
		// An ID of a part that goes may be given again.
		stays := is && (n < from || n >= to)
		if stays || slices.Contains(ids[:i], id) {
			return api.Fault{Code: api.ErrTwice, At: -3}
		}
	}
	return api.Fault{}
}
