package tablet

import (
	"bytes"
	"slices"

	"tabulary/api"
	"tabulary/coding"
	"tabulary/disk"
	"tabulary/file"
	"tabulary/merge"
	"tabulary/view"
	"tabulary/wal"
)

// maxMemory: so many cells may be in memory. A file takes as many, so that they can be flushed.
const maxMemory = 500

// loaded is a tablet as it was told, and what is read of its log and its files.
type loaded struct {
	api.Tablet
	doneBytes int          // so many of the log, the first ones, are of notes up to Done
	last      int          // its last Seq
	memory    []api.Cell   // what is in memory
	files     [][]api.Cell // the cells of each file
	cells     []api.Cell   // its cells
}

// load reads a tablet, of which nothing is copied; what is answered is zero beside a fault.
func load(t api.Tablet) (loaded, api.Fault) {
	if f := headFault(t); f != (api.Fault{}) {
		return loaded{}, f
	}
	o := loaded{Tablet: t}
	notes, ok := o.readLog()
	if !ok {
		return loaded{}, api.Fault{Code: api.ErrState, At: -2}
	}
	if f := o.readFiles(); f != (api.Fault{}) {
		return loaded{}, f
	}
	if f := o.remember(notes...); f != (api.Fault{}) {
		return loaded{}, f
	}
	return o, api.Fault{}
}

// changed does to a tablet what is handed over, and tells what it is then. What do is given is a copy, so that it may be written to and answered.
func changed(t api.Tablet, do func(o *loaded) api.Fault) (api.Tablet, api.Fault) {
	o, f := load(t)
	if f != (api.Fault{}) {
		return api.Tablet{}, f
	}
	o.Tablet = copied(t)
	if f := do(&o); f != (api.Fault{}) {
		return api.Tablet{}, f
	}
	return o.Tablet, api.Fault{}
}

func copied(t api.Tablet) api.Tablet {
	t.Log.Bytes = bytes.Clone(t.Log.Bytes)
	t.Files = slices.Clone(t.Files)
	for i, b := range t.Files {
		t.Files[i] = bytes.Clone(b)
	}
	return t
}

// headFault tells what is wrong with a tablet as far as it shows without reading the log's notes and the files.
func headFault(t api.Tablet) api.Fault {
	if !view.IsNum(t.Done) || !view.IsNum(t.Since) {
		return api.Fault{Code: api.ErrRange}
	}
	if len(t.Files) > api.MaxFiles {
		return api.Fault{Code: api.ErrMany, At: -1}
	}
	if f := disk.Check(t.Log); f != (api.Fault{}) {
		return api.Fault{Code: f.Code, At: -2}
	}
	return api.Fault{}
}

// readLog tells the notes above Done, however many there are; with false the log is none, or does not go with Done.
func (o *loaded) readLog() ([]api.Note, bool) {
	var above []api.Note
	r := coding.ReaderOf(o.Log.Bytes)
	for !r.Done() {
		n, ok := readNote(&r)
		if !ok || !o.mayBeNext(n) {
			return nil, false
		}
		o.last = n.Seq
		if n.Seq > o.Done {
			above = append(above, n)
		} else {
			o.doneBytes = r.At()
		}
	}
	if o.last == 0 {
		o.last = o.Done
	}
	return above, o.last >= o.Done
}

// mayBeNext tells whether a note may stand in the log behind those that are read. No note has the Seq 0: while that is the last one, none is read.
func (o *loaded) mayBeNext(n api.Note) bool {
	if o.last == 0 {
		return n.Seq <= o.Done+1
	}
	return n.Seq == o.last+1
}

func readNote(r *coding.Reader) (api.Note, bool) {
	body, ok := r.Frame()
	if !ok {
		return api.Note{}, false
	}
	n, f := wal.Read(body)
	return n, f == (api.Fault{})
}

func (o *loaded) readFiles() api.Fault {
	for i, b := range o.Files {
		cells, f := file.Open(b)
		if f != (api.Fault{}) {
			return api.Fault{Code: f.Code, At: i}
		}
		o.files = append(o.files, cells)
	}
	return api.Fault{}
}

// remember puts notes, which are without faults, into memory, and among the tablet's cells.
func (o *loaded) remember(notes ...api.Note) api.Fault {
	// A log may have more notes than can be applied at once.
	for some := range slices.Chunk(notes, api.MaxList) {
		memory, f := wal.Apply(o.memory, some)
		if f != (api.Fault{}) || len(memory) > maxMemory {
			return api.Fault{Code: api.ErrMuch, At: -2}
		}
		o.memory = memory
	}
	// What Join tells of lists that are read is ErrMuch at -1 alone.
	cells, f := merge.Join(append([][]api.Cell{o.memory}, o.files...))
	o.cells = cells
	return f
}

// putFault: a note's own faults, or the first of its cells whose time is closed.
func (o *loaded) putFault(n api.Note) api.Fault {
	if _, f := wal.Write(n); f != (api.Fault{}) {
		return f
	}
	if at := slices.IndexFunc(n.Cells, isBelow(o.Since)); at >= 0 {
		return api.Fault{Code: api.ErrStale, At: at}
	}
	return api.Fault{}
}

// closedFault tells whether a time is closed.
func (o *loaded) closedFault(time int) api.Fault {
	if time < o.Since {
		return api.Fault{Code: api.ErrStale, At: -1}
	}
	return api.Fault{}
}

// remembersBelow tells whether a cell of an earlier time is in memory.
func (o *loaded) remembersBelow(time int) bool {
	return slices.ContainsFunc(o.memory, isBelow(time))
}

// isBelow answers a function that tells whether a cell is of an earlier time.
func isBelow(time int) func(api.Cell) bool {
	return func(c api.Cell) bool { return c.Time < time }
}

// sizeFault tells what is wrong with a size of blocks, which is all that can be wrong with a file of no cells. It is told ahead of what is wrong with a file's cells, other than Make tells it.
func sizeFault(size int) api.Fault {
	_, f := file.Make(nil, size)
	return f
}
