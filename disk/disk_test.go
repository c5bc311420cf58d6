package disk_test

import (
	"math"
	"slices"
	"testing"

	"tabulary/api"
	"tabulary/disk"
)

func TestCheck(t *testing.T) {
	full := noise(1, api.MaxBytes)
	for _, d := range []api.Disk{
		{}, diskOf(0), {Bytes: []byte{}}, diskOf(0, 1, 2, 3), diskOf(1, 1, 2, 3), diskOf(3, 1, 2, 3),
		{Bytes: full}, {Bytes: full, Kept: 1}, {Bytes: full, Kept: api.MaxBytes},
	} {
		wantFault(t, "Check", disk.Check(d), api.Fault{})
	}
	for _, c := range wrongDisks() {
		wantFault(t, c.what, disk.Check(c.d), c.want)
	}
}

// TestAllTellFirstWhatCheckSays: even if what else is handed over is wrong, too.
func TestAllTellFirstWhatCheckSays(t *testing.T) {
	long := make([]byte, api.MaxBytes+1)
	for _, c := range wrongDisks() {
		for _, b := range [][]byte{nil, {1}, long} {
			d, f := disk.Append(c.d, b)
			wantOnlyFault(t, "Append: "+c.what, d, f, c.want)
		}
		d, f := disk.Sync(c.d)
		wantOnlyFault(t, "Sync: "+c.what, d, f, c.want)
		for _, n := range []int{math.MinInt, -1, 0, 1, 3, api.MaxBytes, api.MaxBytes + 2, math.MaxInt} {
			d, f = disk.Crash(c.d, n)
			wantOnlyFault(t, "Crash: "+c.what, d, f, c.want)
			d, f = disk.Trim(c.d, n)
			wantOnlyFault(t, "Trim: "+c.what, d, f, c.want)
		}
		d, l, f := disk.Recover(c.d)
		wantOnlyFault(t, "Recover: "+c.what, d, f, c.want)
		wantBodies(t, "Recover: "+c.what, l, nil)
	}
}

func TestAppend(t *testing.T) {
	for _, c := range []struct {
		what string
		d    api.Disk
		b    []byte
		want api.Disk
	}{
		{"nothing to nothing", diskOf(0), nil, diskOf(0)},
		{"no bytes to nothing", api.Disk{Bytes: []byte{}}, []byte{}, diskOf(0)},
		{"bytes to nothing", diskOf(0), []byte{1, 2, 3}, diskOf(0, 1, 2, 3)},
		{"nothing to bytes", diskOf(1, 1, 2), nil, diskOf(1, 1, 2)},
		{"behind what is not kept", diskOf(0, 1, 2), []byte{3, 4}, diskOf(0, 1, 2, 3, 4)},
		{"behind what is kept in part", diskOf(1, 1, 2), []byte{3, 4}, diskOf(1, 1, 2, 3, 4)},
		{"behind what is kept", diskOf(2, 1, 2), []byte{3, 4}, diskOf(2, 1, 2, 3, 4)},
	} {
		d, f := disk.Append(c.d, c.b)
		wantDisk(t, c.what, d, f, c.want)
	}
}

func TestAppendAtItsLimit(t *testing.T) {
	b := noise(1, api.MaxBytes+1)
	full := api.MaxBytes
	for _, c := range []struct {
		at, to int
		want   api.Fault
	}{
		{0, full, api.Fault{}},
		{1, full, api.Fault{}},
		{full - 1, full, api.Fault{}},
		{full, full, api.Fault{}},
		{0, full + 1, fault(api.ErrMuch, 0)},
		{1, full + 1, fault(api.ErrMuch, 0)},
		{full, full + 1, fault(api.ErrMuch, 0)},
	} {
		d, f := disk.Append(api.Disk{Bytes: b[:c.at], Kept: c.at}, b[c.at:c.to])
		if c.want == (api.Fault{}) {
			wantDisk(t, "Append", d, f, api.Disk{Bytes: b[:c.to], Kept: c.at})
		} else {
			wantOnlyFault(t, "Append", d, f, c.want)
		}
	}
	d, f := disk.Append(diskOf(0), make([]byte, 1<<24))
	wantOnlyFault(t, "Append of much", d, f, fault(api.ErrMuch, 0))
}

func TestSync(t *testing.T) {
	full := noise(1, api.MaxBytes)
	for _, c := range []struct{ d, want api.Disk }{
		{diskOf(0), diskOf(0)},
		{api.Disk{Bytes: []byte{}}, diskOf(0)},
		{diskOf(0, 1, 2, 3), diskOf(3, 1, 2, 3)},
		{diskOf(2, 1, 2, 3), diskOf(3, 1, 2, 3)},
		{diskOf(3, 1, 2, 3), diskOf(3, 1, 2, 3)},
		{api.Disk{Bytes: full, Kept: 7}, api.Disk{Bytes: full, Kept: api.MaxBytes}},
	} {
		d, f := disk.Sync(c.d)
		wantDisk(t, "Sync", d, f, c.want)
	}
}

func TestCrash(t *testing.T) {
	for _, c := range []struct {
		what string
		d    api.Disk
		n    int
		want api.Disk
	}{
		{"of nothing", diskOf(0), 0, diskOf(0)},
		{"nothing left", diskOf(0, 1, 2, 3), 0, diskOf(0)},
		{"the example", diskOf(0, 1, 2, 3), 1, diskOf(1, 1)},
		{"all left", diskOf(0, 1, 2, 3), 3, diskOf(3, 1, 2, 3)},
		{"what is kept left", diskOf(2, 1, 2, 3, 4), 0, diskOf(2, 1, 2)},
		{"one more left", diskOf(2, 1, 2, 3, 4), 1, diskOf(3, 1, 2, 3)},
		{"all left behind what is kept", diskOf(2, 1, 2, 3, 4), 2, diskOf(4, 1, 2, 3, 4)},
		{"all was kept", diskOf(3, 1, 2, 3), 0, diskOf(3, 1, 2, 3)},
	} {
		d, f := disk.Crash(c.d, c.n)
		wantDisk(t, c.what, d, f, c.want)
	}
	full := noise(1, api.MaxBytes)
	d, f := disk.Crash(api.Disk{Bytes: full}, api.MaxBytes)
	wantDisk(t, "the longest", d, f, api.Disk{Bytes: full, Kept: api.MaxBytes})
}

func TestCrashFaults(t *testing.T) {
	for _, c := range []struct {
		d api.Disk
		n int
	}{
		{diskOf(0), -1},
		{diskOf(0), 1},
		{diskOf(0, 1, 2, 3), -1},
		{diskOf(0, 1, 2, 3), 4},
		{diskOf(2, 1, 2, 3), -1},
		{diskOf(2, 1, 2, 3), -2},
		{diskOf(2, 1, 2, 3), 2},
		{diskOf(2, 1, 2, 3), 3},
		{diskOf(3, 1, 2, 3), 1},
		{diskOf(3, 1, 2, 3), -3},
		{diskOf(3, 1, 2, 3), math.MaxInt},
		{diskOf(3, 1, 2, 3), math.MinInt},
		{api.Disk{Bytes: []byte{1, 2, 3}[:2]}, 3},
	} {
		d, f := disk.Crash(c.d, c.n)
		wantOnlyFault(t, "Crash", d, f, fault(api.ErrRange, -1))
	}
}

func TestTrim(t *testing.T) {
	for _, kept := range []int{0, 1, 2, 3} {
		for n, want := range []api.Disk{diskOf(0), diskOf(1, 1), diskOf(2, 1, 2), diskOf(3, 1, 2, 3)} {
			d, f := disk.Trim(diskOf(kept, 1, 2, 3), n)
			wantDisk(t, "Trim", d, f, want)
		}
	}
	d, f := disk.Trim(diskOf(0), 0)
	wantDisk(t, "Trim of nothing", d, f, diskOf(0))
	full := noise(1, api.MaxBytes)
	d, f = disk.Trim(api.Disk{Bytes: full}, api.MaxBytes)
	wantDisk(t, "Trim of the longest", d, f, api.Disk{Bytes: full, Kept: api.MaxBytes})
}

func TestTrimFaults(t *testing.T) {
	for _, c := range []struct {
		d api.Disk
		n int
	}{
		{diskOf(0), -1},
		{diskOf(0), 1},
		{diskOf(0, 1, 2, 3), -1},
		{diskOf(0, 1, 2, 3), 4},
		{diskOf(3, 1, 2, 3), -1},
		{diskOf(3, 1, 2, 3), 4},
		{diskOf(1, 1, 2, 3), math.MaxInt},
		{diskOf(1, 1, 2, 3), math.MinInt},
		{api.Disk{Bytes: []byte{1, 2, 3}[:2]}, 3},
	} {
		d, f := disk.Trim(c.d, c.n)
		wantOnlyFault(t, "Trim", d, f, fault(api.ErrRange, -1))
	}
}

// TestWhatIsKeptIsThereBehindEachCrash: each length, each Kept, each n, and a second Crash behind it.
func TestWhatIsKeptIsThereBehindEachCrash(t *testing.T) {
	b := noise(5, 12)
	for size := range len(b) + 1 {
		for kept := range size + 1 {
			for n := range size - kept + 1 {
				d, f := disk.Crash(api.Disk{Bytes: b[:size], Kept: kept}, n)
				wantDisk(t, "Crash", d, f, api.Disk{Bytes: b[:kept+n], Kept: kept + n})
				d, f = disk.Append(d, []byte{9, 9})
				wantFault(t, "Append", f, api.Fault{})
				d, f = disk.Crash(d, 0)
				wantDisk(t, "the second Crash", d, f, api.Disk{Bytes: b[:kept+n], Kept: kept + n})
			}
		}
	}
}

func TestExample(t *testing.T) {
	d, f := disk.Append(api.Disk{}, []byte{7, 8, 9})
	wantDisk(t, "Append", d, f, diskOf(0, 7, 8, 9))
	d, f = disk.Crash(d, 1)
	wantDisk(t, "Crash", d, f, diskOf(1, 7))
}

// TestArgumentsStay: nothing that is handed in is written to, nor what lies behind its length.
func TestArgumentsStay(t *testing.T) {
	room := append(framesOf(t, []byte{1}, []byte{2}), 1, 2, 3)
	before := slices.Clone(room)
	d := api.Disk{Bytes: room[:10], Kept: 5}
	disk.Check(d)
	disk.Append(d, room[12:14])
	disk.Sync(d)
	disk.Crash(d, 2)
	disk.Trim(d, 8)
	disk.Recover(d)
	if !slices.Equal(room, before) {
		t.Errorf("%v is %v then", before, room)
	}
}

// TestAnswersAreNewMemory: a change to what came in, within its length or behind it, changes no answer, and the other way round.
func TestAnswersAreNewMemory(t *testing.T) {
	room := append(framesOf(t, []byte{1, 2}, []byte{3, 4}), 5, 6)
	before := slices.Clone(room)
	more := []byte{7, 8}
	d := api.Disk{Bytes: room[:len(room)-1], Kept: 3}
	all := [][]byte{}
	keep := func(d api.Disk, f api.Fault) {
		wantFault(t, "the call", f, api.Fault{})
		all = append(all, d.Bytes)
	}
	keep(disk.Append(d, more))
	keep(disk.Append(d, nil))
	keep(disk.Append(api.Disk{}, more))
	keep(disk.Sync(d))
	keep(disk.Crash(d, 5))
	keep(disk.Trim(d, 4))
	keep(disk.Trim(d, 0))
	r, bodies, f := disk.Recover(d)
	keep(r, f)
	all = append(all, bodies...)
	for i, l := range all {
		others := [][]byte{}
		for _, o := range all {
			others = append(others, slices.Clone(o))
		}
		mine := slices.Clone(l)
		for k := range l {
			l[k] ^= 255
		}
		full := l[:cap(l)]
		for k := range full {
			full[k] ^= 77
		}
		for k, o := range all {
			if k != i && !slices.Equal(o, others[k]) {
				t.Errorf("answer %d changes with answer %d", k, i)
			}
		}
		if !slices.Equal(room, before) || !slices.Equal(more, []byte{7, 8}) {
			t.Errorf("what came in changes with answer %d", i)
		}
		copy(l, mine)
	}
}

// TestNoCallPanics: disks and numbers of all kinds, and twice the same is answered.
func TestNoCallPanics(t *testing.T) {
	numbers := []int{math.MinInt, math.MinInt + 1, -2, -1, 0, 1, 2, 3, 6, 7, 13, 59999, 60000, 60001, math.MaxInt - 1, math.MaxInt}
	lists := [][]byte{nil, {}, {0}, noise(1, 7), make([]byte, 13), framesOf(t, []byte{1}), make([]byte, api.MaxBytes), make([]byte, api.MaxBytes+1)}
	for _, b := range lists {
		for _, kept := range numbers {
			d := api.Disk{Bytes: b, Kept: kept}
			f := disk.Check(d)
			wantFault(t, "Check again", disk.Check(d), f)
			for _, n := range numbers {
				c, f := disk.Crash(d, n)
				again, g := disk.Crash(d, n)
				wantSame(t, "Crash", c, f, again, g)
				c, f = disk.Trim(d, n)
				again, g = disk.Trim(d, n)
				wantSame(t, "Trim", c, f, again, g)
			}
			for _, more := range lists {
				c, f := disk.Append(d, more)
				again, g := disk.Append(d, more)
				wantSame(t, "Append", c, f, again, g)
			}
			c, l, f := disk.Recover(d)
			again, m, g := disk.Recover(d)
			wantSame(t, "Recover", c, f, again, g)
			wantBodies(t, "Recover", m, l)
		}
	}
}

func wantSame(t *testing.T, what string, d api.Disk, f api.Fault, again api.Disk, g api.Fault) {
	t.Helper()
	if f != g || d.Kept != again.Kept || !slices.Equal(d.Bytes, again.Bytes) {
		t.Errorf("%s: the second answer is another one", what)
	}
}
