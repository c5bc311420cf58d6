package disk_test

import (
	"slices"
	"testing"

	"tabulary/api"
	"tabulary/disk"
)

// wantRecover: Recover of d leaves the first size bytes, all kept, and tells just these bodies.
func wantRecover(t *testing.T, what string, d api.Disk, size int, bodies [][]byte) {
	t.Helper()
	got, l, f := disk.Recover(d)
	wantDisk(t, what, got, f, api.Disk{Bytes: d.Bytes[:size], Kept: size})
	wantBodies(t, what, l, bodies)
}

func TestRecover(t *testing.T) {
	one := framesOf(t, []byte{1})
	two := framesOf(t, []byte{1}, []byte{2, 3})
	for _, c := range []struct {
		what   string
		b      []byte
		size   int
		bodies [][]byte
	}{
		{"nothing", nil, 0, nil},
		{"no bytes", []byte{}, 0, nil},
		{"no frame", []byte{1, 2, 3}, 0, nil},
		{"a frame", one, 7, [][]byte{{1}}},
		{"an empty frame", framesOf(t, nil), 6, [][]byte{{}}},
		{"two frames", two, 15, [][]byte{{1}, {2, 3}}},
		{"two frames, and what is none", append(slices.Clone(two), 0, 0, 1), 15, [][]byte{{1}, {2, 3}}},
		{"a frame behind what is none", append([]byte{9}, one...), 0, nil},
	} {
		for _, kept := range []int{0, len(c.b) / 2, len(c.b)} {
			wantRecover(t, c.what, api.Disk{Bytes: c.b, Kept: kept}, c.size, c.bodies)
		}
	}
}

func TestRecoverAtItsLimits(t *testing.T) {
	body := noise(1, api.MaxBytes-6)
	wantRecover(t, "the longest frame", api.Disk{Bytes: framesOf(t, body)}, api.MaxBytes, [][]byte{body})

	many := slices.Repeat(framesOf(t, nil), api.MaxList+1)
	most := api.MaxList * 6
	wantRecover(t, "the most frames", api.Disk{Bytes: many[:most]}, most, make([][]byte, api.MaxList))
	wantRecover(t, "the most frames, and one cut off", api.Disk{Bytes: many[:len(many)-1]}, most, make([][]byte, api.MaxList))
	for _, kept := range []int{0, most, len(many)} {
		d, l, f := disk.Recover(api.Disk{Bytes: many, Kept: kept})
		wantOnlyFault(t, "one frame too many", d, f, fault(api.ErrMany, 0))
		wantBodies(t, "one frame too many", l, nil)
	}
}

func TestRecoverOfFramesThatAreCutOff(t *testing.T) {
	bodies := someBodies()
	b := framesOf(t, bodies...)
	for k := range len(b) + 1 {
		whole, size := wholeAhead(bodies, k)
		wantRecover(t, "cut off", api.Disk{Bytes: b[:k]}, size, bodies[:whole])
		wantRecover(t, "cut off, all kept", api.Disk{Bytes: b[:k], Kept: k}, size, bodies[:whole])
	}
}

// TestRecoverOfAFrameThatIsChanged: one byte of a body or its sum, kept or not.
func TestRecoverOfAFrameThatIsChanged(t *testing.T) {
	bodies := someBodies()
	b := framesOf(t, bodies...)
	start := 0
	for i, body := range bodies {
		end := start + len(body) + 6
		for at := start + 2; at < end; at++ {
			changed := slices.Clone(b)
			changed[at] ^= 4
			for _, kept := range []int{0, at, len(b)} {
				wantRecover(t, "changed", api.Disk{Bytes: changed, Kept: kept}, start, bodies[:i])
			}
		}
		start = end
	}
}

// TestRecoverBehindEachCrash: the first frames, and at least those that were kept.
func TestRecoverBehindEachCrash(t *testing.T) {
	bodies := someBodies()
	b := framesOf(t, bodies...)
	for kept := range len(b) + 1 {
		for n := 0; n <= len(b)-kept; n += 1 + n/40*7 {
			d, f := disk.Crash(api.Disk{Bytes: b, Kept: kept}, n)
			wantFault(t, "Crash", f, api.Fault{})
			whole, size := wholeAhead(bodies, kept+n)
			wantRecover(t, "behind a Crash", d, size, bodies[:whole])
			if keptOnes, _ := wholeAhead(bodies, kept); whole < keptOnes {
				t.Fatalf("%d frames are left, %d were kept", whole, keptOnes)
			}
		}
	}
}

// TestFramesThatAreAppendedAndKeptAreRecovered: one frame after the other, as a log puts them.
func TestFramesThatAreAppendedAndKeptAreRecovered(t *testing.T) {
	bodies := someBodies()
	for synced := range len(bodies) + 1 {
		d := api.Disk{}
		for i, body := range bodies {
			var f api.Fault
			d, f = disk.Append(d, framesOf(t, body))
			wantFault(t, "Append", f, api.Fault{})
			if i < synced {
				d, f = disk.Sync(d)
				wantFault(t, "Sync", f, api.Fault{})
			}
		}
		d, f := disk.Crash(d, 0)
		wantFault(t, "Crash", f, api.Fault{})
		wantRecover(t, "what was kept", d, len(d.Bytes), bodies[:synced])
	}
}

// wholeAhead: how many of the bodies' frames end within the first k bytes, and how many bytes these are.
func wholeAhead(bodies [][]byte, k int) (int, int) {
	size := 0
	for i, body := range bodies {
		if size+len(body)+6 > k {
			return i, size
		}
		size += len(body) + 6
	}
	return len(bodies), size
}
