package disk_test

import (
	"bytes"
	"math"
	"slices"
	"testing"

	"tabulary/api"
	"tabulary/wire"
)

func fault(code, at int) api.Fault { return api.Fault{Code: code, At: at} }

func diskOf(kept int, b ...byte) api.Disk { return api.Disk{Bytes: b, Kept: kept} }

func wantFault(t *testing.T, what string, got, want api.Fault) {
	t.Helper()
	if got != want {
		t.Errorf("%s: fault %v, want %v", what, got, want)
	}
}

// wantDisk: no fault, and just this disk.
func wantDisk(t *testing.T, what string, got api.Disk, f api.Fault, want api.Disk) {
	t.Helper()
	wantFault(t, what, f, api.Fault{})
	if !bytes.Equal(got.Bytes, want.Bytes) || got.Kept != want.Kept {
		t.Errorf("%s: %v, %d kept, of %d; want %v, %d kept, of %d", what,
			cut(got.Bytes), got.Kept, len(got.Bytes), cut(want.Bytes), want.Kept, len(want.Bytes))
	}
}

// wantOnlyFault: just this fault, and a disk that is zero.
func wantOnlyFault(t *testing.T, what string, got api.Disk, f, want api.Fault) {
	t.Helper()
	wantFault(t, what, f, want)
	if len(got.Bytes) != 0 || got.Kept != 0 {
		t.Errorf("%s: %d bytes, %d kept, beside a fault", what, len(got.Bytes), got.Kept)
	}
}

func wantBodies(t *testing.T, what string, got, want [][]byte) {
	t.Helper()
	if !slices.EqualFunc(got, want, bytes.Equal) {
		t.Errorf("%s: %d bodies %v, want %d %v", what, len(got), cut(got), len(want), cut(want))
	}
}

// cut keeps what a failing test tells readable.
func cut[T any](l []T) []T { return l[:min(len(l), 20)] }

// noise: bytes that look like nothing, the same ones in each run.
func noise(seed uint32, n int) []byte {
	out := make([]byte, n)
	for i := range out {
		seed = seed*1664525 + 1013904223
		out[i] = byte(seed >> 24)
	}
	return out
}

// framesOf: the frames of bodies.
func framesOf(t *testing.T, bodies ...[]byte) []byte {
	t.Helper()
	b, f := wire.Frames(bodies)
	wantFault(t, "Frames", f, api.Fault{})
	return b
}

// someBodies: bodies of several lengths, one of them empty, one whose length needs both bytes.
func someBodies() [][]byte {
	return [][]byte{{1}, {}, {2, 3}, noise(3, 260), {0, 0, 0}}
}

// wrongDisks: each with what Check says of it.
func wrongDisks() []struct {
	what string
	d    api.Disk
	want api.Fault
} {
	long := noise(1, api.MaxBytes+1)
	return []struct {
		what string
		d    api.Disk
		want api.Fault
	}{
		{"one byte too long", api.Disk{Bytes: long}, fault(api.ErrSize, 0)},
		{"one byte too long, all kept", api.Disk{Bytes: long, Kept: len(long)}, fault(api.ErrSize, 0)},
		{"much too long", api.Disk{Bytes: make([]byte, 1<<22)}, fault(api.ErrSize, 0)},
		{"too long, told ahead of Kept", api.Disk{Bytes: long, Kept: -1}, fault(api.ErrSize, 0)},
		{"too long, told ahead of Kept beyond", api.Disk{Bytes: long, Kept: len(long) + 1}, fault(api.ErrSize, 0)},
		{"Kept below 0", diskOf(-1, 1, 2, 3), fault(api.ErrRange, 0)},
		{"Kept beyond", diskOf(4, 1, 2, 3), fault(api.ErrRange, 0)},
		{"Kept below 0 of nothing", diskOf(-1), fault(api.ErrRange, 0)},
		{"Kept beyond nothing", diskOf(1), fault(api.ErrRange, 0)},
		{"Kept far below 0", diskOf(math.MinInt, 1), fault(api.ErrRange, 0)},
		{"Kept far beyond", diskOf(math.MaxInt, 1), fault(api.ErrRange, 0)},
		{"Kept beyond the longest", api.Disk{Bytes: long[:api.MaxBytes], Kept: len(long)}, fault(api.ErrRange, 0)},
		{"Kept behind the length", api.Disk{Bytes: []byte{1, 2, 3}[:2], Kept: 3}, fault(api.ErrRange, 0)},
	}
}
