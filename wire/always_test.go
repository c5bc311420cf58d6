package wire_test

import (
	"bytes"
	"fmt"
	"slices"
	"testing"

	"tabulary/api"
	"tabulary/wire"
)

// everyCall: what all calls that take bytes answer.
func everyCall(b []byte) string {
	nums, f1 := wire.ReadNums(b)
	texts, f2 := wire.ReadTexts(b)
	sum, f3 := wire.Sum(b)
	bodies, n, f4 := wire.Open(b)
	return fmt.Sprintln(nums, f1, texts, f2, sum, f3, bodies, n, f4)
}

// TestNoCallPanics: bytes of all kinds, and twice the same is answered.
func TestNoCallPanics(t *testing.T) {
	inputs := [][]byte{nil, {}, noise(1, api.MaxBytes), noise(2, api.MaxBytes+1)}
	for i := range 1 << 16 {
		inputs = append(inputs, []byte{byte(i), byte(i >> 8)})
	}
	for n := range 300 {
		inputs = append(inputs, noise(uint32(n), n), bytes.Repeat([]byte{byte(n)}, n))
	}
	for _, b := range inputs {
		if first, then := everyCall(b), everyCall(b); first != then {
			t.Errorf("of %v is answered %s, then %s", cut(b), first, then)
		}
	}
}

// TestArgumentsStay: nothing that is handed in is written to, nor what lies behind its length.
func TestArgumentsStay(t *testing.T) {
	nums := []int{1, 2, 300, 4}
	wire.Nums(nums[:3])
	wantList(t, "Nums", nums, []int{1, 2, 300, 4})

	texts := []string{"a", "b", "c"}
	wire.Texts(texts[:2])
	wantList(t, "Texts", texts, []string{"a", "b", "c"})

	room := []byte("abcdefgh")
	bodies := [][]byte{room[:2], room[2:4], room[6:]}
	wire.Frames(bodies[:2])
	wantBytes(t, "Frames", room, []byte("abcdefgh"))
	wantBodies(t, "Frames", bodies, [][]byte{[]byte("ab"), []byte("cd"), []byte("gh")})

	b := append(frameOf([]byte{1}), frameOf([]byte{2})...)
	before := slices.Clone(b)
	everyCall(b[:8])
	wantBytes(t, "reading", b, before)
}

// TestWhatLiesBehindIsNotRead: the rest of a number, a text or a frame may lie behind the length.
func TestWhatLiesBehindIsNotRead(t *testing.T) {
	_, f := wire.ReadNums([]byte{172, 2}[:1])
	wantFault(t, "ReadNums", f, fault(api.ErrForm, 0))
	_, f = wire.ReadTexts([]byte{1, 'a'}[:1])
	wantFault(t, "ReadTexts", f, fault(api.ErrForm, 0))
	wantOpen(t, "Open", frameOf([]byte{1})[:6], nil, 0)
}

// TestAnswersAreNewMemory: a change to an answer changes neither another answer nor an argument.
func TestAnswersAreNewMemory(t *testing.T) {
	b := append(frameOf([]byte{1, 2}), frameOf([]byte{3, 4})...)
	before := slices.Clone(b)
	bodies, _, _ := wire.Open(b)
	bodies[0] = append(bodies[0], 9, 9, 9, 9, 9, 9, 9, 9, 9, 9)
	bodies[0][0], bodies[0][1] = 8, 8
	_ = append(bodies[0][:2], 7, 7, 7, 7)
	wantBytes(t, "the second body", bodies[1], []byte{3, 4})
	wantBytes(t, "the argument", b, before)
	for i := range b {
		b[i] = 77
	}
	wantBytes(t, "the second body", bodies[1], []byte{3, 4})

	written := []byte{1, 'a'}
	texts, _ := wire.ReadTexts(written)
	written[1] = 'b'
	wantList(t, "the text", texts, []string{"a"})

	body := []byte{5}
	frame, _ := wire.Frames([][]byte{body})
	body[0] = 6
	wantBytes(t, "the frame", frame, frameOf([]byte{5}))
}

// TestHugeListsEnd: what is far above a limit is told at once, without being written first.
func TestHugeListsEnd(t *testing.T) {
	_, f := wire.Nums(make([]int, 1<<22))
	wantFault(t, "Nums", f, fault(api.ErrMany, 0))
	_, f = wire.Texts(slices.Repeat([]string{string(make([]byte, 1<<20))}, api.MaxList))
	wantFault(t, "Texts", f, fault(api.ErrMuch, 0))
	_, f = wire.Frames(slices.Repeat([][]byte{make([]byte, 1<<20)}, api.MaxList))
	wantFault(t, "Frames", f, fault(api.ErrMuch, 0))
	big := make([]byte, 1<<24)
	_, f = wire.ReadNums(big)
	wantFault(t, "ReadNums", f, fault(api.ErrSize, 0))
	_, f = wire.ReadTexts(big)
	wantFault(t, "ReadTexts", f, fault(api.ErrSize, 0))
	_, f = wire.Sum(big)
	wantFault(t, "Sum", f, fault(api.ErrSize, 0))
	_, _, f = wire.Open(big)
	wantFault(t, "Open", f, fault(api.ErrSize, 0))
}
