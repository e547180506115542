package chk_test

import (
	"math"
	"math/big"
	"slices"
	"testing"

	"tolsey/chk"
)

const most = math.MaxUint64

// edges: numbers at which a sum, a difference or a product of two begins to wrap.
var edges = []uint64{0, 1, 2, 3, 5, 17, 255, 257, 641, 6700417, 1<<31 - 1, 1 << 31, 1<<32 - 1, 1 << 32, 1<<32 + 1, 1<<33 - 1, 1 << 33, 1 << 62, 1<<63 - 1, 1 << 63, 1<<63 + 1, most/3 - 1, most / 3, most/3 + 1, most - 2, most - 1, most}

// told: a number and whether there is one, as the calls answer it.
type told struct {
	n  uint64
	ok bool
}

func tell(n uint64, ok bool) told { return told{n, ok} }

// within: what a call is to answer where the whole number x comes out (beside false: 0).
func within(x *big.Int) told {
	if !x.IsUint64() {
		return told{}
	}
	return told{x.Uint64(), true}
}

func whole(n uint64) *big.Int { return new(big.Int).SetUint64(n) }

// Promise 1.1: Add.
func TestAdd(t *testing.T) {
	for _, x := range []struct {
		a, b uint64
		want told
	}{
		{0, 0, told{0, true}},
		{2, 3, told{5, true}},
		{most, 0, told{most, true}},
		{0, most, told{most, true}},
		{most - 1, 1, told{most, true}},
		{1 << 63, 1<<63 - 1, told{most, true}},
		{most, 1, told{}},
		{1, most, told{}},
		{1 << 63, 1 << 63, told{}},
		{most, most, told{}},
	} {
		if got := tell(chk.Add(x.a, x.b)); got != x.want {
			t.Errorf("Add(%d, %d) = %v, want %v", x.a, x.b, got, x.want)
		}
	}
}

// Promise 1.1: Sub, and the chapter's example.
func TestSub(t *testing.T) {
	for _, x := range []struct {
		a, b uint64
		want told
	}{
		{0, 0, told{0, true}},
		{3, 2, told{1, true}},
		{7, 7, told{0, true}},
		{most, 0, told{most, true}},
		{most, most, told{0, true}},
		{most, most - 1, told{1, true}},
		{1, 2, told{}},
		{0, 1, told{}},
		{0, most, told{}},
		{most - 1, most, told{}},
	} {
		if got := tell(chk.Sub(x.a, x.b)); got != x.want {
			t.Errorf("Sub(%d, %d) = %v, want %v", x.a, x.b, got, x.want)
		}
	}
}

// Promise 1.1: Mul. A product may wrap to 0, to less than both, or to more than both: each is false.
func TestMul(t *testing.T) {
	for _, x := range []struct {
		a, b uint64
		want told
	}{
		{0, 0, told{0, true}},
		{0, most, told{0, true}},
		{most, 0, told{0, true}},
		{6, 7, told{42, true}},
		{1, most, told{most, true}},
		{most, 1, told{most, true}},
		{most / 3, 3, told{most, true}},
		{1 << 32, 1<<32 - 1, told{1<<64 - 1<<32, true}},
		{641, most / 641, told{most - most%641, true}},
		{1 << 63, 2, told{}},
		{1 << 32, 1 << 32, told{}},
		{most, most, told{}},
		{most/3 + 1, 3, told{}},
		{1<<32 + 1, 1<<32 + 1, told{}},
		{1<<63 + 1<<62, 3, told{}},
	} {
		if got := tell(chk.Mul(x.a, x.b)); got != x.want {
			t.Errorf("Mul(%d, %d) = %v, want %v", x.a, x.b, got, x.want)
		}
	}
}

// Promise 1.1: Sum, of none, of few and of many.
func TestSum(t *testing.T) {
	if got := tell(chk.Sum()); got != (told{0, true}) {
		t.Errorf("Sum() = %v", got)
	}
	for _, x := range []struct {
		l    []uint64
		want told
	}{
		{nil, told{0, true}},
		{[]uint64{}, told{0, true}},
		{[]uint64{0}, told{0, true}},
		{[]uint64{5}, told{5, true}},
		{[]uint64{1, 2, 3, 4}, told{10, true}},
		{[]uint64{most}, told{most, true}},
		{[]uint64{0, most, 0}, told{most, true}},
		{[]uint64{1 << 63, 1 << 62, 1<<62 - 1}, told{most, true}},
		{[]uint64{most, 1}, told{}},
		{[]uint64{1, most}, told{}},
		{[]uint64{most, 1, 5}, told{}},
		{[]uint64{1 << 63, 1 << 62, 1 << 62}, told{}},
		{[]uint64{most, most, 2}, told{}},
		{[]uint64{1 << 63, 1 << 63, 1 << 63, 1 << 63}, told{}},
	} {
		if got := tell(chk.Sum(x.l...)); got != x.want {
			t.Errorf("Sum(%d) = %v, want %v", x.l, got, x.want)
		}
	}
	long := slices.Repeat([]uint64{1 << 44}, 1<<20-1)
	if got := tell(chk.Sum(long...)); got != (told{1<<64 - 1<<44, true}) {
		t.Errorf("Sum of a long list = %v", got)
	}
	if got := tell(chk.Sum(append(long, 1<<44)...)); got != (told{}) {
		t.Errorf("Sum of a long list that is one too long = %v", got)
	}
}

// Rule 3: a list that is handed in is not changed, nor the room behind it.
func TestSumLeavesItsList(t *testing.T) {
	room := []uint64{3, 4, most, 9, 8}
	before := slices.Clone(room)
	chk.Sum(room[:2]...)
	chk.Sum(room[:4]...)
	if !slices.Equal(room, before) {
		t.Errorf("the list is %d, was %d", room, before)
	}
}

// Promises 1.2 and 1.3: whatever two or three numbers come in, the answer is the whole number or none, it is never wrapped, and no call panics.
func TestNothingWraps(t *testing.T) {
	for _, a := range edges {
		for _, b := range edges {
			x, y := whole(a), whole(b)
			if got, want := tell(chk.Add(a, b)), within(new(big.Int).Add(x, y)); got != want {
				t.Errorf("Add(%d, %d) = %v, want %v", a, b, got, want)
			}
			if got, want := tell(chk.Sub(a, b)), within(new(big.Int).Sub(x, y)); got != want {
				t.Errorf("Sub(%d, %d) = %v, want %v", a, b, got, want)
			}
			if got, want := tell(chk.Mul(a, b)), within(new(big.Int).Mul(x, y)); got != want {
				t.Errorf("Mul(%d, %d) = %v, want %v", a, b, got, want)
			}
			for _, c := range edges {
				all := new(big.Int).Add(x, y)
				if got, want := tell(chk.Sum(a, b, c)), within(all.Add(all, whole(c))); got != want {
					t.Errorf("Sum(%d, %d, %d) = %v, want %v", a, b, c, got, want)
				}
			}
		}
	}
}

// Promise 1.2: a balance on which puts and takes that go through are done, and no others, is what came in less what went out.
func TestBalance(t *testing.T) {
	balance, kept := uint64(0), new(big.Int)
	for i, n := range []uint64{1, 0, most, most - 1, 1, 1 << 63, most, most, 1 << 63, 1 << 63, most, 2, 1} {
		next, ok := chk.Add(balance, n)
		moved := new(big.Int).Add(kept, whole(n))
		if i%3 == 2 {
			next, ok = chk.Sub(balance, n)
			moved.Sub(kept, whole(n))
		}
		if ok != moved.IsUint64() {
			t.Fatalf("step %d: %v for %v", i, ok, moved)
		}
		if ok {
			balance, kept = next, moved
		}
		if kept.Cmp(whole(balance)) != 0 {
			t.Fatalf("step %d: balance %d, want %v", i, balance, kept)
		}
	}
}
