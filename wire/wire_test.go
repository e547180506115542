package wire_test

import (
	"bytes"
	"encoding/binary"
	"math"
	"math/rand"
	"slices"
	"testing"

	"tolsey/wire"
)

// kind: which of the three calls of a Writer or a Reader an item goes through.
type kind int

const (
	num kind = iota
	whole
	text
)

// item: what one call wrote or read; a text as a string, so that nothing is shared and none is like empty.
type item struct {
	k kind
	n uint64
	i int
	s string
}

func aNum(v uint64) item  { return item{k: num, n: v} }
func anInt(v int) item    { return item{k: whole, i: v} }
func aText(v string) item { return item{k: text, s: v} }

func write(l []item) []byte {
	w := wire.New()
	for _, x := range l {
		switch x.k {
		case num:
			w.Num(x.n)
		case whole:
			w.Int(x.i)
		case text:
			w.Text([]byte(x.s))
		}
	}
	return w.Bytes()
}

func read(r *wire.Reader, k kind) item {
	switch k {
	case num:
		return aNum(r.Num())
	case whole:
		return anInt(r.Int())
	}
	return aText(string(r.Text()))
}

// width: how many bytes an item takes.
func width(x item) int { return 8 + len(x.s) }

// mixed: a row with each kind ahead of and behind each other one, and a text of none in its midst and at its end.
var mixed = []item{
	aNum(7), aText("seven"), anInt(-7), anInt(1 << 40), aNum(math.MaxUint64), aNum(0), aText(""), aText("\x00\xff"), aText("a longer text, of more than eight bytes"), aNum(1), anInt(0), aText(""),
}

// numbers: those at which a byte, a sign or a width is lost first.
var numbers = []uint64{
	0, 1, 2, 127, 128, 255, 256, 257, 0xff00, 1 << 16, 1<<24 - 1, 1<<31 - 1, 1 << 31, 1<<32 - 1, 1 << 32, 1<<32 + 1, 0x0102030405060708, 1<<56 - 1, 1 << 56, 1<<63 - 1, 1 << 63, 1<<63 + 1, math.MaxUint64 - 1, math.MaxUint64,
}

// Promise 2.1: no bytes at first; a number is eight bytes behind those that are there, the highest first.
func TestNumBytes(t *testing.T) {
	w := wire.New()
	if got := w.Bytes(); len(got) != 0 {
		t.Errorf("a new Writer has %x", got)
	}
	var want []byte
	for _, v := range numbers {
		w.Num(v)
		want = binary.BigEndian.AppendUint64(want, v)
		if got := w.Bytes(); !bytes.Equal(got, want) {
			t.Fatalf("behind Num(%d): %x, want %x", v, got, want)
		}
	}
	w = wire.New()
	w.Num(0x0102030405060708)
	if got := w.Bytes(); !bytes.Equal(got, []byte{1, 2, 3, 4, 5, 6, 7, 8}) {
		t.Errorf("Num of 0x0102030405060708: %x", got)
	}
}

// Promise 2.1: an Int is the Num of it, turned as Go turns it.
func TestIntBytes(t *testing.T) {
	for _, x := range []struct {
		n    int
		want []byte
	}{
		{0, []byte{0, 0, 0, 0, 0, 0, 0, 0}},
		{258, []byte{0, 0, 0, 0, 0, 0, 1, 2}},
		{-1, []byte{255, 255, 255, 255, 255, 255, 255, 255}},
		{-256, []byte{255, 255, 255, 255, 255, 255, 255, 0}},
		{math.MaxInt64, []byte{127, 255, 255, 255, 255, 255, 255, 255}},
		{math.MinInt64, []byte{128, 0, 0, 0, 0, 0, 0, 0}},
	} {
		if got := write([]item{anInt(x.n)}); !bytes.Equal(got, x.want) {
			t.Errorf("Int(%d): %x, want %x", x.n, got, x.want)
		}
	}
}

// Promise 2.1: a Text is the Num of its length, and its bytes.
func TestTextBytes(t *testing.T) {
	for _, x := range []struct {
		s    string
		want []byte
	}{
		{"", []byte{0, 0, 0, 0, 0, 0, 0, 0}},
		{"\x00", []byte{0, 0, 0, 0, 0, 0, 0, 1, 0}},
		{"env", []byte{0, 0, 0, 0, 0, 0, 0, 3, 'e', 'n', 'v'}},
		{"\xff\xfe", []byte{0, 0, 0, 0, 0, 0, 0, 2, 255, 254}},
	} {
		if got := write([]item{aText(x.s)}); !bytes.Equal(got, x.want) {
			t.Errorf("Text(%q): %x, want %x", x.s, got, x.want)
		}
	}
	long := bytes.Repeat([]byte{9}, 70000)
	if got, want := write([]item{aText(string(long))}), append([]byte{0, 0, 0, 0, 0, 1, 17, 112}, long...); !bytes.Equal(got, want) {
		t.Errorf("Text of 70000 bytes begins with %x, and has %d", got[:8], len(got))
	}
}

// Promise 2.1: Bytes tells all, in the order in which it was written.
func TestBytesInOrder(t *testing.T) {
	got := write([]item{aText("ab"), aNum(1), anInt(-1), aText(""), aText("c")})
	want := []byte{
		0, 0, 0, 0, 0, 0, 0, 2, 'a', 'b',
		0, 0, 0, 0, 0, 0, 0, 1,
		255, 255, 255, 255, 255, 255, 255, 255,
		0, 0, 0, 0, 0, 0, 0, 0,
		0, 0, 0, 0, 0, 0, 0, 1, 'c',
	}
	if !bytes.Equal(got, want) {
		t.Errorf("got %x, want %x", got, want)
	}
}

// Promises 2.2 and 2.3: what was written is read as it was; only behind the last of it is the Reader done.
func TestReadBack(t *testing.T) {
	long := mixed
	for _, v := range numbers {
		long = append(long, aNum(v), anInt(int(v)), anInt(-int(v)), aText(string(bytes.Repeat([]byte{byte(v)}, int(v%300)))))
	}
	for _, l := range [][]item{{}, {aNum(0)}, {anInt(0)}, {aText("")}, mixed, long} {
		r := wire.Read(write(l))
		for at, want := range l {
			if r.Done() {
				t.Errorf("done ahead of item %d of %d", at, len(l))
			}
			if got := read(r, want.k); got != want {
				t.Errorf("item %d of %d is %v, want %v", at, len(l), got, want)
			}
		}
		if !r.Done() {
			t.Errorf("not done behind %d items", len(l))
		}
	}
}

// Promise 2.2, and the chapter's example: of no bytes nothing is left, but whatever is asked for is not there.
func TestReadNothing(t *testing.T) {
	for _, none := range [][]byte{nil, {}} {
		if !wire.Read(none).Done() {
			t.Error("a Reader of nothing is not done")
		}
		for _, k := range []kind{num, whole, text} {
			r := wire.Read(none)
			if got := read(r, k); got != (item{k: k}) {
				t.Errorf("%v was read of nothing", got)
			}
			if r.Done() {
				t.Errorf("a Reader of nothing is done though %d was asked of it", k)
			}
		}
	}
}

// Promise 2.2: a Reader of a row that is cut, at each place, tells the items that are whole; behind them it is bad.
func TestCut(t *testing.T) {
	row := write(mixed)
	for cut := range len(row) {
		r, end := wire.Read(row[:cut]), 0
		for at, x := range mixed {
			end += width(x)
			want := x
			if end > cut {
				want = item{k: x.k}
			}
			if got := read(r, x.k); got != want {
				t.Errorf("cut at %d: item %d is %v, want %v", cut, at, got, want)
			}
			if got, want := r.Done(), end == cut; got != want {
				t.Errorf("cut at %d: behind item %d Done is %v", cut, at, got)
			}
		}
	}
}

// Promise 2.2: where a number is not whole it is 0, not what is there of it, for each count of bytes that are left.
func TestFewBytes(t *testing.T) {
	for count := 1; count < 8; count++ {
		for _, k := range []kind{num, whole, text} {
			r := wire.Read(bytes.Repeat([]byte{255}, count))
			if r.Done() {
				t.Errorf("done with %d bytes left", count)
			}
			if got := read(r, k); got != (item{k: k}) {
				t.Errorf("%v was read of %d bytes", got, count)
			}
			if r.Done() {
				t.Errorf("done behind what was not there, of %d bytes", count)
			}
		}
	}
}

// Promise 2.2: a Text whose length is above what is left is none, though the bytes that are left would do for what is asked behind it.
func TestLengthAboveWhatIsLeft(t *testing.T) {
	behind := write([]item{aNum(0), aNum(5), aText("five")})
	left := uint64(len(behind))
	for _, v := range []uint64{left + 1, left + 8, 1 << 31, 1<<32 + 1, 1<<32 + left, 1<<63 - 1, 1 << 63, 1<<63 + left, math.MaxUint64 - 7, math.MaxUint64 - 6, math.MaxUint64 - left, math.MaxUint64 - 1, math.MaxUint64} {
		row := append(write([]item{aNum(3), aNum(v)}), behind...)
		r := wire.Read(row)
		if got := r.Num(); got != 3 {
			t.Errorf("length %d: %d is ahead of it", v, got)
		}
		if got := r.Text(); len(got) != 0 {
			t.Errorf("length %d, of %d left: %x", v, left, got)
		}
		for _, k := range []kind{num, num, whole, text, num, text} {
			if got := read(r, k); got != (item{k: k}) {
				t.Errorf("length %d: %v was read of a bad Reader", v, got)
			}
			if r.Done() {
				t.Errorf("length %d: a bad Reader is done", v)
			}
		}
	}
}

// Promise 2.2: a Text whose length is just what is left is there.
func TestLengthOfWhatIsLeft(t *testing.T) {
	r := wire.Read(write([]item{aNum(5), aNum(0)})[:13])
	if got := r.Text(); !bytes.Equal(got, make([]byte, 5)) {
		t.Errorf("the text is %x", got)
	}
	if !r.Done() {
		t.Error("not done behind it")
	}
}

// Promise 2.2: a Reader that is bad stays so, and Done changes nothing.
func TestBadStaysBad(t *testing.T) {
	r := wire.Read(append(write([]item{aNum(1)}), 9))
	for range 2 {
		if r.Done() {
			t.Error("done ahead of what is left")
		}
	}
	r.Num()
	for range 3 {
		if got := r.Num(); got != 0 {
			t.Errorf("%d was read of one byte", got)
		}
		if got := r.Text(); len(got) != 0 {
			t.Errorf("%x was read of a bad Reader", got)
		}
		if r.Done() {
			t.Error("a bad Reader is done")
		}
	}
}

// Promise 2.3: two rows of calls of the same kinds that differ have unlike bytes.
func TestUnlikeRows(t *testing.T) {
	texts := []string{"", "\x00", "a", "b", "ab", "\x00\x00\x00\x00\x00\x00\x00\x00", "\x00\x00\x00\x00\x00\x00\x00\x01", "\x00\x00\x00\x00\x00\x00\x00\x01a"}
	values := []int{0, 1, -1, 256, 1 << 56, math.MaxInt64, math.MinInt64}
	seen := map[string][]item{}
	for _, a := range texts {
		for _, b := range texts {
			for _, v := range values {
				for _, u := range values {
					l := []item{aText(a), anInt(v), aText(b), aNum(uint64(u))}
					row := string(write(l))
					if first, ok := seen[row]; ok {
						t.Fatalf("%v and %v are both %x", first, l, row)
					}
					seen[row] = l
				}
			}
		}
	}
}

// Rule 3: a text that is handed in is not changed, nor the room behind it, and it is not kept.
func TestTextIsNotKept(t *testing.T) {
	room := []byte("abcdefgh")
	w := wire.New()
	w.Text(room[:3])
	w.Num(math.MaxUint64)
	w.Text(room[3:5])
	if string(room) != "abcdefgh" {
		t.Errorf("what was handed in is %q now", room)
	}
	want := write([]item{aText("abc"), aNum(math.MaxUint64), aText("de")})
	copy(room, "xxxxxxxx")
	if got := w.Bytes(); !bytes.Equal(got, want) {
		t.Errorf("behind a change of what was handed in: %x, want %x", got, want)
	}
}

// Rule 3: what Bytes tells is new memory, its spare room too, each time.
func TestBytesAreNew(t *testing.T) {
	for count := range 40 {
		w := wire.New()
		w.Text(make([]byte, count))
		want := slices.Clone(w.Bytes())
		first, second := w.Bytes(), w.Bytes()
		spoil(first)
		if !bytes.Equal(second, want) || !bytes.Equal(w.Bytes(), want) {
			t.Fatalf("%d: a change of what Bytes told is seen elsewhere", count)
		}
		w.Int(-1)
		if !bytes.Equal(second, want) {
			t.Fatalf("%d: a Num changed what Bytes told ahead of it", count)
		}
		spoil(second)
		if got := w.Bytes(); !bytes.Equal(got, append(want, 255, 255, 255, 255, 255, 255, 255, 255)) {
			t.Fatalf("%d: a change of the spare room is seen: %x", count, got)
		}
	}
}

// Rule 3: a row that is handed to Read is not changed, nor the room behind it, and it is not kept.
func TestRowIsNotKept(t *testing.T) {
	row := append(write(mixed), 1, 2, 3, 4)
	before := slices.Clone(row)
	r := wire.Read(row[:len(row)-4])
	for _, x := range mixed {
		spoil([]byte(read(r, x.k).s))
	}
	r.Text()
	if !bytes.Equal(row, before) {
		t.Errorf("what was handed in is %x, was %x", row, before)
	}
	r = wire.Read(row[:len(row)-4])
	spoil(row)
	for at, want := range mixed {
		if got := read(r, want.k); got != want {
			t.Errorf("behind a change of what was handed in: item %d is %v, want %v", at, got, want)
		}
	}
	if !r.Done() {
		t.Error("not done behind it")
	}
}

// Rule 3: a Text that is told is new memory, its spare room too: a change of it is seen neither in the row, nor in what is read behind it, nor in another Text.
func TestTextsAreNew(t *testing.T) {
	row := write([]item{aText("first"), aText("second"), aNum(3), aText("")})
	before := slices.Clone(row)
	r := wire.Read(row)
	first := r.Text()
	spoil(first)
	second := r.Text()
	if string(second) != "second" {
		t.Errorf("the second text is %q", second)
	}
	spoil(first)
	if string(second) != "second" {
		t.Errorf("a change of the first text made the second one %q", second)
	}
	spoil(second)
	if got := r.Num(); got != 3 {
		t.Errorf("a change of a text made the number behind it %d", got)
	}
	spoil(r.Text())
	if !r.Done() || !bytes.Equal(row, before) {
		t.Errorf("the row is %x, was %x", row, before)
	}
}

// Rule 1: nil and an empty list mean the same.
func TestNilIsEmpty(t *testing.T) {
	a, b := wire.New(), wire.New()
	a.Text(nil)
	b.Text([]byte{})
	if !bytes.Equal(a.Bytes(), b.Bytes()) {
		t.Errorf("Text of nil is %x, of an empty list %x", a.Bytes(), b.Bytes())
	}
}

// Two Writers, or two Readers of one row, have nothing in common.
func TestEachAlone(t *testing.T) {
	a, b := wire.New(), wire.New()
	a.Num(1)
	b.Num(2)
	row := a.Bytes()
	if got := b.Bytes(); !bytes.Equal(got, write([]item{aNum(2)})) {
		t.Errorf("the second Writer has %x", got)
	}
	x, y := wire.Read(row), wire.Read(row)
	x.Num()
	x.Num()
	if got := y.Num(); got != 1 || !y.Done() {
		t.Errorf("the second Reader tells %d", got)
	}
}

// Promises 2.2 and 2.4: whatever the bytes are and whatever is asked, no call panics and the answers are those of the model.
func TestAnyBytes(t *testing.T) {
	rnd := rand.New(rand.NewSource(2))
	for range 20000 {
		row := make([]byte, rnd.Intn(60))
		for at := range row {
			// Mostly noughts: else next to no length is one that is there.
			if rnd.Intn(6) == 0 {
				row[at] = byte(rnd.Intn(256) >> rnd.Intn(8))
			}
		}
		asked := make([]kind, rnd.Intn(10))
		for at := range asked {
			asked[at] = kind(rnd.Intn(3))
		}
		check(t, row, asked)
	}
}

func FuzzRead(f *testing.F) {
	f.Add([]byte{}, []byte{})
	f.Add(write(mixed), []byte{0, 2, 1, 1, 0, 0, 2, 2, 2, 0, 1, 2})
	f.Add(write([]item{aNum(math.MaxUint64), aNum(1)}), []byte{2, 0})
	f.Fuzz(func(t *testing.T, row, asks []byte) {
		asked := make([]kind, len(asks))
		for at, a := range asks {
			asked[at] = kind(a % 3)
		}
		check(t, row, asked)
	})
}

// check holds a Reader of row against a model of it that is written another way.
func check(t *testing.T, row []byte, asked []kind) {
	t.Helper()
	r, m := wire.Read(row), &model{row: row}
	for at, k := range asked {
		if got, want := read(r, k), m.read(k); got != want {
			t.Fatalf("%x, asked %v: item %d is %v, want %v", row, asked, at, got, want)
		}
		if got, want := r.Done(), !m.bad && m.at == len(row); got != want {
			t.Fatalf("%x, asked %v: behind item %d Done is %v", row, asked, at, got)
		}
	}
}

// model: a Reader by a place in the row.
type model struct {
	row []byte
	at  int
	bad bool
}

func (m *model) num() uint64 {
	if m.bad || len(m.row)-m.at < 8 {
		m.bad = true
		return 0
	}
	m.at += 8
	return binary.BigEndian.Uint64(m.row[m.at-8:])
}

func (m *model) read(k kind) item {
	v := m.num()
	switch k {
	case num:
		return aNum(v)
	case whole:
		return anInt(int(v))
	}
	if m.bad || v > uint64(len(m.row)-m.at) {
		m.bad = true
		return aText("")
	}
	m.at += int(v)
	return aText(string(m.row[m.at-int(v) : m.at]))
}

// spoil changes each byte of b, and of the spare room behind it.
func spoil(b []byte) {
	b = b[:cap(b)]
	for at := range b {
		b[at] ^= 0x5a
	}
}
