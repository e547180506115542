package term_test

import (
	"bytes"
	"encoding/binary"
	"math"
	"math/rand"
	"slices"
	"strings"
	"testing"

	"tolsey/term"
)

// ask asks the digest of each row, in order, and tells all that was answered.
func ask(a *term.Arena, rows ...string) []int {
	var l []int
	for _, row := range rows {
		l = append(l, a.Digest([]byte(row)))
	}
	return l
}

// told asks what row a digest is of, where it must be one.
func told(t *testing.T, a *term.Arena, d int) []byte {
	t.Helper()
	b, ok := a.Of(d)
	if !ok {
		t.Fatalf("Of(%d) is false, though there are %d", d, a.Len())
	}
	return b
}

// holds says where an arena has not just these rows, in the order of their digests.
func holds(t *testing.T, a *term.Arena, rows ...string) {
	t.Helper()
	if got := a.Len(); got != len(rows) {
		t.Errorf("Len is %d, with %d rows", got, len(rows))
	}
	for i, row := range rows {
		if b := told(t, a, i+1); string(b) != row {
			t.Errorf("Of(%d) is %q, not %q", i+1, b, row)
		}
	}
}

// Promise 3.1: digests are numbers from 1 on, in the order in which they were first asked; asked again, a row has the one that it has.
func TestDigestOrder(t *testing.T) {
	for _, c := range []struct {
		name string
		asks []string
		want []int
		rows []string
	}{
		{"nothing asked", nil, nil, nil},
		{"one row", []string{"a"}, []int{1}, []string{"a"}},
		{"no bytes, first", []string{""}, []int{1}, []string{""}},
		{"no bytes, later and again", []string{"a", "", "", "b", ""}, []int{1, 2, 2, 3, 2}, []string{"a", "", "b"}},
		{"rising rows", []string{"a", "b", "c"}, []int{1, 2, 3}, []string{"a", "b", "c"}},
		{"falling rows", []string{"c", "b", "a"}, []int{1, 2, 3}, []string{"c", "b", "a"}},
		{"short rows last", []string{"long", "lon", "l"}, []int{1, 2, 3}, []string{"long", "lon", "l"}},
		{"again at once", []string{"a", "a", "a"}, []int{1, 1, 1}, []string{"a"}},
		{"again after others", []string{"a", "b", "a", "c", "b", "a", "d"}, []int{1, 2, 1, 3, 2, 1, 4}, []string{"a", "b", "c", "d"}},
		{"again, backwards", []string{"a", "b", "c", "c", "b", "a"}, []int{1, 2, 3, 3, 2, 1}, []string{"a", "b", "c"}},
	} {
		a := term.New()
		if got := ask(a, c.asks...); !slices.Equal(got, c.want) {
			t.Errorf("%s: Digest answers %v, not %v", c.name, got, c.want)
		}
		holds(t, a, c.rows...)
	}
}

// Promise 3.1: an arena's digests hang on what it was asked itself, and on nothing that another one was asked.
func TestTwoArenas(t *testing.T) {
	a, b := term.New(), term.New()
	for _, c := range []struct {
		arena *term.Arena
		row   string
		want  int
	}{
		{a, "x", 1}, {a, "y", 2}, {b, "y", 1}, {a, "z", 3}, {b, "x", 2}, {b, "", 3}, {a, "y", 2}, {b, "y", 1}, {a, "", 4},
	} {
		if got := c.arena.Digest([]byte(c.row)); got != c.want {
			t.Errorf("Digest(%q) is %d, not %d", c.row, got, c.want)
		}
	}
	holds(t, a, "x", "y", "z", "")
	holds(t, b, "y", "x", "")
	if _, ok := b.Of(4); ok {
		t.Error("the other arena's digest is one here")
	}
}

// Promise 3.1: Of is false of a number that no row has, and none gets a digest by it; Rule 4: no bytes are told beside a false.
func TestOfNone(t *testing.T) {
	a := term.New()
	for size := range 4 {
		for _, d := range []int{0, -1, -2, -size, size + 1, size + 2, math.MinInt, math.MinInt + 1, math.MaxInt, 1 << 32, 1<<32 + 1} {
			if b, ok := a.Of(d); ok || len(b) != 0 {
				t.Errorf("of %d digests, Of(%d) is %q, %v", size, d, b, ok)
			}
		}
		if a.Len() != size {
			t.Fatalf("Len is %d, not %d, after Of was asked", a.Len(), size)
		}
		if got := ask(a, strings.Repeat("r", size)); got[0] != size+1 {
			t.Fatalf("Digest is %d, not %d, after Of was asked", got[0], size+1)
		}
	}
}

// Promise 3.1: no bytes have a digest as any row has; Rule 1: none and empty are the same.
func TestNoBytes(t *testing.T) {
	for _, first := range [][]byte{nil, {}, []byte("abc")[1:1]} {
		a := term.New()
		if got := a.Digest(first); got != 1 {
			t.Errorf("Digest of nothing is %d in a new arena", got)
		}
		for _, b := range [][]byte{nil, {}, make([]byte, 0, 9)} {
			if got := a.Digest(b); got != 1 {
				t.Errorf("Digest of nothing is %d, and was 1", got)
			}
		}
		if got := ask(a, "\x00"); got[0] != 2 {
			t.Errorf("a byte of 0 has the digest %d, beside that of nothing", got[0])
		}
		holds(t, a, "", "\x00")
	}
}

// alike tells row, and rows that are like it but for one byte, or for one more or less at an end.
func alike(row string) []string {
	l := []string{row, row + row}
	for i := range len(row) {
		for bit := range 8 {
			b := []byte(row)
			b[i] ^= 1 << bit
			l = append(l, string(b))
		}
	}
	for _, more := range []string{"\x00", "\x01", "\xff", " ", "\n"} {
		l = append(l, row+more, more+row)
	}
	for cut := range len(row) {
		l = append(l, row[:cut], row[cut+1:])
	}
	slices.Sort(l)
	return slices.Compact(l)
}

// Promise 3.2: rows that differ have unlike digests, however little they differ, and one that is the same has the same.
func TestAlike(t *testing.T) {
	for _, row := range []string{
		"", "\x00", "\x00\x00", "\xff", "a", "ab", "aa", "A long row of some words.", "\xc3\xa4", "\xff\xfe\xed\xa0\x80", "\xef\xbf\xbd", strings.Repeat("\x00", 40),
	} {
		rows := alike(row)
		a := term.New()
		for i, got := range ask(a, rows...) {
			if got != i+1 {
				t.Fatalf("beside %q: %q has the digest %d, not %d", row, rows[i], got, i+1)
			}
		}
		for i, got := range ask(a, rows...) {
			if got != i+1 {
				t.Fatalf("beside %q: %q has the digest %d, and had %d", row, rows[i], got, i+1)
			}
		}
		holds(t, a, rows...)
	}
}

// Promise 3.2: long rows too, that differ in their last, first or middle byte only, or in their length.
func TestLongRows(t *testing.T) {
	const size = 1 << 16
	a := term.New()
	var rows []string
	for _, place := range []int{0, 1, 31, 32, 255, 256, size / 2, size - 2, size - 1} {
		b := bytes.Repeat([]byte{7}, size)
		b[place] = 8
		rows = append(rows, string(b))
	}
	for _, length := range []int{size, size - 1, size + 1, size / 2, 256, 255} {
		rows = append(rows, strings.Repeat("\x07", length))
	}
	for range 2 {
		for i, got := range ask(a, rows...) {
			if got != i+1 {
				t.Errorf("row %d has the digest %d", i+1, got)
			}
		}
	}
	holds(t, a, rows...)
}

// Promise 3.2: all rows of up to two bytes, each unlike each other.
func TestAllShortRows(t *testing.T) {
	rows := []string{""}
	for i := range 256 {
		rows = append(rows, string([]byte{byte(i)}))
		for j := range 256 {
			rows = append(rows, string([]byte{byte(i), byte(j)}))
		}
	}
	a := term.New()
	for range 2 {
		for i, got := range ask(a, rows...) {
			if got != i+1 {
				t.Fatalf("%q has the digest %d, not %d", rows[i], got, i+1)
			}
		}
	}
	holds(t, a, rows...)
}

// Promise 3.2: so many rows that numbers of 32 bits made of them would meet.
func TestManyRows(t *testing.T) {
	const many = 300000
	a := term.New()
	for range 2 {
		for i := range uint64(many) {
			// An odd factor: no two of the products are the same.
			row := binary.BigEndian.AppendUint64(nil, i*0x9e3779b97f4a7c15)
			if got := a.Digest(row); got != int(i)+1 {
				t.Fatalf("%x has the digest %d, not %d", row, got, i+1)
			}
		}
	}
	if got := a.Len(); got != many {
		t.Errorf("Len is %d, not %d", got, many)
	}
}

// Rule 3: bytes that are handed in are neither changed nor kept, nor the room behind them.
func TestHandedIn(t *testing.T) {
	a := term.New()
	room := []byte("row and room")
	row := room[:3]
	for range 2 {
		if got := a.Digest(row); got != 1 {
			t.Fatalf("Digest is %d, not 1", got)
		}
		if string(room) != "row and room" {
			t.Fatalf("what was handed in is %q", room)
		}
	}
	copy(room, "ROW")
	holds(t, a, "row")
	if got := a.Digest(row); got != 2 {
		t.Errorf("the changed row has the digest %d, not 2", got)
	}
	copy(room, "row")
	if got := a.Digest(row); got != 1 {
		t.Errorf("the row, as it was, has the digest %d, not 1", got)
	}
	clear(room)
	holds(t, a, "row", "ROW")
	if got := ask(a, "ROW", "row"); !slices.Equal(got, []int{2, 1}) {
		t.Errorf("Digest answers %v, not [2 1]", got)
	}
}

// spoil changes all that a list shares with anything: its bytes, and the room behind them.
func spoil(b []byte) {
	for i := range b[:cap(b)] {
		b[:cap(b)][i] ^= 0xff
	}
}

// Rule 3: bytes that are told are new memory, and so is the room behind them.
func TestTold(t *testing.T) {
	rows := []string{"a", "", "ab", "a row of more bytes than a word or two has", "abc"}
	a := term.New()
	ask(a, rows...)
	for i := range rows {
		first, second := told(t, a, i+1), told(t, a, i+1)
		spoil(first)
		if string(second) != rows[i] {
			t.Errorf("Of(%d) told %q twice in one memory", i+1, rows[i])
		}
		spoil(second)
		holds(t, a, rows...)
	}
	for i, got := range ask(a, rows...) {
		if got != i+1 {
			t.Errorf("%q has the digest %d, not %d, after what was told was changed", rows[i], got, i+1)
		}
	}
}

// Rule 3: what was told stays as it was, whatever is asked behind it.
func TestToldStays(t *testing.T) {
	a := term.New()
	ask(a, "stays")
	b := told(t, a, 1)
	for i := range 1000 {
		ask(a, strings.Repeat("more", i))
	}
	if string(b) != "stays" {
		t.Errorf("what was told is %q now", b)
	}
}

// Promises 3.1, 3.2: any asks, held against a list that is looked through from its beginning on.
func TestAgainstList(t *testing.T) {
	rnd := rand.New(rand.NewSource(3))
	for range 200 {
		a := term.New()
		var list []string
		for range 100 {
			row := make([]byte, rnd.Intn(4))
			for i := range row {
				row[i] = byte(rnd.Intn(3)) * 127
			}
			want := slices.Index(list, string(row)) + 1
			if want == 0 {
				list = append(list, string(row))
				want = len(list)
			}
			if got := a.Digest(row); got != want {
				t.Fatalf("behind %q: Digest(%q) is %d, not %d", list, row, got, want)
			}
			d := rnd.Intn(len(list)+4) - 2
			b, ok := a.Of(d)
			if there := d >= 1 && d <= len(list); ok != there || ok && string(b) != list[d-1] || !ok && len(b) != 0 {
				t.Fatalf("of %q: Of(%d) is %q, %v", list, d, b, ok)
			}
			spoil(b)
			spoil(row)
		}
		holds(t, a, list...)
	}
}

// Promises 3.2, 3.3: any two rows and any number.
func FuzzTwoRows(f *testing.F) {
	f.Add([]byte(nil), []byte("a"), 0)
	f.Add([]byte("ab"), []byte("ab"), 1)
	f.Add([]byte{0}, []byte{0, 0}, 2)
	f.Add([]byte{255}, []byte{254}, math.MinInt)
	f.Fuzz(func(t *testing.T, x, y []byte, d int) {
		a := term.New()
		first, second := a.Digest(x), a.Digest(y)
		if first != 1 || (first == second) != bytes.Equal(x, y) || second != a.Len() {
			t.Fatalf("%q and %q have the digests %d and %d of %d", x, y, first, second, a.Len())
		}
		b, ok := a.Of(d)
		if ok != (d >= 1 && d <= second) || ok && d == 1 && !bytes.Equal(b, x) || ok && d == 2 && !bytes.Equal(b, y) || !ok && len(b) != 0 {
			t.Fatalf("of %q and %q, Of(%d) is %q, %v", x, y, d, b, ok)
		}
	})
}
