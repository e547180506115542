package seal_test

import (
	"bytes"
	"math"
	"math/rand"
	"slices"
	"strings"
	"testing"

	"tolsey/seal"
)

// one says what was sealed once, and all who shared it, as often as they did.
type one struct {
	label int
	plain string
	by    []int
}

// edges: numbers at which a label, who or a cipher could be taken for none, or for another number.
var edges = []int{
	0, 1, 2, 3, -1, -2, -3, 255, 256, -256,
	math.MaxInt32, math.MaxInt32 + 1, math.MinInt32, math.MinInt32 - 1, 1 << 32, 1<<32 + 1, -1 << 32, 1 - 1<<32,
	math.MaxInt - 1, math.MaxInt, math.MinInt, math.MinInt + 1,
}

// filled tells a new vault in which all of l were sealed and then shared, in order.
func filled(t *testing.T, need int, l ...one) *seal.Vault {
	t.Helper()
	v := seal.New(need)
	for i, x := range l {
		if got := v.Seal(x.label, []byte(x.plain)); got != i+1 {
			t.Fatalf("the cipher is %d, not %d", got, i+1)
		}
	}
	for i, x := range l {
		share(t, v, i+1, x.by...)
	}
	return v
}

// share has each of by share a cipher, which must be one.
func share(t *testing.T, v *seal.Vault, cipher int, by ...int) {
	t.Helper()
	for _, who := range by {
		if !v.Share(who, cipher) {
			t.Fatalf("Share(%d, %d) is false, though there are %d", who, cipher, v.Len())
		}
	}
}

// opened tells a cipher's text, which must be open under label.
func opened(t *testing.T, v *seal.Vault, label, cipher int) []byte {
	t.Helper()
	b, ok := v.Open(label, cipher)
	if !ok {
		t.Fatalf("Open(%d, %d) is false; shared by %v", label, cipher, v.Shares(cipher))
	}
	return b
}

// shut says where a cipher is open under label, or where bytes are told beside a false (Rule 4).
func shut(t *testing.T, v *seal.Vault, label, cipher int) {
	t.Helper()
	if b, ok := v.Open(label, cipher); ok || len(b) != 0 {
		t.Errorf("Open(%d, %d) is %q, %v; shared by %v of %d", label, cipher, b, ok, v.Shares(cipher), v.Len())
	}
}

// sharers tells by, rising, each once, by a way of its own.
func sharers(by []int) []int {
	var all []int
	for _, who := range by {
		if !slices.Contains(all, who) {
			all = append(all, who)
		}
	}
	slices.Sort(all)
	return all
}

// holds says where a vault has not just what l says, asked with each of these numbers, as who and as label.
func holds(t *testing.T, v *seal.Vault, need int, l []one, numbers ...int) {
	t.Helper()
	if got := v.Len(); got != len(l) {
		t.Errorf("Len is %d, with %d ciphers", got, len(l))
	}
	for i, x := range l {
		cipher, want := i+1, sharers(x.by)
		if got := v.Shares(cipher); !slices.Equal(got, want) {
			t.Errorf("Shares(%d) is %v, not %v", cipher, got, want)
		}
		for _, n := range append([]int{x.label}, numbers...) {
			if got, want := v.Shared(n, cipher), slices.Contains(want, n); got != want {
				t.Errorf("Shared(%d, %d) is %v, not %v", n, cipher, got, want)
			}
			if n != x.label || len(want) < need || len(want) == 0 {
				shut(t, v, n, cipher)
			} else if b := opened(t, v, n, cipher); string(b) != x.plain {
				t.Errorf("Open(%d, %d) is %q, not %q", n, cipher, b, x.plain)
			}
		}
	}
	none(t, v)
}

// none says where a number that is no cipher is taken for one.
func none(t *testing.T, v *seal.Vault) {
	t.Helper()
	size := v.Len()
	for _, cipher := range append([]int{size + 1, size + 2, -size, -size - 1, size - 1<<32, size + 1<<32}, edges...) {
		if cipher >= 1 && cipher <= size {
			continue
		}
		if got := v.Shares(cipher); len(got) != 0 {
			t.Errorf("of %d ciphers, Shares(%d) is %v", size, cipher, got)
		}
		for _, n := range []int{0, 1, 2, -1, cipher, size, math.MinInt, math.MaxInt} {
			if v.Share(n, cipher) {
				t.Errorf("of %d ciphers, Share(%d, %d) is true", size, n, cipher)
			}
			if v.Shared(n, cipher) {
				t.Errorf("of %d ciphers, Shared(%d, %d) is true", size, n, cipher)
			}
			shut(t, v, n, cipher)
		}
	}
	if v.Len() != size {
		t.Errorf("Len is %d, not %d, after numbers that are no ciphers were shared", v.Len(), size)
	}
}

// Promise 5.1, and the chapter's example: a new vault has no cipher, whatever need is, and asking makes none.
func TestNew(t *testing.T) {
	for _, need := range edges {
		v := seal.New(need)
		if b, ok := v.Open(0, 1); ok || len(b) != 0 {
			t.Errorf("need %d: Open(0, 1) is %q, %v in a new vault", need, b, ok)
		}
		for range 2 {
			holds(t, v, need, nil, edges...)
		}
	}
}

// Promises 5.1, 5.2: ciphers are numbers from 1 on, one for each Seal, whatever is sealed, and under whatever label.
func TestNumbers(t *testing.T) {
	for _, c := range []struct {
		name string
		l    []one
	}{
		{"one", []one{{7, "a", nil}}},
		{"no bytes", []one{{7, "", nil}}},
		{"alike, of one label", []one{{7, "a", nil}, {7, "a", nil}, {7, "a", nil}}},
		{"alike, of several labels", []one{{7, "a", nil}, {8, "a", nil}, {7, "a", nil}, {6, "a", nil}}},
		{"not alike", []one{{7, "a", nil}, {7, "b", nil}, {7, "c", nil}}},
		{"falling", []one{{9, "c", nil}, {8, "b", nil}, {7, "a", nil}}},
		{"no bytes, again", []one{{7, "", nil}, {7, "", nil}, {8, "a", nil}, {8, "", nil}}},
		{"one the other's beginning", []one{{7, "abc", nil}, {7, "ab", nil}, {7, "a", nil}, {7, "", nil}, {7, "abcd", nil}}},
		{"bytes of 0", []one{{7, "\x00", nil}, {7, "", nil}, {7, "\x00\x00", nil}}},
		{"many bytes", []one{{7, strings.Repeat("many", 20000), nil}, {7, "few", nil}, {7, strings.Repeat("many", 20000), nil}}},
		{"labels below 0", []one{{-1, "a", nil}, {math.MinInt, "a", nil}, {0, "a", nil}, {math.MaxInt, "a", nil}}},
	} {
		v := seal.New(1)
		for i, x := range c.l {
			if got := v.Seal(x.label, []byte(x.plain)); got != i+1 {
				t.Errorf("%s: the cipher is %d, not %d", c.name, got, i+1)
			}
			holds(t, v, 1, c.l[:i+1], 6, 7, 8, 9)
		}
		// Shared and opened, they have the texts and the labels that they were sealed with.
		shared := slices.Clone(c.l)
		for i := range shared {
			shared[i].by = []int{i}
			share(t, v, i+1, i)
		}
		holds(t, v, 1, shared, 0, 1, 2, 3, 4, 6, 7, 8, 9)
	}
}

// Promise 5.1: numbers go on from where they were, when ciphers were shared, opened and asked between.
func TestNumbersGoOn(t *testing.T) {
	v := seal.New(1)
	var l []one
	for n := range 50 {
		l = append(l, one{n % 3, strings.Repeat("x", n%4), nil})
		if got := v.Seal(l[n].label, []byte(l[n].plain)); got != n+1 {
			t.Fatalf("the cipher is %d, not %d", got, n+1)
		}
		// Each other one of what there is by now.
		for i := n % 2; i <= n; i += 2 {
			share(t, v, i+1, n)
			l[i].by = append(l[i].by, n)
			v.Open(l[i].label, i+1)
			v.Open(l[i].label+1, i+1)
		}
		holds(t, v, 1, l, 0, 1, 2, n-1, n)
	}
}

// Promise 5.1: who shared is told by Share, Shared and Shares, from then on, however often and in whatever order they did.
func TestShare(t *testing.T) {
	for _, c := range []struct {
		name string
		by   []int
		want []int
	}{
		{"nobody", nil, nil},
		{"one", []int{4}, []int{4}},
		{"one, again and again", []int{4, 4, 4}, []int{4}},
		{"rising", []int{1, 2, 3}, []int{1, 2, 3}},
		{"falling", []int{3, 2, 1}, []int{1, 2, 3}},
		{"neither", []int{2, 3, 1}, []int{1, 2, 3}},
		{"again at once", []int{2, 2, 1, 1}, []int{1, 2}},
		{"again after others", []int{2, 1, 2, 3, 1, 2}, []int{1, 2, 3}},
		{"by number, not by text", []int{10, 9, 100, -10, -9}, []int{-10, -9, 9, 10, 100}},
		{"around 0", []int{1, -1, 0}, []int{-1, 0, 1}},
		{"the least and the greatest", []int{math.MaxInt, 0, math.MinInt}, []int{math.MinInt, 0, math.MaxInt}},
		{"numbers of ciphers and the label", []int{3, 2, 1, 70}, []int{1, 2, 3, 70}},
	} {
		l := []one{{70, "ahead", nil}, {70, "text", nil}, {70, "behind", nil}}
		v := filled(t, 2, l...)
		for _, who := range c.by {
			if !v.Share(who, 2) {
				t.Errorf("%s: Share(%d, 2) is false", c.name, who)
			}
			l[1].by = append(l[1].by, who)
			holds(t, v, 2, l, append([]int{9, 10, 100, 70, 71}, edges...)...)
		}
		if got := v.Shares(2); !slices.Equal(got, c.want) {
			t.Errorf("%s: Shares(2) is %v, not %v", c.name, got, c.want)
		}
	}
}

// Promise 5.1: whatever the order in which several share, and each as often as another one, Shares is the same.
func TestOrders(t *testing.T) {
	for _, order := range [][]int{
		{1, 2, 3}, {1, 3, 2}, {2, 1, 3}, {2, 3, 1}, {3, 1, 2}, {3, 2, 1},
	} {
		l := []one{{5, "text", nil}}
		v := filled(t, 3, l...)
		for range 2 {
			for _, who := range order {
				share(t, v, 1, who)
				l[0].by = append(l[0].by, who)
				holds(t, v, 3, l, 0, 1, 2, 3, 4, 5)
			}
		}
	}
}

// Promise 5.1: one cipher's shares are no other one's, of a text and a label that are alike neither.
func TestEachForItself(t *testing.T) {
	l := []one{{1, "a", []int{1, 2}}, {1, "a", nil}, {1, "a", []int{3}}, {2, "a", []int{2, 1, 3}}, {1, "b", []int{2}}}
	holds(t, filled(t, 2, l...), 2, l, edges...)
	slices.Reverse(l)
	holds(t, filled(t, 2, l...), 2, l, edges...)
}

// Promise 5.1: nobody takes a share back, and a cipher that is open stays open, whatever is sealed or shared later.
func TestStays(t *testing.T) {
	v := filled(t, 2, one{7, "text", []int{5, 6}})
	for n := range 2000 {
		cipher := v.Seal(n, []byte("more"))
		share(t, v, cipher, n+10)
		share(t, v, 1, n+10)
		if !v.Shared(5, 1) || !v.Shared(6, 1) || v.Shared(5, cipher) {
			t.Fatalf("Shared is mistaken after %d more ciphers", n+1)
		}
		if got := opened(t, v, 7, 1); string(got) != "text" {
			t.Fatalf("the text is %q after %d more ciphers", got, n+1)
		}
		shut(t, v, n, cipher)
	}
	if got := v.Shares(1); len(got) != 2002 || !slices.IsSorted(got) || got[0] != 5 || got[2001] != 2009 {
		t.Errorf("Shares(1) has %d, sorted %v", len(got), slices.IsSorted(got))
	}
}

// Promise 5.1: one too few don't open a cipher, however often they share it; just as many as are needed do, and more do.
func TestNeed(t *testing.T) {
	for need := 1; need <= 8; need++ {
		l := []one{{3, "text", nil}, {3, "other", nil}}
		v := filled(t, need, l...)
		for n := range need + 3 {
			for range 3 {
				holds(t, v, need, l, 0, 2, 3, 4)
				// Falling, so that the order in which they share isn't that in which they are told.
				share(t, v, 1, 100-n)
				l[0].by = append(l[0].by, 100-n)
			}
			if _, ok := v.Open(3, 1); ok != (n+1 >= need) {
				t.Errorf("need %d: Open is %v, shared by %d", need, ok, n+1)
			}
		}
		holds(t, v, need, l, 0, 2, 3, 4, 98, 99, 100, 101)
	}
}

// Promise 5.1: at least one is needed: where need is 0 or below, one opens a cipher, and nobody does not.
func TestNeedBelowOne(t *testing.T) {
	for _, need := range []int{1, 0, -1, -2, math.MinInt32, math.MinInt + 1, math.MinInt} {
		l := []one{{3, "text", nil}, {3, "", nil}}
		v := filled(t, need, l...)
		holds(t, v, 1, l, 0, 3, 4)
		share(t, v, 2, 9)
		l[1].by = []int{9}
		holds(t, v, 1, l, 0, 3, 4, 9)
		share(t, v, 1, 0)
		l[0].by = []int{0}
		holds(t, v, 1, l, 0, 3, 4, 9)
	}
}

// Promise 5.1: where more are needed than ever share, a cipher stays shut, at the greatest need too.
func TestNeedGreat(t *testing.T) {
	for _, need := range []int{201, 1 << 31, 1 << 32, 1<<32 + 1, math.MaxInt - 1, math.MaxInt} {
		l := []one{{3, "text", nil}}
		v := filled(t, need, l...)
		for who := range 200 {
			share(t, v, 1, who)
			l[0].by = append(l[0].by, who)
			shut(t, v, 3, 1)
		}
		holds(t, v, need, l, -1, 0, 3, 199, 200)
	}
}

// Promise 5.1: a cipher opens under the label that it was sealed under, and under no other one, at the edges too.
func TestLabels(t *testing.T) {
	var l []one
	for _, label := range edges {
		l = append(l, one{label, "text", []int{1, 2}})
	}
	holds(t, filled(t, 2, l...), 2, l, edges...)
	for _, label := range append([]int{1000, -54321}, edges...) {
		v := filled(t, 1, one{label, "text", []int{label}})
		for bit := range 64 {
			shut(t, v, label^1<<bit, 1)
		}
		if got := opened(t, v, label, 1); string(got) != "text" {
			t.Errorf("under %d the text is %q", label, got)
		}
	}
}

// Promise 5.1: any numbers share, and numbers that are alike but for one bit of who, or of the cipher, are others.
func TestWho(t *testing.T) {
	const many = 70
	for _, who := range append([]int{1000, -54321}, edges...) {
		l := make([]one, many)
		l[32].by = []int{who}
		v := filled(t, 1, l...)
		holds(t, v, 1, l, who)
		for bit := range 64 {
			if v.Shared(who^1<<bit, 33) || v.Shared(who, 33^1<<bit) {
				t.Errorf("%d shared 33, and so did another one, or it another one, at bit %d", who, bit)
			}
		}
	}
}

// Promise 5.1: a text is told as it was sealed, of whatever bytes and however many.
func TestTexts(t *testing.T) {
	all := make([]byte, 256)
	for i := range all {
		all[i] = byte(i)
	}
	var l []one
	for _, plain := range []string{
		"", "\x00", "\x00\x00", "\xff", "a", "a\x00", "\x00a", "\xc3\xa4", "\xff\xfe\xed\xa0\x80", "\xef\xbf\xbd", " a\n", string(all),
		strings.Repeat("\x00", 56), strings.Repeat("\x07", 1<<16), strings.Repeat("\x07", 1<<16-1),
	} {
		l = append(l, one{5, plain, []int{0}})
	}
	holds(t, filled(t, 1, l...), 1, l, 0, 5)
}

// Rule 1: no bytes and an empty row are the same; a cipher of them opens as any does.
func TestNoBytes(t *testing.T) {
	for _, plain := range [][]byte{nil, {}, make([]byte, 0, 9), []byte("abc")[1:1]} {
		v := seal.New(1)
		if got := v.Seal(0, plain); got != 1 {
			t.Errorf("the cipher is %d, not 1", got)
		}
		shut(t, v, 0, 1)
		share(t, v, 1, 0)
		if got := opened(t, v, 0, 1); len(got) != 0 {
			t.Errorf("of no bytes, %q was told", got)
		}
		shut(t, v, 1, 1)
	}
}

// Promise 5.1: a vault's ciphers and shares hang on what was done to it, and on nothing that was done to another one.
func TestTwoVaults(t *testing.T) {
	first := filled(t, 1, one{1, "a", []int{1}}, one{2, "b", []int{2}})
	second := filled(t, 2, one{2, "c", []int{3}})
	holds(t, first, 1, []one{{1, "a", []int{1}}, {2, "b", []int{2}}}, 0, 1, 2, 3)
	holds(t, second, 2, []one{{2, "c", []int{3}}}, 0, 1, 2, 3)
	share(t, second, 1, 2)
	if got := second.Seal(9, nil); got != 2 {
		t.Errorf("the second one's next cipher is %d, not 2", got)
	}
	holds(t, first, 1, []one{{1, "a", []int{1}}, {2, "b", []int{2}}}, 0, 1, 2, 3)
	holds(t, second, 2, []one{{2, "c", []int{3, 2}}, {9, "", nil}}, 0, 1, 2, 3, 9)
}

// Promise 5.1: a number that is no cipher can't be shared ahead: the cipher that gets it is shared by nobody.
func TestNotAhead(t *testing.T) {
	v := seal.New(1)
	for n := 1; n <= 20; n++ {
		for who := range 4 {
			if v.Share(who, n) {
				t.Fatalf("Share(%d, %d) is true of %d ciphers", who, n, v.Len())
			}
		}
		if got := v.Seal(1, []byte("text")); got != n {
			t.Fatalf("the cipher is %d, not %d", got, n)
		}
		if got := v.Shares(n); len(got) != 0 {
			t.Fatalf("Shares(%d) is %v ahead of all shares", n, got)
		}
		shut(t, v, 1, n)
	}
}

// told is all that a vault tells of what was done, but the texts.
type told struct {
	ciphers         []int
	shared, is, may []bool
	shares          [][]int
}

// script has texts sealed under several labels and shared by several, one behind the other, and tells what is told of it, and all that is told as texts ahead of enough shares.
func script(v *seal.Vault, texts []string) (told, []string) {
	var l told
	var early []string
	for i, plain := range texts {
		l.ciphers = append(l.ciphers, v.Seal(i%3, []byte(plain)), v.Len())
		for who := range 4 {
			cipher := (i*7+who*5)%(len(texts)+2) - 1
			l.shared = append(l.shared, v.Share(who*i%5, cipher))
			l.is = append(l.is, v.Shared(who, cipher), v.Shared(who, i+1))
			l.shares = append(l.shares, v.Shares(cipher), v.Shares(i+1))
			b, ok := v.Open((cipher-1)%3, cipher)
			l.may = append(l.may, ok)
			if len(v.Shares(cipher)) < 2 {
				early = append(early, string(b))
			}
		}
	}
	return l, early
}

// alike says whether two vaults told the same.
func alike(a, b told) bool {
	return slices.Equal(a.ciphers, b.ciphers) && slices.Equal(a.shared, b.shared) && slices.Equal(a.is, b.is) && slices.Equal(a.may, b.may) && slices.EqualFunc(a.shares, b.shares, slices.Equal)
}

// Promise 5.2, W3: all that is told of ciphers and of who shared them is the same, whatever is in them; what is in them isn't told ahead of enough shares.
func TestNothingOfWhatIsIn(t *testing.T) {
	const many = 30
	var want told
	for i, text := range []func(n int) string{
		func(int) string { return "" },
		func(int) string { return "one text" },
		func(n int) string { return strings.Repeat("x", n) },
		func(n int) string { return strings.Repeat("x", many-n) },
		func(n int) string { return string([]byte{byte(n)}) },
		func(n int) string { return string([]byte{byte(n % 2)}) },
		func(n int) string { return strings.Repeat("\xff", n*n*n) },
	} {
		var texts []string
		for n := range many {
			texts = append(texts, text(n))
		}
		got, early := script(seal.New(2), texts)
		if i == 0 {
			want = got
		}
		if !alike(got, want) {
			t.Errorf("texts %d: other answers than of texts of no bytes", i)
		}
		for n, b := range early {
			if b != "" {
				t.Errorf("texts %d: %q was told ahead of enough shares, at %d", i, b, n)
			}
		}
	}
	if !slices.Contains(want.may, true) || !slices.Contains(want.may, false) || !slices.Contains(want.shared, true) || !slices.Contains(want.shared, false) {
		t.Error("the script says too little")
	}
}

// Promise 5.2, W3: nor do they hang on what the other texts are: each two of a few, one beside the other.
func TestNothingOfOthers(t *testing.T) {
	texts := []string{"", "\x00", "a", "b", "ab", strings.Repeat("a", 300)}
	for _, x := range texts {
		for _, y := range texts {
			l := []one{{1, x, []int{2}}, {1, y, []int{3, 1}}, {1, x, nil}}
			v := filled(t, 2, l...)
			holds(t, v, 2, l, 0, 1, 2, 3)
			if got := v.Seal(2, []byte(y)); got != 4 {
				t.Errorf("behind %q and %q the cipher is %d, not 4", x, y, got)
			}
		}
	}
}

// Rule 3: bytes that are handed in are neither changed nor kept, nor the room behind them.
func TestHandedIn(t *testing.T) {
	v := seal.New(1)
	room := []byte("row and room")
	for range 2 {
		share(t, v, v.Seal(1, room[:3]), 5)
		if string(room) != "row and room" {
			t.Fatalf("what was handed in is %q", room)
		}
	}
	copy(room, "ROW")
	share(t, v, v.Seal(1, room[:3]), 5)
	clear(room)
	holds(t, v, 1, []one{{1, "row", []int{5}}, {1, "row", []int{5}}, {1, "ROW", []int{5}}}, 1, 5)
	if !bytes.Equal(room, make([]byte, len(room))) {
		t.Errorf("what was handed in is %q behind the calls", room)
	}
}

// spoil changes all that a list shares with anything: what is in it, and in the room behind it.
func spoil[T int | byte](l []T) {
	for i := range l[:cap(l)] {
		l[:cap(l)][i] ^= 0x55
	}
}

// Rule 3: bytes that are told are new memory, and so is the room behind them.
func TestTold(t *testing.T) {
	var l []one
	for _, plain := range []string{"a", "", "ab", "a row of more bytes than a word or two has", "abc", strings.Repeat("abc", 700)} {
		l = append(l, one{1, plain, []int{5}})
	}
	v := filled(t, 1, l...)
	for i, x := range l {
		first, second := opened(t, v, 1, i+1), opened(t, v, 1, i+1)
		spoil(first)
		if string(second) != x.plain {
			t.Errorf("Open(1, %d) told %q in one memory twice", i+1, x.plain)
		}
		spoil(second)
		_ = append(opened(t, v, 1, i+1), "more"...)
		holds(t, v, 1, l, 1, 5)
	}
}

// Rule 3: the row that Shares tells is new memory, and so is the room behind it.
func TestToldShares(t *testing.T) {
	l := make([]one, 6)
	for n := range 40 {
		l[0].by = append(l[0].by, n*17%40)
		l[n%6].by = append(l[n%6].by, n)
	}
	v := filled(t, 3, l...)
	for i, x := range l {
		first, second := v.Shares(i+1), v.Shares(i+1)
		spoil(first)
		if !slices.Equal(second, sharers(x.by)) {
			t.Errorf("Shares(%d) told one memory twice", i+1)
		}
		spoil(second)
		_ = append(v.Shares(i+1), -7)
		holds(t, v, 3, l, -7, 0, 1, 2, 3, 4, 5, 6, 39, 40)
	}
}

// Rule 3: what was told stays as it was, whatever is sealed and shared behind it.
func TestToldStays(t *testing.T) {
	// Three: a list that grew to them has room for a fourth one.
	v := filled(t, 1, one{1, "stays", []int{200, 300, 400}})
	b, by := opened(t, v, 1, 1), v.Shares(1)
	for n := range 1000 {
		share(t, v, v.Seal(1, bytes.Repeat([]byte("more"), n)), n)
		share(t, v, 1, n)
		v.Shares(1)
		v.Open(1, n+2)
	}
	if string(b) != "stays" || !slices.Equal(by, []int{200, 300, 400}) {
		t.Errorf("what was told is %q and %v now", b, by)
	}
}

// Rule 6: no answer hangs on an order of maps: many who shared are told the same each time.
func TestSameEachTime(t *testing.T) {
	v := filled(t, 1, one{1, "text", nil})
	want := make([]int, 500)
	for i := range want {
		want[i] = i - 250
		share(t, v, 1, (i*7+3)%500-250)
	}
	for range 50 {
		if got := v.Shares(1); !slices.Equal(got, want) {
			t.Fatalf("Shares(1) is %v", got)
		}
	}
}

// Promises 5.1, 5.2: very many ciphers, and very many who share one, each of them again: none gets lost among them.
func TestMany(t *testing.T) {
	const many = 200000
	v := seal.New(many)
	for n := 1; n <= many; n++ {
		if got := v.Seal(n, []byte{byte(n), byte(n >> 8), byte(n >> 16)}); got != n {
			t.Fatalf("the cipher is %d, not %d", got, n)
		}
	}
	for range 2 {
		for n := many; n > 1; n-- {
			share(t, v, 7, n)
			share(t, v, n, -n)
		}
	}
	if v.Len() != many {
		t.Errorf("Len is %d, not %d", v.Len(), many)
	}
	// The last one who is needed: -7 shared it already.
	all := v.Shares(7)
	if len(all) != many || all[0] != -7 || all[1] != 2 || all[many-1] != many {
		t.Fatalf("Shares(7) has %d of %d", len(all), many)
	}
	if got := opened(t, v, 7, 7); !bytes.Equal(got, []byte{7, 0, 0}) {
		t.Errorf("the text is %v", got)
	}
	for n := 2; n <= many; n++ {
		if !v.Shared(-n, n) || !v.Shared(n, 7) || v.Shared(-n, n-1) || v.Shared(0, n) {
			t.Fatalf("Shared mistakes who shared, at %d", n)
		}
	}
}

// Promise 5.3: no call panics, in a new vault and later, at whatever numbers.
func TestEdges(t *testing.T) {
	for _, need := range edges {
		v := seal.New(need)
		var l []one
		for _, label := range edges {
			for _, cipher := range edges {
				v.Shares(cipher)
				v.Open(label, cipher)
				v.Shared(label, cipher)
				there := cipher >= 1 && cipher <= len(l)
				if got := v.Share(label, cipher); got != there {
					t.Fatalf("Share(%d, %d) is %v of %d ciphers", label, cipher, got, len(l))
				}
				if there {
					l[cipher-1].by = append(l[cipher-1].by, label)
				}
			}
			l = append(l, one{label, strings.Repeat("e", len(l)%3), nil})
			v.Seal(label, []byte(l[len(l)-1].plain))
		}
		holds(t, v, need, l, edges...)
	}
}

// Promises 5.1, 5.2: anything sealed and shared by anybody, held against a list that is looked through from its beginning on.
func TestAgainstList(t *testing.T) {
	rnd := rand.New(rand.NewSource(5))
	number := func() int {
		if rnd.Intn(4) == 0 {
			return edges[rnd.Intn(len(edges))]
		}
		return rnd.Intn(7) - 3
	}
	for range 300 {
		need := rnd.Intn(6) - 1
		v := seal.New(need)
		var l []one
		for range 60 {
			if rnd.Intn(4) == 0 {
				row := make([]byte, rnd.Intn(4))
				rnd.Read(row)
				l = append(l, one{number(), string(row), nil})
				if got := v.Seal(l[len(l)-1].label, row); got != len(l) {
					t.Fatalf("the cipher is %d, not %d", got, len(l))
				}
				spoil(row)
				continue
			}
			who, cipher := number(), number()
			there := cipher >= 1 && cipher <= len(l)
			if got := v.Share(who, cipher); got != there {
				t.Fatalf("of %d ciphers, Share(%d, %d) is %v", len(l), who, cipher, got)
			}
			if there {
				l[cipher-1].by = append(l[cipher-1].by, who)
			}
			b, _ := v.Open(number(), cipher)
			spoil(b)
			spoil(v.Shares(cipher))
		}
		holds(t, v, need, l, append([]int{4, -4}, edges...)...)
	}
}

// Promises 5.1 to 5.3: any two texts, labels, sharers and needs, and any numbers that are asked.
func FuzzSeal(f *testing.F) {
	f.Add(2, 1, []byte("a"), 2, []byte("b"), 3, 4, 1)
	f.Add(1, 1, []byte("a"), 1, []byte("a"), 1, 1, 2)
	f.Add(0, 0, []byte(nil), 0, []byte(nil), 0, 0, 0)
	f.Add(math.MinInt, math.MaxInt, []byte{0}, math.MinInt, []byte{0, 0}, -1, 1, 3)
	f.Add(math.MaxInt, -1, []byte{255}, 1<<32, []byte{254}, math.MinInt, math.MaxInt, -1)
	f.Fuzz(func(t *testing.T, need, label int, plain []byte, label2 int, plain2 []byte, who, who2, cipher int) {
		l := []one{{label, string(plain), nil}, {label2, string(plain2), nil}}
		v := filled(t, need, l...)
		for _, n := range []int{who, who2, who} {
			there := cipher == 1 || cipher == 2
			if v.Share(n, cipher) != there {
				t.Fatalf("Share(%d, %d) is not %v", n, cipher, there)
			}
			if there {
				l[cipher-1].by = append(l[cipher-1].by, n)
			}
			holds(t, v, need, l, need, label, label2, who, who2, cipher)
		}
	})
}
