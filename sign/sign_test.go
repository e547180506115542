package sign_test

import (
	"math"
	"math/rand"
	"slices"
	"testing"

	"tolsey/sign"
)

// one says who signed which digest.
type one struct{ who, digest int }

// edges: numbers at which who or a digest could be taken for none, or for another number.
var edges = []int{
	0, 1, 2, 3, -1, -2, -3, 255, 256, -256,
	math.MaxInt32, math.MaxInt32 + 1, math.MinInt32, math.MinInt32 - 1, 1 << 32, 1<<32 + 1, -1 << 32, 1 - 1<<32,
	math.MaxInt - 1, math.MaxInt, math.MinInt, math.MinInt + 1,
}

// signed tells a new book in which all of l have signed, in order.
func signed(l ...one) *sign.Book {
	s := sign.New()
	for _, x := range l {
		s.Sign(x.who, x.digest)
	}
	return s
}

// signers tells who signed digest, by a way of its own: all of l, looked through, rising, each once.
func signers(l []one, digest int) []int {
	var by []int
	for _, x := range l {
		if x.digest == digest && !slices.Contains(by, x.who) {
			by = append(by, x.who)
		}
	}
	slices.Sort(by)
	return by
}

// holds says where a book has not just what l says, asked for each of these numbers, as who and as digest.
func holds(t *testing.T, s *sign.Book, l []one, numbers ...int) {
	t.Helper()
	for _, digest := range numbers {
		want := signers(l, digest)
		if got := s.All(digest); !slices.Equal(got, want) {
			t.Errorf("All(%d) is %v, not %v", digest, got, want)
		}
		for _, who := range numbers {
			if got, want := s.Has(who, digest), slices.Contains(want, who); got != want {
				t.Errorf("Has(%d, %d) is %v, not %v", who, digest, got, want)
			}
		}
	}
}

// Promise 4.1, and the chapter's example: in a new book nobody has signed anything, and asking signs nothing.
func TestNew(t *testing.T) {
	s := sign.New()
	if s.Has(1, 2) {
		t.Error("Has(1, 2) is true in a new book")
	}
	for range 2 {
		holds(t, s, nil, edges...)
	}
}

// Promise 4.1: who signed is told by Has and All, from then on, however often and in whatever order they signed.
func TestSign(t *testing.T) {
	for _, c := range []struct {
		name   string
		l      []one
		digest int
		want   []int
	}{
		{"one", []one{{1, 2}}, 2, []int{1}},
		{"one, of a digest that nobody signed", []one{{1, 2}}, 1, nil},
		{"one, again and again", []one{{1, 2}, {1, 2}, {1, 2}}, 2, []int{1}},
		{"rising", []one{{1, 7}, {2, 7}, {3, 7}}, 7, []int{1, 2, 3}},
		{"falling", []one{{3, 7}, {2, 7}, {1, 7}}, 7, []int{1, 2, 3}},
		{"neither", []one{{2, 7}, {3, 7}, {1, 7}}, 7, []int{1, 2, 3}},
		{"again at once", []one{{2, 7}, {2, 7}, {1, 7}, {1, 7}}, 7, []int{1, 2}},
		{"again after others", []one{{2, 7}, {1, 7}, {2, 7}, {3, 7}, {1, 7}, {2, 7}}, 7, []int{1, 2, 3}},
		{"by number, not by text", []one{{10, 7}, {9, 7}, {100, 7}, {-10, 7}, {-9, 7}}, 7, []int{-10, -9, 9, 10, 100}},
		{"around 0", []one{{1, 7}, {-1, 7}, {0, 7}}, 7, []int{-1, 0, 1}},
		{"the least and the greatest", []one{{math.MaxInt, 7}, {0, 7}, {math.MinInt, 7}}, 7, []int{math.MinInt, 0, math.MaxInt}},
		{"one, several digests", []one{{1, 5}, {1, 6}, {1, 7}}, 6, []int{1}},
		{"several, several digests", []one{{2, 5}, {1, 6}, {3, 6}, {1, 5}, {2, 7}, {1, 6}}, 6, []int{1, 3}},
		{"who is another one's digest", []one{{1, 2}, {2, 1}, {2, 2}}, 2, []int{1, 2}},
		{"a digest of 0", []one{{2, 0}, {0, 0}, {1, 0}, {0, 1}}, 0, []int{0, 1, 2}},
		{"a digest below 0", []one{{2, -1}, {1, 1}, {-1, -1}}, -1, []int{-1, 2}},
		{"the least digest", []one{{2, math.MinInt}, {1, math.MaxInt}}, math.MinInt, []int{2}},
		{"the greatest digest", []one{{2, math.MinInt}, {1, math.MaxInt}}, math.MaxInt, []int{1}},
	} {
		s := signed(c.l...)
		if got := s.All(c.digest); !slices.Equal(got, c.want) {
			t.Errorf("%s: All(%d) is %v, not %v", c.name, c.digest, got, c.want)
		}
		holds(t, s, c.l, append([]int{5, 6, 7, 9, 10, 100}, edges...)...)
	}
}

// Promise 4.1: whatever the order of several who sign one thing, and each as often as another one, All is the same.
func TestOrders(t *testing.T) {
	for _, order := range [][]int{
		{1, 2, 3, 4}, {1, 2, 4, 3}, {1, 3, 2, 4}, {1, 3, 4, 2}, {1, 4, 2, 3}, {1, 4, 3, 2},
		{2, 1, 3, 4}, {2, 1, 4, 3}, {2, 3, 1, 4}, {2, 3, 4, 1}, {2, 4, 1, 3}, {2, 4, 3, 1},
		{3, 1, 2, 4}, {3, 1, 4, 2}, {3, 2, 1, 4}, {3, 2, 4, 1}, {3, 4, 1, 2}, {3, 4, 2, 1},
		{4, 1, 2, 3}, {4, 1, 3, 2}, {4, 2, 1, 3}, {4, 2, 3, 1}, {4, 3, 1, 2}, {4, 3, 2, 1},
	} {
		s := sign.New()
		var l []one
		for range 2 {
			for _, who := range order {
				s.Sign(who, 9)
				l = append(l, one{who, 9})
				holds(t, s, l, 0, 1, 2, 3, 4, 5, 9)
			}
		}
	}
}

// Promise 4.1: nobody takes a signature back, whatever is signed or asked later.
func TestStays(t *testing.T) {
	s := signed(one{5, 6})
	for n := range 2000 {
		s.Sign(n+10, 6)
		s.Sign(5, n+10)
		if !s.Has(5, 6) || s.Has(6, 5) {
			t.Fatalf("Has(5, 6) is %v and Has(6, 5) is %v, after %d others signed", s.Has(5, 6), s.Has(6, 5), n+1)
		}
	}
	if got := s.All(6); len(got) != 2001 || !slices.IsSorted(got) || got[0] != 5 || got[2000] != 2009 {
		t.Errorf("All(6) has %d, sorted %v", len(got), slices.IsSorted(got))
	}
}

// Promises 4.1, 4.2: a book's signatures hang on what was signed in it, and on nothing that was signed in another one.
func TestTwoBooks(t *testing.T) {
	first, second := signed(one{1, 2}, one{3, 2}), signed(one{2, 2})
	second.Sign(2, 1)
	holds(t, first, []one{{1, 2}, {3, 2}}, 0, 1, 2, 3)
	holds(t, second, []one{{2, 2}, {2, 1}}, 0, 1, 2, 3)
}

// Promise 4.2: of one who signed one thing, nobody else signed it, and they signed nothing else, at the edges too.
func TestNobodyElse(t *testing.T) {
	for _, who := range edges {
		for _, digest := range edges {
			x := one{who, digest}
			holds(t, signed(x), []one{x}, edges...)
		}
	}
}

// Promise 4.2: numbers that are alike but for one bit of who, or of the digest, are others.
func TestAlike(t *testing.T) {
	for _, x := range []one{{0, 0}, {1, 2}, {-1, -1}, {math.MaxInt, math.MinInt}, {1 << 31, 1 << 31}, {12345, -54321}} {
		s := signed(x)
		for bit := range 64 {
			for _, y := range []one{{x.who ^ 1<<bit, x.digest}, {x.who, x.digest ^ 1<<bit}, {x.who ^ 1<<bit, x.digest ^ 1<<bit}} {
				if s.Has(y.who, y.digest) {
					t.Errorf("%v signed, and so Has(%d, %d)", x, y.who, y.digest)
				}
			}
			if got := s.All(x.digest ^ 1<<bit); len(got) != 0 {
				t.Errorf("%v signed, and All(%d) is %v", x, x.digest^1<<bit, got)
			}
		}
		holds(t, s, []one{x}, x.who, x.digest)
	}
}

// Promise 4.2: who and digest are not mixed up, nor put together to one number: of all pairs of small numbers, each other one signs.
func TestPairs(t *testing.T) {
	var numbers []int
	var l []one
	for n := -20; n <= 20; n++ {
		numbers = append(numbers, n)
	}
	for i, digest := range numbers {
		for j, who := range numbers {
			if (i+j*j)%2 == 0 {
				l = append(l, one{who, digest})
			}
		}
	}
	holds(t, signed(l...), l, numbers...)
	slices.Reverse(l)
	holds(t, signed(l...), l, numbers...)
}

// Promise 4.2: asking signs for nobody, neither of one who signed nothing nor of a digest that nobody signed.
func TestAskedOnly(t *testing.T) {
	l := []one{{1, 2}, {2, 3}}
	s := signed(l...)
	for range 3 {
		holds(t, s, l, edges...)
	}
}

// Promise 4.3: no call panics, in a new book and later, at whatever numbers.
func TestEdges(t *testing.T) {
	s := sign.New()
	var l []one
	for _, digest := range edges {
		s.All(digest)
		for _, who := range edges {
			s.Has(who, digest)
			s.Sign(who, digest)
			s.Sign(who, digest)
			l = append(l, one{who, digest})
		}
	}
	holds(t, s, l, append([]int{4, -4, 1 << 40}, edges...)...)
}

// spoil changes all that a list shares with anything: its numbers, and the room behind them.
func spoil(l []int) {
	for i := range l[:cap(l)] {
		l[:cap(l)][i] ^= -1
	}
}

// Rule 3: the row that All tells is new memory, and so is the room behind it.
func TestTold(t *testing.T) {
	var l []one
	for n := range 40 {
		l = append(l, one{n * 17 % 40, 1}, one{n, n % 5})
	}
	s := signed(l...)
	for digest := range 6 {
		first, second := s.All(digest), s.All(digest)
		spoil(first)
		if !slices.Equal(second, signers(l, digest)) {
			t.Errorf("All(%d) told one memory twice", digest)
		}
		spoil(second)
		_ = append(s.All(digest), -7)
		holds(t, s, l, -7, 0, 1, 2, 3, 4, 5, 39, 40)
	}
}

// Rule 3: a row that was told stays as it was, whoever signs behind it.
func TestToldStays(t *testing.T) {
	// Three: a list that grew to them has room for a fourth one.
	s := signed(one{200, 1}, one{300, 1}, one{400, 1})
	told := s.All(1)
	for n := range 100 {
		s.Sign(n, 1)
		s.All(1)
	}
	if !slices.Equal(told, []int{200, 300, 400}) {
		t.Errorf("what was told is %v now", told)
	}
}

// Rule 6: no answer hangs on an order of maps: many who signed are told the same each time.
func TestSameEachTime(t *testing.T) {
	s := sign.New()
	want := make([]int, 500)
	for i := range want {
		want[i] = i - 250
		s.Sign((i*7+3)%500-250, 1)
	}
	for range 50 {
		if got := s.All(1); !slices.Equal(got, want) {
			t.Fatalf("All(1) is %v", got)
		}
	}
}

// Promises 4.1, 4.2: very many sign one thing, and one signs very many, each of them again: none gets lost among them.
func TestMany(t *testing.T) {
	const many = 200000
	s := sign.New()
	for range 2 {
		for n := many; n > 0; n-- {
			s.Sign(n, 0)
			s.Sign(0, n)
		}
	}
	all := s.All(0)
	if len(all) != many {
		t.Fatalf("All(0) has %d of %d", len(all), many)
	}
	for i, who := range all {
		if who != i+1 {
			t.Fatalf("All(0) has %d at %d", who, i)
		}
		if !s.Has(who, 0) || !s.Has(0, who) || s.Has(who, who) || s.Has(-who, 0) || s.Has(0, -who) {
			t.Fatalf("Has mistakes who signed, at %d", who)
		}
	}
}

// Promises 4.1, 4.2: anybody signs anything, held against a list that is looked through from its beginning on.
func TestAgainstList(t *testing.T) {
	rnd := rand.New(rand.NewSource(4))
	number := func() int {
		if rnd.Intn(4) == 0 {
			return edges[rnd.Intn(len(edges))]
		}
		return rnd.Intn(9) - 4
	}
	for range 200 {
		s := sign.New()
		var l []one
		for range 60 {
			x, y := one{number(), number()}, one{number(), number()}
			s.Sign(x.who, x.digest)
			l = append(l, x)
			if got, want := s.Has(y.who, y.digest), slices.Contains(l, y); got != want {
				t.Fatalf("of %v: Has(%d, %d) is %v", l, y.who, y.digest, got)
			}
			got := s.All(y.digest)
			if want := signers(l, y.digest); !slices.Equal(got, want) {
				t.Fatalf("of %v: All(%d) is %v, not %v", l, y.digest, got, want)
			}
			spoil(got)
		}
		holds(t, s, l, -4, -3, -2, -1, 0, 1, 2, 3, 4)
	}
}

// Promises 4.1 to 4.3: any two signatures, and any numbers that are asked.
func FuzzSign(f *testing.F) {
	f.Add(1, 2, 1, 2, 1, 2)
	f.Add(1, 2, 2, 1, 2, 2)
	f.Add(0, 0, -1, 0, 0, -1)
	f.Add(math.MaxInt, math.MinInt, math.MinInt, math.MinInt, math.MinInt, math.MaxInt)
	f.Fuzz(func(t *testing.T, who, digest, who2, digest2, who3, digest3 int) {
		l := []one{{who, digest}, {who2, digest2}}
		holds(t, signed(l...), l, who, digest, who2, digest2, who3, digest3)
	})
}
