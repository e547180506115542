package acct_test

import (
	"math"
	"math/big"
	"math/rand"
	"slices"
	"testing"

	"tolsey/acct"
	"tolsey/api"
)

const most = math.MaxUint64

// one says what a client has: of Base and of Quote.
type one [2]uint64

// told: a number and whether there is one, as Sum answers it.
type told struct {
	n  uint64
	ok bool
}

func sum(a *acct.Accounts, asset int) told {
	n, ok := a.Sum(asset)
	return told{n, ok}
}

// far: numbers that are no client and no asset of any accounts, some of which could be taken for one when bits are cut off.
var far = []int{
	-1, -2, -3, -256, -1000, -1001, 1001, 1 << 16, 1<<16 + 1,
	math.MaxInt32, math.MaxInt32 + 1, math.MinInt32, math.MinInt32 - 1, 1 << 32, 1<<32 + 1, -1 << 32, 1 - 1<<32,
	math.MaxInt - 1, math.MaxInt, math.MinInt, math.MinInt + 1, math.MinInt + 2,
}

// amounts: numbers at which a sum or a difference begins to wrap.
var amounts = []uint64{0, 1, 2, 1<<31 - 1, 1 << 32, 1<<62 - 1, 1 << 62, 1<<63 - 1, 1 << 63, 1<<63 + 1, most - 2, most - 1, most}

// noClients tells numbers that are no clients where there are so many.
func noClients(clients int) []int {
	return append([]int{clients, clients + 1, clients + 1<<32, clients - 1 - 1<<32}, far...)
}

// noAssets tells numbers that are no assets.
func noAssets() []int {
	return append([]int{2, 3, 4, 1000}, far...)
}

// filled tells new accounts in which the clients have what l says.
func filled(t *testing.T, l ...one) *acct.Accounts {
	t.Helper()
	a := acct.New(len(l))
	for client, x := range l {
		for asset, n := range x {
			if got := a.Put(client, asset, n); got != api.OK {
				t.Fatalf("Put(%d, %d, %d) is %v in new accounts of %d", client, asset, n, got, len(l))
			}
		}
	}
	return a
}

// total tells what Sum is to answer, by a way of its own: as a whole number (beside false: 0).
func total(l []one, asset int) told {
	all := new(big.Int)
	for _, x := range l {
		all.Add(all, new(big.Int).SetUint64(x[asset]))
	}
	if !all.IsUint64() {
		return told{}
	}
	return told{all.Uint64(), true}
}

// holds says where accounts have not just what l says, and are not of as many clients.
func holds(t *testing.T, a *acct.Accounts, l []one) {
	t.Helper()
	for client, x := range l {
		if got := (one{a.Free(client, api.Base), a.Free(client, api.Quote)}); got != x {
			t.Errorf("client %d of %d has %v, not %v", client, len(l), got, x)
		}
	}
	for asset := range 2 {
		if got, want := sum(a, asset), total(l, asset); got != want {
			t.Errorf("Sum(%d) is %v, not %v, of %d clients", asset, got, want, len(l))
		}
	}
	noneFree(t, a, len(l))
}

// noneFree says where a client or an asset that is none has something.
func noneFree(t *testing.T, a *acct.Accounts, clients int) {
	t.Helper()
	for _, client := range noClients(clients) {
		for _, asset := range []int{0, 1, 2, -1, math.MinInt, math.MaxInt} {
			if got := a.Free(client, asset); got != 0 {
				t.Errorf("Free(%d, %d) is %d of %d clients", client, asset, got, clients)
			}
		}
	}
	for _, asset := range noAssets() {
		for _, client := range []int{0, 1, clients - 1, clients / 2} {
			if got := a.Free(client, asset); got != 0 {
				t.Errorf("Free(%d, %d) is %d of %d clients", client, asset, got, clients)
			}
		}
		if got := sum(a, asset); got != (told{}) {
			t.Errorf("Sum(%d) is %v", asset, got)
		}
	}
}

// refuses says where Put or Take of n answers another error than want, of a client and an asset of which one is none.
func refuses(t *testing.T, a *acct.Accounts, client, asset int, n uint64, want api.Errno) {
	t.Helper()
	if got := a.Put(client, asset, n); got != want {
		t.Errorf("Put(%d, %d, %d) is %v, not %v", client, asset, n, got, want)
	}
	if got := a.Take(client, asset, n); got != want {
		t.Errorf("Take(%d, %d, %d) is %v, not %v", client, asset, n, got, want)
	}
}

// Promise 6.1: clients are held to 0 to 1,000, and each has 0 at first.
func TestNew(t *testing.T) {
	for _, x := range []struct{ clients, want int }{
		{0, 0}, {1, 1}, {2, 2}, {3, 3}, {255, 255}, {256, 256}, {999, 999}, {1000, 1000},
		{-1, 0}, {-2, 0}, {-1000, 0}, {math.MinInt32, 0}, {math.MinInt + 1, 0}, {math.MinInt, 0},
		{1001, 1000}, {1024, 1000}, {1 << 31, 1000}, {1 << 32, 1000}, {1<<32 + 1, 1000}, {math.MaxInt - 1, 1000}, {math.MaxInt, 1000},
	} {
		a := acct.New(x.clients)
		l := make([]one, x.want)
		holds(t, a, l)
		// Each client is one, from the first to the last, and the first behind it is none.
		for client := range l {
			l[client] = one{uint64(client) + 1, uint64(client) * 3}
			for asset, n := range l[client] {
				if got := a.Put(client, asset, n); got != api.OK {
					t.Errorf("New(%d): Put(%d, %d, %d) is %v", x.clients, client, asset, n, got)
				}
			}
		}
		for _, asset := range []int{0, 1} {
			for _, n := range []uint64{0, 1} {
				refuses(t, a, x.want, asset, n, api.ErrClient)
				refuses(t, a, -1, asset, n, api.ErrClient)
			}
		}
		holds(t, a, l)
	}
}

// The chapter's example.
func TestExample(t *testing.T) {
	if got := acct.New(1).Take(0, 0, 1); got != api.ErrFunds {
		t.Errorf("Take(0, 0, 1) is %v in new accounts", got)
	}
}

// Promise 6.1: what each has of each asset is their own.
func TestFree(t *testing.T) {
	for client := range 4 {
		for asset := range 2 {
			l := make([]one, 4)
			l[client][asset] = 9
			holds(t, filled(t, l...), l)
		}
	}
	l := []one{{1, 2}, {30, 40}, {0, 0}, {most, 500}, {6000, most}, {0, 7}, {8, 0}}
	holds(t, filled(t, l...), l)
	slices.Reverse(l)
	holds(t, filled(t, l...), l)
	l = make([]one, 1000)
	for client := range l {
		l[client] = one{uint64(client*7 + 1), uint64(client*client + 100000)}
	}
	holds(t, filled(t, l...), l)
}

// Promise 6.1: Put, up to 2^64 - 1 and above it; what is above it turns nothing.
func TestPut(t *testing.T) {
	for _, x := range []struct {
		has, n, then uint64
		want         api.Errno
	}{
		{0, 0, 0, api.OK},
		{0, 1, 1, api.OK},
		{2, 3, 5, api.OK},
		{5, 0, 5, api.OK},
		{1<<32 - 1, 1, 1 << 32, api.OK},
		{1<<63 - 1, 1, 1 << 63, api.OK},
		{0, most, most, api.OK},
		{most, 0, most, api.OK},
		{most - 1, 1, most, api.OK},
		{1, most - 1, most, api.OK},
		{1 << 63, 1<<63 - 1, most, api.OK},
		{most, 1, most, api.ErrOver},
		{1, most, 1, api.ErrOver},
		{most - 1, 2, most - 1, api.ErrOver},
		{2, most - 1, 2, api.ErrOver},
		{1 << 63, 1 << 63, 1 << 63, api.ErrOver},
		{most, most, most, api.ErrOver},
	} {
		for client := range 3 {
			for asset := range 2 {
				l := []one{{11, 12}, {13, 14}, {15, 16}}
				l[client][asset] = x.has
				a := filled(t, l...)
				if got := a.Put(client, asset, x.n); got != x.want {
					t.Errorf("of %d, Put(%d, %d, %d) is %v, not %v", x.has, client, asset, x.n, got, x.want)
				}
				l[client][asset] = x.then
				holds(t, a, l)
			}
		}
	}
}

// Promises 6.1, 6.2: Take, of all, of one more than there is, and of 0; what is more than there is turns nothing.
func TestTake(t *testing.T) {
	for _, x := range []struct {
		has, n, then uint64
		want         api.Errno
	}{
		{0, 0, 0, api.OK},
		{5, 0, 5, api.OK},
		{5, 2, 3, api.OK},
		{1, 1, 0, api.OK},
		{5, 5, 0, api.OK},
		{1 << 32, 1, 1<<32 - 1, api.OK},
		{1 << 63, 1, 1<<63 - 1, api.OK},
		{most, 0, most, api.OK},
		{most, 1, most - 1, api.OK},
		{most, most - 1, 1, api.OK},
		{most, most, 0, api.OK},
		{0, 1, 0, api.ErrFunds},
		{0, most, 0, api.ErrFunds},
		{1, 2, 1, api.ErrFunds},
		{5, 6, 5, api.ErrFunds},
		{5, 1<<63 + 5, 5, api.ErrFunds},
		{1<<63 - 1, 1 << 63, 1<<63 - 1, api.ErrFunds},
		{1 << 63, 1<<63 + 1, 1 << 63, api.ErrFunds},
		{most - 1, most, most - 1, api.ErrFunds},
	} {
		for client := range 3 {
			for asset := range 2 {
				l := []one{{most, 12}, {13, most}, {15, 16}}
				l[client][asset] = x.has
				a := filled(t, l...)
				if got := a.Take(client, asset, x.n); got != x.want {
					t.Errorf("of %d, Take(%d, %d, %d) is %v, not %v", x.has, client, asset, x.n, got, x.want)
				}
				l[client][asset] = x.then
				holds(t, a, l)
			}
		}
	}
}

// Promise 6.1: a client that is none is ErrClient, whatever the asset and the number are, and turns nothing.
func TestNoClient(t *testing.T) {
	for _, l := range [][]one{nil, {{}}, {{most, most}}, {{1, 2}, {most, 0}, {0, most}}} {
		a := filled(t, l...)
		for _, client := range noClients(len(l)) {
			for _, asset := range append([]int{0, 1}, noAssets()...) {
				for _, n := range []uint64{0, 1, most} {
					refuses(t, a, client, asset, n, api.ErrClient)
				}
			}
		}
		holds(t, a, l)
	}
}

// Promise 6.1: an asset that is none is ErrAsset of any client, ahead of ErrOver and ErrFunds, and turns nothing.
func TestNoAsset(t *testing.T) {
	for _, l := range [][]one{{{}}, {{most, most}}, {{1, 2}, {most, 0}, {0, most}}} {
		a := filled(t, l...)
		for client := range l {
			for _, asset := range noAssets() {
				for _, n := range []uint64{0, 1, most} {
					refuses(t, a, client, asset, n, api.ErrAsset)
				}
			}
		}
		holds(t, a, l)
	}
}

// Promise 6.1: what was refused turns nothing that comes later: what would have gone through ahead of it goes through behind it.
func TestRefused(t *testing.T) {
	l := []one{{5, most}, {most - 3, 0}}
	a := filled(t, l...)
	for _, x := range []struct {
		got, want api.Errno
	}{
		{a.Take(0, api.Base, 6), api.ErrFunds},
		{a.Put(0, api.Quote, 1), api.ErrOver},
		{a.Put(1, api.Base, 4), api.ErrOver},
		{a.Take(1, api.Quote, 1), api.ErrFunds},
		{a.Put(2, api.Base, 1), api.ErrClient},
		{a.Take(-1, api.Quote, 1), api.ErrClient},
		{a.Put(0, -1, 1), api.ErrAsset},
		{a.Take(1, 2, 1), api.ErrAsset},
	} {
		if x.got != x.want {
			t.Errorf("the error is %v, not %v", x.got, x.want)
		}
	}
	holds(t, a, l)
	for _, got := range []api.Errno{a.Take(0, api.Base, 5), a.Take(0, api.Quote, most), a.Put(1, api.Base, 3), a.Put(1, api.Quote, most)} {
		if got != api.OK {
			t.Errorf("behind what was refused, the error is %v", got)
		}
	}
	holds(t, a, []one{{0, 0}, {most, most}})
}

// Promise 6.1: Sum, of none, of few and of many clients, at 2^64 - 1 and above it, of each asset for itself.
func TestSum(t *testing.T) {
	for _, x := range []struct {
		l    []one
		want [2]told
	}{
		{nil, [2]told{{0, true}, {0, true}}},
		{[]one{{}}, [2]told{{0, true}, {0, true}}},
		{[]one{{3, 4}}, [2]told{{3, true}, {4, true}}},
		{[]one{{1, 10}, {2, 20}, {3, 30}}, [2]told{{6, true}, {60, true}}},
		{[]one{{most, 0}}, [2]told{{most, true}, {0, true}}},
		{[]one{{most, most}, {0, 0}}, [2]told{{most, true}, {most, true}}},
		{[]one{{1, 0}, {most - 1, most}}, [2]told{{most, true}, {most, true}}},
		{[]one{{1 << 63, 0}, {1<<63 - 1, 0}}, [2]told{{most, true}, {0, true}}},
		{[]one{{most, 0}, {1, 0}}, [2]told{{}, {0, true}}},
		{[]one{{1, 1}, {0, most}}, [2]told{{1, true}, {}}},
		{[]one{{1, most}, {0, 0}, {most, 1}}, [2]told{{}, {}}},
		{[]one{{most, most}, {most, most}}, [2]told{{}, {}}},
		{[]one{{1 << 63, 7}, {1 << 63, 7}}, [2]told{{}, {14, true}}},
		{[]one{{most, 1 << 62}, {most, 1 << 62}, {2, 1 << 62}, {5, 1 << 62}}, [2]told{{}, {}}},
	} {
		a := filled(t, x.l...)
		for range 2 {
			for asset, want := range x.want {
				if got := sum(a, asset); got != want {
					t.Errorf("Sum(%d) of %v is %v, not %v", asset, x.l, got, want)
				}
			}
		}
		// Sum turns nothing, where it is false neither.
		holds(t, a, x.l)
	}
}

// Promise 6.1: Sum of 1,000 clients, at 2^64 - 1, then one above it, and then at it again.
func TestSumOfAll(t *testing.T) {
	for asset := range 2 {
		l := make([]one, 1000)
		for client := range l {
			l[client][asset] = most / 1000
		}
		l[999][asset] += most % 1000
		a := filled(t, l...)
		if got := sum(a, asset); got != (told{most, true}) {
			t.Errorf("Sum(%d) is %v", asset, got)
		}
		for client := range l {
			if got := a.Put(client, asset, 1); got != api.OK {
				t.Errorf("Put(%d, %d, 1) is %v, where all have 2^64 - 1", client, asset, got)
			}
			if got := sum(a, asset); got != (told{}) {
				t.Errorf("Sum(%d) is %v, above 2^64 - 1 by client %d", asset, got, client)
			}
			a.Take(client, asset, 1)
		}
		holds(t, a, l)
	}
}

// Promise 6.1: a copy has what there was, and is its own, either way round.
func TestCopy(t *testing.T) {
	for _, l := range [][]one{nil, {{}}, {{1, 2}, {3, 4}}, {{most, 0}, {0, most}, {5, 6}}, make([]one, 1000)} {
		a := filled(t, l...)
		first := a.Copy()
		second := first.Copy()
		for _, x := range []*acct.Accounts{a, first, second} {
			holds(t, x, l)
		}
		changed := func(x *acct.Accounts, by uint64) []one {
			m := slices.Clone(l)
			for client := range m {
				for asset := range 2 {
					x.Take(client, asset, m[client][asset])
					x.Put(client, asset, by+uint64(client))
					m[client][asset] = by + uint64(client)
				}
			}
			return m
		}
		ofFirst := changed(first, 100)
		holds(t, a, l)
		holds(t, second, l)
		ofA := changed(a, 7000)
		holds(t, first, ofFirst)
		holds(t, second, l)
		ofSecond := changed(second, most-1000)
		holds(t, a, ofA)
		holds(t, first, ofFirst)
		holds(t, second, ofSecond)
	}
}

// Promise 6.1: a copy refuses what it was copied from refuses, and stays as it was when a call to the other one is refused.
func TestCopyRefuses(t *testing.T) {
	l := []one{{4, most}, {0, 1}}
	a := filled(t, l...)
	b := a.Copy()
	for _, x := range []*acct.Accounts{a, b, b.Copy()} {
		for _, n := range []uint64{0, 1, most} {
			refuses(t, x, 2, 0, n, api.ErrClient)
			refuses(t, x, 2, 2, n, api.ErrClient)
			refuses(t, x, 1, 2, n, api.ErrAsset)
		}
		if got := x.Put(0, 1, 1); got != api.ErrOver {
			t.Errorf("Put(0, 1, 1) is %v", got)
		}
		if got := x.Take(0, 0, 5); got != api.ErrFunds {
			t.Errorf("Take(0, 0, 5) is %v", got)
		}
		holds(t, a, l)
		holds(t, b, l)
	}
}

// Promise 6.1: accounts hang on what was done to them, and on nothing that was done to others.
func TestTwo(t *testing.T) {
	first, second := filled(t, one{1, 2}, one{3, 4}), filled(t, one{5, 6})
	first.Take(0, 0, 1)
	second.Put(0, 1, 1)
	holds(t, first, []one{{0, 2}, {3, 4}})
	holds(t, second, []one{{5, 7}})
}

// Promise 6.2: of whatever one has, what is left is never below 0: a Take goes through just if there is as much.
func TestNeverBelowZero(t *testing.T) {
	for _, has := range amounts {
		for _, n := range amounts {
			for asset := range 2 {
				l := make([]one, 1)
				l[0][asset] = has
				a := filled(t, l...)
				want := api.ErrFunds
				if n <= has {
					want = api.OK
					l[0][asset] = has - n
				}
				if got := a.Take(0, asset, n); got != want {
					t.Errorf("of %d, Take(0, %d, %d) is %v, not %v", has, asset, n, got, want)
				}
				holds(t, a, l)
			}
		}
	}
}

// Promise 6.2: many a Take, of more than there is at last: it goes down to 0 and no further.
func TestDownToZero(t *testing.T) {
	a := filled(t, one{100, 50})
	for n := range 60 {
		if got := a.Take(0, api.Base, 3); (got == api.OK) != (n < 33) {
			t.Errorf("Take %d is %v", n, got)
		}
	}
	holds(t, a, []one{{1, 50}})
	if got := a.Take(0, api.Base, 1); got != api.OK {
		t.Errorf("the last one: %v", got)
	}
	for range 3 {
		if got := a.Take(0, api.Base, 1); got != api.ErrFunds {
			t.Errorf("of nothing: %v", got)
		}
	}
	holds(t, a, []one{{0, 50}})
}

// W5: what is taken from one and put to another is neither made nor lost, and what is refused moves nothing.
func TestMoves(t *testing.T) {
	rnd := rand.New(rand.NewSource(6))
	l := []one{{1000, most}, {most - 3000, 0}, {2000, 0}, {0, 0}}
	a := filled(t, l...)
	refused := 0
	for range 3000 {
		from, to, asset := rnd.Intn(4), rnd.Intn(4), rnd.Intn(2)
		n := rnd.Uint64() >> rnd.Intn(64)
		if a.Take(from, asset, n) != api.OK {
			refused++
			continue
		}
		// All that there is of an asset is at most 2^64 - 1: nobody can have too much.
		if got := a.Put(to, asset, n); got != api.OK {
			t.Fatalf("Put(%d, %d, %d) is %v", to, asset, n, got)
		}
		l[from][asset] -= n
		l[to][asset] += n
		if sum(a, api.Base) != (told{most, true}) || sum(a, api.Quote) != (told{most, true}) {
			t.Fatalf("the sums are %v and %v", sum(a, api.Base), sum(a, api.Quote))
		}
	}
	if refused == 0 || refused == 3000 {
		t.Errorf("%d were refused: the script says too little", refused)
	}
	holds(t, a, l)
}

// W5: no balance wraps: whatever is put and taken, held against whole numbers of any size.
func TestAgainstWhole(t *testing.T) {
	rnd := rand.New(rand.NewSource(66))
	limit := new(big.Int).SetUint64(most)
	for range 100 {
		clients := rnd.Intn(4)
		a, l := acct.New(clients), make([]one, clients)
		for range 80 {
			client, asset, n := rnd.Intn(6)-1, rnd.Intn(4)-1, amounts[rnd.Intn(len(amounts))]
			put := rnd.Intn(2) == 0
			want := api.OK
			switch {
			case client < 0 || client >= clients:
				want = api.ErrClient
			case asset < 0 || asset > 1:
				want = api.ErrAsset
			default:
				next, by := new(big.Int).SetUint64(l[client][asset]), new(big.Int).SetUint64(n)
				if put {
					next.Add(next, by)
				} else {
					next.Sub(next, by)
				}
				switch {
				case next.Sign() < 0:
					want = api.ErrFunds
				case next.Cmp(limit) > 0:
					want = api.ErrOver
				default:
					l[client][asset] = next.Uint64()
				}
			}
			call := a.Take
			if put {
				call = a.Put
			}
			if got := call(client, asset, n); got != want {
				t.Fatalf("client %d, asset %d, %d, put %v: %v, not %v", client, asset, n, put, got, want)
			}
			if rnd.Intn(10) == 0 {
				a = a.Copy()
			}
		}
		holds(t, a, l)
	}
}

// Promise 6.3: no call panics, at whatever numbers.
func TestEdges(t *testing.T) {
	numbers := append([]int{0, 1, 2, 999, 1000}, far...)
	for _, clients := range numbers {
		a := acct.New(clients)
		for _, client := range numbers {
			for _, asset := range numbers {
				for _, n := range []uint64{0, 1, most} {
					a.Put(client, asset, n)
					a.Take(client, asset, n)
					a.Free(client, asset)
				}
			}
			a.Sum(client)
		}
		a.Copy().Sum(api.Base)
	}
}

// Promises 6.1 to 6.3: any clients, any numbers.
func FuzzAccounts(f *testing.F) {
	f.Add(1, 0, 0, uint64(5), uint64(5))
	f.Add(2, 1, 1, uint64(most), uint64(1))
	f.Add(1000, 999, 1, uint64(1), uint64(2))
	f.Add(1001, 1000, 0, uint64(1), uint64(0))
	f.Add(-1, 0, 2, uint64(0), uint64(most))
	f.Add(math.MaxInt, math.MinInt, math.MaxInt, uint64(most), uint64(most))
	f.Fuzz(func(t *testing.T, clients, client, asset int, has, n uint64) {
		a := acct.New(clients)
		l := make([]one, min(max(clients, 0), 1000))
		if client < 0 || client >= len(l) {
			refuses(t, a, client, asset, n, api.ErrClient)
			holds(t, a, l)
			return
		}
		if asset != api.Base && asset != api.Quote {
			refuses(t, a, client, asset, n, api.ErrAsset)
			holds(t, a, l)
			return
		}
		a.Put(client, asset, has)
		l[client][asset] = has
		b := a.Copy()
		if got := a.Take(client, asset, n); (got == api.OK) != (n <= has) {
			t.Fatalf("of %d, Take of %d is %v", has, n, got)
		}
		if got := b.Put(client, asset, n); (got == api.OK) != (n <= most-has) {
			t.Fatalf("to %d, Put of %d is %v", has, n, got)
		}
		if n <= most-has {
			l[client][asset] = has + n
		}
		holds(t, b, l)
		l[client][asset] = has
		if n <= has {
			l[client][asset] = has - n
		}
		holds(t, a, l)
	})
}
