package hold_test

import (
	"math"
	"math/big"
	"math/rand"
	"slices"
	"testing"

	"tolsey/acct"
	"tolsey/api"
	"tolsey/hold"
)

const most = math.MaxUint64

// one says what there is of a client: of Base and of Quote free, and what is held.
type one struct{ base, free, held uint64 }

// all says what there is: of each client, and what was got.
type all struct {
	of  []one
	got uint64
}

// world: fees, and the accounts that they are held from.
type world struct {
	a *acct.Accounts
	f *hold.Fees
}

// far: numbers that are no client of any accounts, some of which could be taken for one when bits are cut off.
var far = []int{
	-1, -2, -3, -256, -1000, -1001, 1001, 1 << 16, 1<<16 + 1,
	math.MaxInt32, math.MaxInt32 + 1, math.MinInt32, math.MinInt32 - 1, 1 << 32, 1<<32 + 1, -1 << 32, 1 - 1<<32,
	math.MaxInt - 1, math.MaxInt, math.MinInt, math.MinInt + 1, math.MinInt + 2,
}

// amounts: numbers at which a sum or a difference begins to wrap.
var amounts = []uint64{0, 1, 2, 1<<31 - 1, 1 << 32, 1<<62 - 1, 1 << 62, 1<<63 - 1, 1 << 63, 1<<63 + 1, most - 2, most - 1, most}

// noClients tells numbers that are no clients where there are so many.
func noClients(clients int) []int {
	return append([]int{clients, clients + 1, clients + 1<<32, clients - 1 - 1<<32}, far...)
}

// put gives client n of asset.
func put(t *testing.T, a *acct.Accounts, client, asset int, n uint64) {
	t.Helper()
	if got := a.Put(client, asset, n); got != api.OK {
		t.Fatalf("Put(%d, %d, %d) is %v", client, asset, n, got)
	}
}

// filled tells new accounts and fees of which there is what s says. (Where there are no clients, nothing can be got.)
func filled(t *testing.T, s all) world {
	t.Helper()
	w := world{a: acct.New(len(s.of))}
	w.f = hold.New(w.a)
	if s.got > 0 {
		put(t, w.a, 0, api.Quote, s.got)
		w.f.Hold(0, s.got)
		w.f.Forfeit(0)
	}
	for client, x := range s.of {
		put(t, w.a, client, api.Quote, x.held)
		w.f.Hold(client, x.held)
		put(t, w.a, client, api.Quote, x.free)
		put(t, w.a, client, api.Base, x.base)
	}
	w.holds(t, s)
	return w
}

// holds says where there is not just what s says; what is asked must turn nothing, so that it is asked twice.
func (w world) holds(t *testing.T, s all) {
	t.Helper()
	for range 2 {
		for client, x := range s.of {
			if got := (one{w.a.Free(client, api.Base), w.a.Free(client, api.Quote), w.f.Held(client)}); got != x {
				t.Errorf("of client %d of %d there is %v, not %v", client, len(s.of), got, x)
			}
		}
		if got := w.f.Got(); got != s.got {
			t.Errorf("Got is %d, not %d", got, s.got)
		}
		for _, client := range noClients(len(s.of)) {
			if got := w.f.Held(client); got != 0 {
				t.Errorf("Held(%d) is %d of %d clients", client, got, len(s.of))
			}
		}
	}
}

// tells says where a call told another number than want.
func tells(t *testing.T, call string, got, want uint64) {
	t.Helper()
	if got != want {
		t.Errorf("%s tells %d, not %d", call, got, want)
	}
}

// places has try for each of three clients, beside two of whom there is something of everything, which may not turn.
func places(try func(client int, s all)) {
	for client := range 3 {
		try(client, all{of: []one{{11, 12, 13}, {21, 22, 23}, {31, 32, 33}}})
	}
}

// Promise 7.1: new fees hold nothing and got nothing, and turn nothing of the accounts.
func TestNew(t *testing.T) {
	for _, clients := range []int{0, 1, 2, 3, 255, 256, 999, 1000} {
		s := all{of: make([]one, clients)}
		a := acct.New(clients)
		world{a, hold.New(a)}.holds(t, s)
		for client := range s.of {
			s.of[client] = one{base: uint64(client) + 1, free: uint64(client) * 5}
			put(t, a, client, api.Base, s.of[client].base)
			put(t, a, client, api.Quote, s.of[client].free)
		}
		w := world{a, hold.New(a)}
		w.holds(t, s)
		// Each client is one, from the first to the last.
		for client := range s.of {
			if client == 0 {
				continue
			}
			tells(t, "Hold", w.f.Hold(client, uint64(client)), uint64(client))
			s.of[client].free -= uint64(client)
			s.of[client].held = uint64(client)
		}
		w.holds(t, s)
	}
}

// The chapter's example.
func TestExample(t *testing.T) {
	tells(t, "Got of new fees", hold.New(acct.New(1)).Got(), 0)
}

// Promise 7.1: Hold, of less than there is, of just as much, of more and of 0, once and beside what is held.
func TestHold(t *testing.T) {
	for _, x := range []struct{ free, held, fee, want uint64 }{
		{0, 0, 0, 0},
		{5, 0, 0, 0},
		{5, 0, 1, 1},
		{5, 0, 4, 4},
		{5, 0, 5, 5},
		{5, 0, 6, 5},
		{5, 0, most, 5},
		{0, 0, 1, 0},
		{0, 0, most, 0},
		{5, 7, 0, 0},
		{5, 7, 2, 2},
		{5, 7, 5, 5},
		{5, 7, 6, 5},
		{5, 7, 1<<63 + 2, 5},
		{0, 7, 1, 0},
		{0, 7, 0, 0},
		{1 << 32, 1<<32 - 1, 1, 1},
		{1 << 63, 0, 1 << 63, 1 << 63},
		{1 << 63, 1<<63 - 1, 1<<63 - 1, 1<<63 - 1},
		{1 << 63, 1<<63 - 1, 1 << 63, 1 << 63},
		{most, 0, most, most},
		{most, 0, most - 1, most - 1},
		{most, 0, 0, 0},
	} {
		places(func(client int, s all) {
			s.of[client].free, s.of[client].held = x.free, x.held
			w := filled(t, s)
			if got := w.f.Hold(client, x.fee); got != x.want {
				t.Errorf("of %d free, %d held, Hold(%d, %d) is %d, not %d", x.free, x.held, client, x.fee, got, x.want)
			}
			s.of[client].free -= x.want
			s.of[client].held += x.want
			w.holds(t, s)
		})
	}
}

// Promise 7.1: Hold moves nothing where more than 2^64 - 1 would be held: by what would move, not by the fee.
func TestHoldAbove(t *testing.T) {
	for _, x := range []struct{ free, held, fee, want uint64 }{
		{1, most, 0, 0},
		{1, most, 1, 0},
		{1, most, most, 0},
		{most, most, most, 0},
		{0, most, 5, 0},
		{10, most - 3, 3, 3},
		{10, most - 3, 4, 0},
		{10, most - 3, most, 0},
		{3, most - 3, 10, 3},
		{2, most - 3, most, 2},
		{3, most - 3, most, 3},
		{4, most - 3, most, 0},
		{most, 1, most - 1, most - 1},
		{most, 1, most, 0},
		{most - 1, 1, most, most - 1},
		{1 << 63, 1 << 63, 1<<63 - 1, 1<<63 - 1},
		{1 << 63, 1 << 63, 1 << 63, 0},
	} {
		places(func(client int, s all) {
			s.of[client].free, s.of[client].held = x.free, x.held
			w := filled(t, s)
			if got := w.f.Hold(client, x.fee); got != x.want {
				t.Errorf("of %d free, %d held, Hold(%d, %d) is %d, not %d", x.free, x.held, client, x.fee, got, x.want)
			}
			s.of[client].free -= x.want
			s.of[client].held += x.want
			w.holds(t, s)
			// What was not moved can be moved later, where there is room again.
			w.f.Forfeit(client)
			s.got += s.of[client].held
			s.of[client].held = 0
			w.holds(t, s)
			tells(t, "Hold behind Forfeit", w.f.Hold(client, most), s.of[client].free)
		})
	}
}

// Promise 7.1: of a client that is none nothing is held and nothing got, whatever is asked, and nothing turns.
func TestNoClient(t *testing.T) {
	for _, s := range []all{
		{},
		{of: []one{{}}},
		{of: []one{{1, 2, 3}}, got: 4},
		{of: []one{{most, most, most}}, got: most},
		{of: []one{{1, 0, most}, {most, 5, 0}, {0, most, 6}}, got: 9},
		{of: slices.Repeat([]one{{7, 8, 9}}, 1000), got: most - 3},
	} {
		w := filled(t, s)
		for _, client := range noClients(len(s.of)) {
			for _, fee := range []uint64{0, 1, 5, 1 << 63, most} {
				tells(t, "Hold of none", w.f.Hold(client, fee), 0)
				tells(t, "Settle of none", w.f.Settle(client, fee), 0)
				tells(t, "Forfeit of none", w.f.Forfeit(client), 0)
			}
		}
		w.holds(t, s)
	}
}

// Promises 7.1, 7.2: Settle at 0, at less than is held, at just as much and at more, and of nothing: what is not got goes back.
func TestSettle(t *testing.T) {
	for _, x := range []struct{ free, held, got, fee, want uint64 }{
		{0, 0, 0, 0, 0},
		{5, 0, 0, 0, 0},
		{5, 0, 6, 1, 0},
		{5, 0, 6, most, 0},
		{most, 0, most, 3, 0},
		{5, 7, 0, 0, 0},
		{5, 7, 0, 1, 1},
		{5, 7, 2, 6, 6},
		{5, 7, 2, 7, 7},
		{5, 7, 2, 8, 7},
		{5, 7, 2, most, 7},
		{0, 1, 0, 1, 1},
		{0, 1, 1, 0, 0},
		{0, 1, 1, 2, 1},
		{0, 7, 0, 3, 3},
		{0, most, 0, 0, 0},
		{0, most, 0, 1, 1},
		{0, most, 0, most - 1, most - 1},
		{0, most, 0, most, most},
		{1, most, 5, 1, 1},
		{3, 1 << 63, 1<<63 - 1, 1 << 63, 1 << 63},
		{1<<63 - 1, 1 << 63, 0, 0, 0},
		{most, 4, 0, 4, 4},
		{most - 3, 4, 0, 1, 1},
		{most - 4, 4, 0, 0, 0},
		{0, 9, most, 0, 0},
		{0, 9, most - 4, 4, 4},
		{0, 9, most - 9, 9, 9},
		{0, 9, most - 9, most, 9},
	} {
		places(func(client int, s all) {
			s.of[client].free, s.of[client].held = x.free, x.held
			s.got = x.got
			w := filled(t, s)
			if got := w.f.Settle(client, x.fee); got != x.want {
				t.Errorf("of %v, Settle(%d, %d) is %d", x, client, x.fee, got)
			}
			s.of[client].free += x.held - x.want
			s.of[client].held = 0
			s.got += x.want
			w.holds(t, s)
			tells(t, "Settle of nothing", w.f.Settle(client, x.fee), 0)
			w.holds(t, s)
		})
	}
}

// Promise 7.1: where what goes back would bring free Quote above 2^64 - 1, it stays held, all of it; what is got is got all the same.
func TestSettleStays(t *testing.T) {
	for _, x := range []struct{ free, held, got, fee, want uint64 }{
		{most, 1, 0, 0, 0},
		{most, 7, 2, 0, 0},
		{most, 7, 2, 3, 3},
		{most, 7, 2, 6, 6},
		{most - 3, 4, 2, 0, 0},
		{most - 3, 7, 2, 3, 3},
		{most - 3, 7, 2, 2, 2},
		{1, most, 0, 0, 0},
		{1 << 63, 1 << 63, 0, 0, 0},
		{2, most, 0, 1, 1},
		{most, most, 0, 0, 0},
		{most, most, 0, most - 1, most - 1},
		{most, most, 5, 1, 1},
	} {
		places(func(client int, s all) {
			s.of[client].free, s.of[client].held = x.free, x.held
			s.got = x.got
			w := filled(t, s)
			if got := w.f.Settle(client, x.fee); got != x.want {
				t.Errorf("of %v, Settle(%d, %d) is %d", x, client, x.fee, got)
			}
			left := x.held - x.want
			s.of[client].held = left
			s.got += x.want
			w.holds(t, s)
			// As often as it is asked, it stays, till there is room.
			tells(t, "Settle at 0", w.f.Settle(client, 0), 0)
			w.holds(t, s)
			w.a.Take(client, api.Quote, x.free)
			s.of[client].free = 0
			w.holds(t, s)
			tells(t, "Settle at 0", w.f.Settle(client, 0), 0)
			s.of[client].free, s.of[client].held = left, 0
			w.holds(t, s)
		})
	}
}

// Promise 7.1: what stays held is held as anything else: more is held beside it, and it is got.
func TestBesideWhatStays(t *testing.T) {
	s := all{of: []one{{1, most, 9}}}
	w := filled(t, s)
	tells(t, "Settle", w.f.Settle(0, 2), 2)
	tells(t, "Hold", w.f.Hold(0, 20), 20)
	s = all{of: []one{{1, most - 20, 27}}, got: 2}
	w.holds(t, s)
	tells(t, "Settle", w.f.Settle(0, 6), 6)
	s = all{of: []one{{1, most - 20, 21}}, got: 8}
	w.holds(t, s)
	tells(t, "Settle", w.f.Settle(0, 1), 1)
	s = all{of: []one{{1, most, 0}}, got: 9}
	w.holds(t, s)
	tells(t, "Hold", w.f.Hold(0, 3), 3)
	w.a.Put(0, api.Quote, 1)
	tells(t, "Settle", w.f.Settle(0, 0), 0)
	tells(t, "Forfeit", w.f.Forfeit(0), 3)
	s = all{of: []one{{1, most - 2, 0}}, got: 12}
	w.holds(t, s)
}

// Promise 7.1: where what was got would come above 2^64 - 1, Settle gets nothing and gives all back (or it stays, where there is no room).
func TestSettleAbove(t *testing.T) {
	for _, x := range []struct {
		free, held, got, fee uint64
		stays                bool
	}{
		{0, 1, most, 1, false},
		{0, 1, most, most, false},
		{5, 7, most, 3, false},
		{5, 7, most - 2, 3, false},
		{5, 7, most - 6, 7, false},
		{5, 7, most - 6, most, false},
		{0, most, 1, most, false},
		{0, most, 3, most - 2, false},
		{0, 1 << 63, 1 << 63, 1 << 63, false},
		{most - 7, 7, most, 3, false},
		{most - 6, 7, most, 3, true},
		{most - 6, 7, most, 7, true},
		{most, 7, most, 6, true},
		{most - 3, 7, most - 3, 4, true},
		{1, most, 1, most, true},
		{most, most, most, most, true},
	} {
		places(func(client int, s all) {
			s.of[client].free, s.of[client].held = x.free, x.held
			s.got = x.got
			w := filled(t, s)
			if got := w.f.Settle(client, x.fee); got != 0 {
				t.Errorf("of %v, Settle(%d, %d) is %d", x, client, x.fee, got)
			}
			if !x.stays {
				s.of[client].free += x.held
				s.of[client].held = 0
			}
			w.holds(t, s)
		})
	}
}

// Promise 7.1: Forfeit, of all that is held, of nothing, and where what was got would come above 2^64 - 1: then it stays held.
func TestForfeit(t *testing.T) {
	for _, x := range []struct{ free, held, got, want uint64 }{
		{0, 0, 0, 0},
		{5, 0, 6, 0},
		{5, 0, most, 0},
		{0, 1, 0, 1},
		{5, 7, 2, 7},
		{most, 7, 2, 7},
		{0, most, 0, most},
		{most, most, 0, most},
		{0, 1 << 63, 1<<63 - 1, 1 << 63},
		{0, 7, most - 7, 7},
		{0, 1, most - 1, 1},
		{0, 7, most - 6, 0},
		{5, 7, most - 6, 0},
		{0, 1, most, 0},
		{5, 7, most, 0},
		{0, most, 1, 0},
		{0, 1 << 63, 1 << 63, 0},
		{most, most, most, 0},
	} {
		places(func(client int, s all) {
			s.of[client].free, s.of[client].held = x.free, x.held
			s.got = x.got
			w := filled(t, s)
			for _, want := range []uint64{x.want, 0} {
				if got := w.f.Forfeit(client); got != want {
					t.Errorf("of %v, Forfeit(%d) is %d, not %d", x, client, got, want)
				}
				s.of[client].held -= want
				s.got += want
				w.holds(t, s)
			}
		})
	}
}

// Promise 7.1: what Forfeit left held goes back by Settle, or is got in parts for which there is room.
func TestBehindForfeit(t *testing.T) {
	s := all{of: []one{{1, 5, 7}}, got: most - 6}
	w := filled(t, s)
	tells(t, "Forfeit", w.f.Forfeit(0), 0)
	w.holds(t, s)
	tells(t, "Settle", w.f.Settle(0, 6), 6)
	s = all{of: []one{{1, 6, 0}}, got: most}
	w.holds(t, s)
	tells(t, "Hold", w.f.Hold(0, 2), 2)
	tells(t, "Forfeit", w.f.Forfeit(0), 0)
	tells(t, "Hold", w.f.Hold(0, 1), 1)
	s = all{of: []one{{1, 3, 3}}, got: most}
	w.holds(t, s)
	tells(t, "Settle", w.f.Settle(0, 1), 0)
	s = all{of: []one{{1, 6, 0}}, got: most}
	w.holds(t, s)
}

// Promise 7.1: Got is of all clients, by Settle and by Forfeit, and goes up only.
func TestGot(t *testing.T) {
	s := all{of: []one{{1, 100, 0}, {2, 200, 0}, {3, 300, 0}}}
	w := filled(t, s)
	for client := range 3 {
		tells(t, "Hold", w.f.Hold(client, 50), 50)
	}
	tells(t, "Got", w.f.Got(), 0)
	tells(t, "Settle", w.f.Settle(1, 30), 30)
	tells(t, "Got", w.f.Got(), 30)
	tells(t, "Forfeit", w.f.Forfeit(0), 50)
	tells(t, "Got", w.f.Got(), 80)
	tells(t, "Settle", w.f.Settle(2, 0), 0)
	tells(t, "Got", w.f.Got(), 80)
	tells(t, "Hold", w.f.Hold(2, 1), 1)
	tells(t, "Forfeit", w.f.Forfeit(2), 1)
	w.holds(t, all{of: []one{{1, 50, 0}, {2, 170, 0}, {3, 299, 0}}, got: 81})
}

// Promise 7.1: what is held of one is theirs alone: of all of 1,000, one behind the other.
func TestMany(t *testing.T) {
	s := all{of: make([]one, 1000)}
	for client := range s.of {
		s.of[client] = one{base: 3, free: uint64(client), held: uint64(client * 2)}
	}
	w := filled(t, s)
	for client := range s.of {
		x := &s.of[client]
		want := min(100, x.held)
		if client%2 == 0 {
			want = x.held
			tells(t, "Forfeit", w.f.Forfeit(client), want)
		} else {
			tells(t, "Settle", w.f.Settle(client, 100), want)
			x.free += x.held - want
		}
		x.held = 0
		s.got += want
	}
	w.holds(t, s)
}

// Rule 3: fees lean on the accounts themselves, not on a copy of them: what is done to one is seen by the other.
func TestAccountsThemselves(t *testing.T) {
	a := acct.New(1)
	f := hold.New(a)
	put(t, a, 0, api.Quote, 10)
	b := a.Copy()
	tells(t, "Hold", f.Hold(0, 4), 4)
	put(t, a, 0, api.Quote, 1)
	a.Take(0, api.Quote, 5)
	tells(t, "Hold", f.Hold(0, 9), 2)
	world{a, f}.holds(t, all{of: []one{{0, 0, 6}}})
	tells(t, "Free of a copy", b.Free(0, api.Quote), 10)
	tells(t, "Settle", f.Settle(0, 1), 1)
	world{a, f}.holds(t, all{of: []one{{0, 5, 0}}, got: 1})
	tells(t, "Free of a copy", b.Free(0, api.Quote), 10)
}

// Promise 7.1: what fees hold and got is their own, beside others of the same accounts and of other ones.
func TestTwo(t *testing.T) {
	s := all{of: []one{{1, 20, 0}, {2, 30, 0}}}
	w, other := filled(t, s), filled(t, s)
	beside := world{w.a, hold.New(w.a)}
	tells(t, "Hold", w.f.Hold(0, 5), 5)
	tells(t, "Hold", beside.f.Hold(0, 7), 7)
	tells(t, "Hold", beside.f.Hold(1, 40), 30)
	tells(t, "Forfeit", beside.f.Forfeit(1), 30)
	w.holds(t, all{of: []one{{1, 8, 5}, {2, 0, 0}}})
	beside.holds(t, all{of: []one{{1, 8, 7}, {2, 0, 0}}, got: 30})
	other.holds(t, s)
	tells(t, "Settle", w.f.Settle(0, 9), 5)
	w.holds(t, all{of: []one{{1, 8, 0}, {2, 0, 0}}, got: 5})
	beside.holds(t, all{of: []one{{1, 8, 7}, {2, 0, 0}}, got: 30})
	other.holds(t, s)
}

// Promise 7.2: a fee is at most what was held: of whatever is held, whatever Settle is asked for, and whatever was got.
func TestAtMostHeld(t *testing.T) {
	for _, held := range amounts {
		for _, fee := range amounts {
			for _, got := range amounts {
				s := all{of: []one{{5, 0, held}}, got: got}
				w := filled(t, s)
				want := min(held, fee)
				if want > most-got {
					want = 0
				}
				if paid := w.f.Settle(0, fee); paid != want {
					t.Errorf("of %d held, Settle(0, %d) is %d, not %d, where %d was got", held, fee, paid, want, got)
				}
				w.holds(t, all{of: []one{{5, held - want, 0}}, got: got + want})
				// Of what was free, and not held, nothing is got.
				put(t, w.a, 0, api.Quote, most-(held-want))
				tells(t, "Settle of nothing", w.f.Settle(0, fee), 0)
				tells(t, "Forfeit of nothing", w.f.Forfeit(0), 0)
				w.holds(t, all{of: []one{{5, most, 0}}, got: got + want})
			}
		}
	}
}

// whole tells n as a number of any size.
func whole(n uint64) *big.Int {
	return new(big.Int).SetUint64(n)
}

// quote tells all Quote that there is, free, held and got, as a number of any size.
func (w world) quote(clients int) *big.Int {
	sum := whole(w.f.Got())
	for client := range clients {
		sum.Add(sum, whole(w.a.Free(client, api.Quote)))
		sum.Add(sum, whole(w.f.Held(client)))
	}
	return sum
}

// W5: free, held and got come to what was put, at each step of whatever is done, and Base is never turned.
func TestNothingMadeOrLost(t *testing.T) {
	rnd := rand.New(rand.NewSource(7))
	for range 60 {
		clients := 1 + rnd.Intn(4)
		a := acct.New(clients)
		w := world{a, hold.New(a)}
		given := new(big.Int)
		for client := range clients {
			put(t, a, client, api.Base, uint64(client)+most-9)
		}
		for range 300 {
			client, n := rnd.Intn(clients+2)-1, rnd.Uint64()>>rnd.Intn(64)
			switch rnd.Intn(6) {
			case 0:
				if a.Put(client, api.Quote, n) == api.OK {
					given.Add(given, whole(n))
				}
			case 1:
				if a.Take(client, api.Quote, n) == api.OK {
					given.Sub(given, whole(n))
				}
			case 2, 3:
				w.f.Hold(client, n)
			case 4:
				w.f.Settle(client, n)
			case 5:
				w.f.Forfeit(client)
			}
			if got := w.quote(clients); got.Cmp(given) != 0 {
				t.Fatalf("there is %v, and %v was put", got, given)
			}
			for client := range clients {
				tells(t, "Free of Base", a.Free(client, api.Base), uint64(client)+most-9)
			}
		}
	}
}

// fits tells whether a + b is at most 2^64 - 1, by a way of its own: as whole numbers of any size.
func fits(a, b uint64) bool {
	return new(big.Int).Add(whole(a), whole(b)).IsUint64()
}

// hold does Hold to what s says, by the document's words.
func (s *all) hold(client int, fee uint64) uint64 {
	if client < 0 || client >= len(s.of) {
		return 0
	}
	x := &s.of[client]
	moves := x.free
	if fee < moves {
		moves = fee
	}
	if !fits(x.held, moves) {
		return 0
	}
	x.free -= moves
	x.held += moves
	return moves
}

// settle does Settle to what s says, by the document's words.
func (s *all) settle(client int, fee uint64) uint64 {
	if client < 0 || client >= len(s.of) {
		return 0
	}
	x := &s.of[client]
	paid := x.held
	if fee < paid {
		paid = fee
	}
	if !fits(s.got, paid) {
		paid = 0
	}
	s.got += paid
	x.held -= paid
	if fits(x.free, x.held) {
		x.free += x.held
		x.held = 0
	}
	return paid
}

// forfeit does Forfeit to what s says, by the document's words.
func (s *all) forfeit(client int) uint64 {
	if client < 0 || client >= len(s.of) || !fits(s.got, s.of[client].held) {
		return 0
	}
	paid := s.of[client].held
	s.of[client].held = 0
	s.got += paid
	return paid
}

// step does one thing to both, and says where they tell otherwise.
func (w world) step(t *testing.T, s *all, kind, client int, n uint64) {
	t.Helper()
	switch kind {
	case 0, 1, 2:
		tells(t, "Hold", w.f.Hold(client, n), s.hold(client, n))
	case 3, 4:
		tells(t, "Settle", w.f.Settle(client, n), s.settle(client, n))
	case 5:
		tells(t, "Forfeit", w.f.Forfeit(client), s.forfeit(client))
	case 6:
		if w.a.Take(client, api.Quote, n) == api.OK {
			s.of[client].free -= n
		}
	default:
		if w.a.Put(client, api.Quote, n) == api.OK {
			s.of[client].free += n
		}
	}
}

// Promises 7.1, 7.2, W5: whatever is done, held against the document's words in whole numbers of any size.
func TestAgainstWhole(t *testing.T) {
	rnd := rand.New(rand.NewSource(77))
	for range 200 {
		s := all{of: make([]one, rnd.Intn(4))}
		w := filled(t, s)
		for range 100 {
			w.step(t, &s, rnd.Intn(9), rnd.Intn(len(s.of)+2)-1, amounts[rnd.Intn(len(amounts))])
		}
		w.holds(t, s)
	}
}

// Promise 7.3: no call panics, at whatever numbers.
func TestEdges(t *testing.T) {
	numbers := append([]int{0, 1, 2, 999, 1000}, far...)
	for _, clients := range numbers {
		a := acct.New(clients)
		f := hold.New(a)
		for range 2 {
			for _, client := range numbers {
				for _, n := range amounts {
					a.Put(client, api.Quote, n)
					f.Forfeit(client)
					f.Settle(client, n)
					f.Hold(client, n)
					f.Held(client)
					f.Got()
				}
			}
		}
	}
}

// Promises 7.1 to 7.3: any clients, any numbers, any order.
func FuzzFees(f *testing.F) {
	f.Add(1, 0, uint64(5), uint64(3), uint64(0), []byte{8, 0, 3})
	f.Add(2, 1, uint64(most), uint64(most), uint64(1), []byte{8, 0, 9, 5, 8, 0, 5, 3})
	f.Add(3, 2, uint64(most), uint64(7), uint64(most), []byte{8, 16, 8, 3, 6, 3})
	f.Add(0, 0, uint64(1), uint64(2), uint64(3), []byte{0, 1, 2, 3, 4, 5, 6, 7, 8})
	f.Add(1000, 999, uint64(1), uint64(2), uint64(0), []byte{8, 0, 5})
	f.Add(math.MaxInt, math.MinInt, uint64(most), uint64(most), uint64(most), []byte{8, 0, 3, 5})
	f.Fuzz(func(t *testing.T, clients, client int, first, second, third uint64, script []byte) {
		s := all{of: make([]one, min(max(clients, 0), 1000))}
		a := acct.New(clients)
		w := world{a, hold.New(a)}
		for _, b := range script {
			n := [3]uint64{first, second, third}[b/9%3]
			w.step(t, &s, int(b%9), client+int(b/27%3), n)
		}
		w.holds(t, s)
	})
}
