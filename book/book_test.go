package book_test

import (
	"math"
	"math/rand"
	"slices"
	"testing"

	"tolsey/api"
	"tolsey/book"
)

const most = math.MaxUint64

// sides: a buyer that comes, and a seller.
var sides = []bool{true, false}

// amounts: prices and quantities at which a sum, a difference or a sign begins to turn.
var amounts = []uint64{0, 1, 2, 1<<20 - 1, 1 << 20, 1<<31 - 1, 1 << 31, 1<<32 - 1, 1 << 32, 1<<53 + 1, 1<<63 - 1, 1 << 63, 1<<63 + 1, most - 1, most}

// ids: numbers of orders and of clients at which a difference or a sign begins to turn.
var ids = []int{math.MinInt, math.MinInt + 1, math.MinInt32 - 1, math.MinInt32, -256, -2, -1, 0, 1, 2, 255, 256, math.MaxInt32, math.MaxInt32 + 1, 1 << 32, 1<<53 + 1, math.MaxInt - 1, math.MaxInt}

// order tells an order; its client hangs on its number, and is none other's.
func order(id int, buy bool, price, qty uint64) api.Order {
	return api.Order{ID: id, Client: 1000 - id, Buy: buy, Price: price, Qty: qty}
}

// words: a book by the document's words: all that stands, in the order in which it came.
type words struct {
	rows []api.Order
}

// ahead tells whether a is ahead of b on their side, by the document's words.
func ahead(a, b api.Order) bool {
	switch {
	case a.Price == b.Price:
		return a.ID < b.ID
	case a.Buy:
		return a.Price > b.Price
	}
	return a.Price < b.Price
}

// side tells those of one side, each behind those that are ahead of it: by taking the first one of them again and again.
func (w *words) side(buy bool) []api.Order {
	var row []api.Order
	rest := slices.DeleteFunc(slices.Clone(w.rows), func(o api.Order) bool { return o.Buy != buy })
	for len(rest) > 0 {
		first := 0
		for i := range rest {
			if ahead(rest[i], rest[first]) {
				first = i
			}
		}
		row = append(row, rest[first])
		rest = slices.Delete(rest, first, first+1)
	}
	return row
}

// place tells where the one with that ID is; -1, if there is none.
func (w *words) place(id int) int {
	return slices.IndexFunc(w.rows, func(o api.Order) bool { return o.ID == id })
}

// find tells the one with that ID.
func (w *words) find(id int) (api.Order, bool) {
	i := w.place(id)
	if i < 0 {
		return api.Order{}, false
	}
	return w.rows[i], true
}

// remove takes the one with that ID.
func (w *words) remove(id int) (api.Order, bool) {
	o, ok := w.find(id)
	if ok {
		w.rows = slices.Delete(w.rows, w.place(id), w.place(id)+1)
	}
	return o, ok
}

// rest has o stand.
func (w *words) rest(o api.Order) {
	if o.Qty > 0 {
		w.rows = append(w.rows, o)
	}
}

// match goes over the other side once, the first ahead.
func (w *words) match(o api.Order) ([]api.Trade, uint64) {
	var trades []api.Trade
	for _, s := range w.side(!o.Buy) {
		if o.Qty == 0 || o.Buy && s.Price > o.Price || !o.Buy && s.Price < o.Price {
			break
		}
		n := s.Qty
		if o.Qty < n {
			n = o.Qty
		}
		t := api.Trade{Maker: s.ID, Taker: o.ID, Buyer: s.Client, Seller: o.Client, Price: s.Price, Qty: n}
		if o.Buy {
			t.Buyer, t.Seller = o.Client, s.Client
		}
		trades = append(trades, t)
		o.Qty -= n
		w.rows[w.place(s.ID)].Qty -= n
		if n == s.Qty {
			w.remove(s.ID)
		}
	}
	return trades, o.Qty
}

// both: a book, and what it should be by the document's words.
type both struct {
	b *book.Book
	w words
}

// filled tells a new book in which these came to stand.
func filled(orders []api.Order) *both {
	p := &both{b: book.New()}
	for _, o := range orders {
		p.rest(o)
	}
	return p
}

// one says where a call that tells an order told another one than it should (where ok), or not none.
func one(t *testing.T, call string, got api.Order, is bool, want api.Order, ok bool) {
	t.Helper()
	if !ok {
		want = api.Order{}
	}
	if got != want || is != ok {
		t.Errorf("%s tells %v, %v, not %v, %v", call, got, is, want, ok)
	}
}

// holds says where the book has not just what it should; what is asked must turn nothing, so that it is asked twice.
func (p *both) holds(t *testing.T) {
	t.Helper()
	for range 2 {
		if got, want := p.b.Bids(), p.w.side(true); !slices.Equal(got, want) {
			t.Errorf("Bids tells %v, not %v", got, want)
		}
		if got, want := p.b.Asks(), p.w.side(false); !slices.Equal(got, want) {
			t.Errorf("Asks tells %v, not %v", got, want)
		}
		for _, id := range ids {
			p.find(t, id)
		}
		for _, o := range p.w.rows {
			p.find(t, o.ID)
		}
	}
}

// find says where the book finds another one than it should.
func (p *both) find(t *testing.T, id int) {
	t.Helper()
	got, is := p.b.Find(id)
	want, ok := p.w.find(id)
	one(t, "Find", got, is, want, ok)
}

// remove says where the book takes another one than it should.
func (p *both) remove(t *testing.T, id int) {
	t.Helper()
	got, is := p.b.Remove(id)
	want, ok := p.w.remove(id)
	one(t, "Remove", got, is, want, ok)
}

// rest has o stand in both.
func (p *both) rest(o api.Order) {
	p.b.Rest(o)
	p.w.rest(o)
}

// match says where the book trades otherwise than it should, and tells how much should be left.
func (p *both) match(t *testing.T, o api.Order) uint64 {
	t.Helper()
	got, n := p.b.Match(o)
	want, left := p.w.match(o)
	if !slices.Equal(got, want) || n != left {
		t.Errorf("Match of %v tells %v, %d, not %v, %d", o, got, n, want, left)
	}
	return left
}

// come has o meet the others, and what is left of it rest.
func (p *both) come(t *testing.T, o api.Order) {
	t.Helper()
	o.Qty = p.match(t, o)
	p.rest(o)
}

// uncrossed says where a bid's Price reaches an ask's.
func (p *both) uncrossed(t *testing.T) {
	t.Helper()
	bids, asks := p.b.Bids(), p.b.Asks()
	for _, bid := range bids {
		for _, ask := range asks {
			if bid.Price >= ask.Price {
				t.Fatalf("bid %v reaches ask %v", bid, ask)
			}
		}
	}
}

// Promise 9.1, the chapter's example: a new book, no trades.
func TestExample(t *testing.T) {
	for _, buy := range sides {
		for _, price := range amounts {
			for _, qty := range amounts {
				p := filled(nil)
				trades, left := p.b.Match(order(1, buy, price, qty))
				if len(trades) != 0 || left != qty {
					t.Errorf("Match in a new book tells %v, %d, not none, %d", trades, left, qty)
				}
				p.holds(t)
			}
		}
	}
}

// matches: what stands, what comes, and what is to come of it, written out.
type matches struct {
	name   string
	stand  []api.Order
	come   api.Order
	trades []api.Trade
	left   uint64
	still  []api.Order
}

// buyers: a buyer comes to sellers.
func buyers() []matches {
	asks := []api.Order{order(3, false, 7, 4), order(1, false, 5, 10), order(4, false, 5, 2), order(2, false, 6, 3)}
	first := api.Trade{Maker: 1, Taker: 9, Buyer: 991, Seller: 999, Price: 5, Qty: 10}
	second := api.Trade{Maker: 4, Taker: 9, Buyer: 991, Seller: 996, Price: 5, Qty: 2}
	third := api.Trade{Maker: 2, Taker: 9, Buyer: 991, Seller: 998, Price: 6, Qty: 3}
	last := api.Trade{Maker: 3, Taker: 9, Buyer: 991, Seller: 997, Price: 7, Qty: 4}
	part := func(t api.Trade, n uint64) api.Trade { t.Qty = n; return t }
	less := func(o api.Order, n uint64) api.Order { o.Qty = n; return o }
	one, four, two, three := asks[1], asks[2], asks[3], asks[0]
	all := []api.Order{one, four, two, three}
	return []matches{
		{"none reached", asks, order(9, true, 4, 100), nil, 100, all},
		{"none asked", asks, order(9, true, 7, 0), nil, 0, all},
		{"just the price, in part", asks, order(9, true, 5, 9), []api.Trade{part(first, 9)}, 0, []api.Order{less(one, 1), four, two, three}},
		{"just whole", asks, order(9, true, 5, 10), []api.Trade{first}, 0, all[1:]},
		{"whole and in part", asks, order(9, true, 5, 11), []api.Trade{first, part(second, 1)}, 0, []api.Order{less(four, 1), two, three}},
		{"of one price all", asks, order(9, true, 5, 12), []api.Trade{first, second}, 0, all[2:]},
		{"of one price, and some left", asks, order(9, true, 5, 13), []api.Trade{first, second}, 1, all[2:]},
		{"of two prices", asks, order(9, true, 6, 100), []api.Trade{first, second, third}, 85, all[3:]},
		{"of two prices, the last in part", asks, order(9, true, 100, 14), []api.Trade{first, second, part(third, 2)}, 0, []api.Order{less(two, 1), three}},
		{"of all, in part", asks, order(9, true, 7, 18), []api.Trade{first, second, third, part(last, 3)}, 0, []api.Order{less(three, 1)}},
		{"of all, whole", asks, order(9, true, 7, 19), []api.Trade{first, second, third, last}, 0, nil},
		{"of all, and some left", asks, order(9, true, 7, 20), []api.Trade{first, second, third, last}, 1, nil},
		{"above all", asks, order(9, true, most, most), []api.Trade{first, second, third, last}, most - 19, nil},
	}
}

// sellers: a seller comes to buyers.
func sellers() []matches {
	bids := []api.Order{order(3, true, 5, 4), order(1, true, 7, 10), order(4, true, 7, 2), order(2, true, 6, 3)}
	first := api.Trade{Maker: 1, Taker: 9, Buyer: 999, Seller: 991, Price: 7, Qty: 10}
	second := api.Trade{Maker: 4, Taker: 9, Buyer: 996, Seller: 991, Price: 7, Qty: 2}
	third := api.Trade{Maker: 2, Taker: 9, Buyer: 998, Seller: 991, Price: 6, Qty: 3}
	last := api.Trade{Maker: 3, Taker: 9, Buyer: 997, Seller: 991, Price: 5, Qty: 4}
	part := func(t api.Trade, n uint64) api.Trade { t.Qty = n; return t }
	less := func(o api.Order, n uint64) api.Order { o.Qty = n; return o }
	one, four, two, three := bids[1], bids[2], bids[3], bids[0]
	all := []api.Order{one, four, two, three}
	return []matches{
		{"none reached", bids, order(9, false, 8, 100), nil, 100, all},
		{"none asked", bids, order(9, false, 5, 0), nil, 0, all},
		{"just the price, in part", bids, order(9, false, 7, 9), []api.Trade{part(first, 9)}, 0, []api.Order{less(one, 1), four, two, three}},
		{"just whole", bids, order(9, false, 7, 10), []api.Trade{first}, 0, all[1:]},
		{"whole and in part", bids, order(9, false, 7, 11), []api.Trade{first, part(second, 1)}, 0, []api.Order{less(four, 1), two, three}},
		{"of one price all", bids, order(9, false, 7, 12), []api.Trade{first, second}, 0, all[2:]},
		{"of one price, and some left", bids, order(9, false, 7, 13), []api.Trade{first, second}, 1, all[2:]},
		{"of two prices", bids, order(9, false, 6, 100), []api.Trade{first, second, third}, 85, all[3:]},
		{"of two prices, the last in part", bids, order(9, false, 1, 14), []api.Trade{first, second, part(third, 2)}, 0, []api.Order{less(two, 1), three}},
		{"of all, in part", bids, order(9, false, 5, 18), []api.Trade{first, second, third, part(last, 3)}, 0, []api.Order{less(three, 1)}},
		{"of all, whole", bids, order(9, false, 5, 19), []api.Trade{first, second, third, last}, 0, nil},
		{"of all, and some left", bids, order(9, false, 5, 20), []api.Trade{first, second, third, last}, 1, nil},
		{"below all", bids, order(9, false, 0, most), []api.Trade{first, second, third, last}, most - 19, nil},
	}
}

// Promise 9.1: Match, against what is written out: whom it meets, in which order, at which price, and what is left of each.
func TestMatch(t *testing.T) {
	for _, m := range slices.Concat(buyers(), sellers()) {
		for range 2 {
			b := filled(m.stand).b
			trades, left := b.Match(m.come)
			if !slices.Equal(trades, m.trades) || left != m.left {
				t.Errorf("%s: Match of %v tells %v, %d, not %v, %d", m.name, m.come, trades, left, m.trades, m.left)
			}
			others, own := b.Asks(), b.Bids()
			if !m.come.Buy {
				others, own = own, others
			}
			if !slices.Equal(others, m.still) || len(own) != 0 {
				t.Errorf("%s: behind it stand %v and %v, not %v", m.name, others, own, m.still)
			}
			if o, ok := b.Find(m.come.ID); ok {
				t.Errorf("%s: what came stands there by Match: %v", m.name, o)
			}
			// In which order they came to stand is all one.
			slices.Reverse(m.stand)
		}
	}
}

// Promise 9.1: those of the own side are not met, at whatever price, and stay as they are.
func TestOwnSide(t *testing.T) {
	for _, buy := range sides {
		p := filled([]api.Order{order(1, buy, 5, 3), order(2, buy, 0, 3), order(3, buy, most, 3)})
		for _, price := range amounts {
			if left := p.match(t, order(9, buy, price, 7)); left != 7 {
				t.Errorf("of 7, %d are left", left)
			}
			p.holds(t)
		}
	}
}

// Promise 9.1: one of the same client, and one with the same number, is met like any other one.
func TestOwnOrder(t *testing.T) {
	for _, buy := range sides {
		b := book.New()
		b.Rest(api.Order{ID: 4, Client: 6, Buy: !buy, Price: 5, Qty: 3})
		trades, left := b.Match(api.Order{ID: 4, Client: 6, Buy: buy, Price: 5, Qty: 5})
		want := []api.Trade{{Maker: 4, Taker: 4, Buyer: 6, Seller: 6, Price: 5, Qty: 3}}
		if !slices.Equal(trades, want) || left != 2 {
			t.Errorf("Match tells %v, %d, not %v, 2", trades, left, want)
		}
	}
}

// Promise 9.1: against one order, at all prices and quantities at the edges, of both.
func TestOneAtEdges(t *testing.T) {
	for _, buy := range sides {
		for _, price := range amounts {
			for _, own := range amounts {
				for _, qty := range amounts {
					p := filled([]api.Order{order(1, !buy, price, 1<<63)})
					p.match(t, order(2, buy, own, qty))
					p.holds(t)
					p = filled([]api.Order{order(1, !buy, price, qty)})
					p.match(t, order(2, buy, own, 1<<63))
					p.holds(t)
				}
			}
		}
	}
}

// Promise 9.1: numbers of orders and of clients are told whole, and of one price the least ID is ahead, also of those below 0.
func TestNumbers(t *testing.T) {
	for _, buy := range sides {
		p := filled(nil)
		for i, id := range slices.Backward(ids) {
			p.rest(api.Order{ID: id, Client: ids[(i+7)%len(ids)], Buy: !buy, Price: 5, Qty: 2})
		}
		p.holds(t)
		for i, id := range ids {
			p.match(t, api.Order{ID: id, Client: ids[(i+3)%len(ids)], Buy: buy, Price: 5, Qty: 1 + uint64(i%3)})
		}
		p.holds(t)
	}
}

// Promise 9.1: Rest, of none and of some, of both sides; what rests meets nothing, whatever its price.
func TestRest(t *testing.T) {
	for _, buy := range sides {
		for _, price := range amounts {
			for _, qty := range amounts {
				p := filled([]api.Order{order(1, !buy, 5, 3)})
				p.rest(order(2, buy, price, qty))
				p.holds(t)
				if _, ok := p.b.Find(2); ok != (qty > 0) {
					t.Errorf("with Qty %d, that it stands is %v", qty, ok)
				}
			}
		}
	}
}

// standing: many of both sides, of prices that are alike and that are not.
func standing() []api.Order {
	var orders []api.Order
	for i := range 40 {
		buy := i%2 == 0
		price := uint64(10 + i*7%5)
		if !buy {
			price += 10
		}
		orders = append(orders, order(i*13%40+1, buy, price, uint64(i+1)))
	}
	return orders
}

// Promise 9.1: Remove and Find, of each one, whether first, last or in between, of either side, of one that went and of none.
func TestRemove(t *testing.T) {
	for _, o := range standing() {
		p := filled(standing())
		for range 2 {
			p.remove(t, o.ID)
			p.holds(t)
			p.find(t, o.ID)
		}
	}
	p := filled(standing())
	for _, id := range []int{0, -1, 41, math.MinInt, math.MaxInt} {
		p.remove(t, id)
		p.find(t, id)
	}
	p.holds(t)
}

// Promise 9.1: all are removed, from the first to the last one, the other way, and in any order.
func TestRemoveAll(t *testing.T) {
	orders := filled(standing()).w
	row := slices.Concat(orders.side(true), orders.side(false))
	back := slices.Clone(row)
	slices.Reverse(back)
	mixed := slices.Clone(row)
	rand.New(rand.NewSource(9)).Shuffle(len(mixed), func(i, j int) { mixed[i], mixed[j] = mixed[j], mixed[i] })
	for _, way := range [][]api.Order{row, back, mixed} {
		p := filled(standing())
		for _, o := range way {
			p.remove(t, o.ID)
			p.holds(t)
		}
		if len(p.b.Bids()) != 0 || len(p.b.Asks()) != 0 {
			t.Error("some are left")
		}
	}
}

// Promise 9.1: one that was removed is not met, and one that was met whole is neither found nor removed.
func TestGone(t *testing.T) {
	for _, buy := range sides {
		p := filled([]api.Order{order(1, !buy, 5, 2), order(2, !buy, 5, 2), order(3, !buy, 5, 2)})
		p.remove(t, 1)
		p.match(t, order(9, buy, 5, 3))
		for _, id := range []int{1, 2, 3} {
			p.find(t, id)
		}
		p.remove(t, 2)
		p.holds(t)
		p.remove(t, 3)
		p.match(t, order(10, buy, 5, 3))
		p.holds(t)
	}
}

// Promise 9.1: Bids and Asks, the first ahead, of none, one and many.
func TestSides(t *testing.T) {
	p := filled(nil)
	p.holds(t)
	for _, o := range standing() {
		p.rest(o)
		p.holds(t)
	}
	b := filled([]api.Order{order(5, true, 3, 1), order(2, true, 4, 1), order(1, true, 3, 1), order(8, false, 6, 1), order(4, false, 5, 1), order(3, false, 6, 1)}).b
	bids := []api.Order{order(2, true, 4, 1), order(1, true, 3, 1), order(5, true, 3, 1)}
	asks := []api.Order{order(4, false, 5, 1), order(3, false, 6, 1), order(8, false, 6, 1)}
	if got := b.Bids(); !slices.Equal(got, bids) {
		t.Errorf("Bids tells %v, not %v", got, bids)
	}
	if got := b.Asks(); !slices.Equal(got, asks) {
		t.Errorf("Asks tells %v, not %v", got, asks)
	}
}

// Promise 9.1: what was cut stays ahead of those behind it, and is met again ahead of them.
func TestAgain(t *testing.T) {
	for _, buy := range sides {
		p := filled([]api.Order{order(1, !buy, 5, 100), order(2, !buy, 5, 100)})
		for i := range 30 {
			p.match(t, order(10+i, buy, 5, uint64(i%9)))
			p.holds(t)
		}
	}
}

// turn changes all of a list, its spare room too.
func turn[T any](list []T, to T) {
	list = list[:cap(list)]
	for i := range list {
		list[i] = to
	}
}

// Rule 3: what was told may be turned by who has it; the book keeps its own, and tells new ones.
func TestAnswersAreNew(t *testing.T) {
	for _, buy := range sides {
		p := filled(standing())
		kept, left := p.b.Match(order(90, buy, 15, 30))
		if want, n := p.w.match(order(90, buy, 15, 30)); !slices.Equal(kept, want) || left != n {
			t.Errorf("Match tells %v, %d, not %v, %d", kept, left, want, n)
		}
		before := slices.Clone(kept)
		for range 3 {
			bids, asks := p.b.Bids(), p.b.Asks()
			turn(bids, order(77, true, 99, 99))
			turn(asks, order(78, false, 0, 99))
			_ = append(p.b.Bids(), order(79, true, 98, 98))
			_ = append(p.b.Asks(), order(80, false, 1, 98))
			p.holds(t)
		}
		trades, _ := p.b.Match(order(91, !buy, 15, 30))
		p.w.match(order(91, !buy, 15, 30))
		turn(trades, api.Trade{Maker: 5, Taker: 5, Price: 5, Qty: 5})
		p.match(t, order(92, buy, 30, 50))
		p.holds(t)
		if !slices.Equal(kept, before) {
			t.Errorf("what Match told turned: %v, not %v", kept, before)
		}
	}
}

// Rule 3: two books share nothing.
func TestTwo(t *testing.T) {
	p, q := filled(standing()), filled(nil)
	q.holds(t)
	q.rest(order(1, true, 7, 7))
	q.match(t, order(99, false, 7, 3))
	p.holds(t)
	p.match(t, order(98, true, most, most))
	q.holds(t)
}

// step does one thing to both, and says where they tell otherwise. (An ID that stands there does not come again.)
func (p *both) step(t *testing.T, kind int, o api.Order) {
	t.Helper()
	there := p.w.place(o.ID) >= 0
	switch {
	case kind == 0:
		p.remove(t, o.ID)
	case kind == 1:
		p.match(t, o)
	case there:
		p.find(t, o.ID)
	default:
		p.come(t, o)
	}
}

// Promises 9.1, 9.2: whatever is done, held against the document's words; and where what is left of each comes to rest, no bid reaches an ask.
func TestAgainstWords(t *testing.T) {
	rnd := rand.New(rand.NewSource(9))
	for round := range 150 {
		p := filled(nil)
		for range 120 {
			o := api.Order{ID: rnd.Intn(90) - 20, Client: rnd.Intn(9), Buy: rnd.Intn(2) == 0, Price: uint64(rnd.Intn(8)), Qty: uint64(rnd.Intn(12))}
			if round%5 == 0 {
				o.ID, o.Price, o.Qty = ids[rnd.Intn(len(ids))], amounts[rnd.Intn(len(amounts))], amounts[rnd.Intn(len(amounts))]
			}
			p.step(t, rnd.Intn(8), o)
			p.uncrossed(t)
		}
		p.holds(t)
	}
}

// Promise 9.2: each price behind each other one, of both sides: what was matched is not crossed.
func TestNeverCrossed(t *testing.T) {
	for _, buy := range sides {
		for _, first := range amounts {
			for _, second := range amounts {
				for _, qty := range []uint64{1, 5, 9, most} {
					p := filled(nil)
					p.come(t, order(1, buy, first, 5))
					p.come(t, order(2, !buy, second, qty))
					p.uncrossed(t)
					p.come(t, order(3, buy, second, qty))
					p.uncrossed(t)
					p.come(t, order(4, !buy, first, qty))
					p.uncrossed(t)
					p.holds(t)
				}
			}
		}
	}
}

// Promise 9.1: many orders are met as few are.
func TestMany(t *testing.T) {
	const many = 20000
	for _, buy := range sides {
		b := book.New()
		for _, i := range rand.New(rand.NewSource(90)).Perm(many) {
			b.Rest(order(i, !buy, 7, 2))
		}
		trades, left := b.Match(order(many, buy, 7, 2*many+1))
		if len(trades) != many || left != 1 {
			t.Fatalf("%d trades, and %d left", len(trades), left)
		}
		for i, trade := range trades {
			if trade.Maker != i || trade.Taker != many || trade.Qty != 2 || trade.Price != 7 {
				t.Fatalf("trade %d is %v", i, trade)
			}
		}
		if len(b.Bids()) != 0 || len(b.Asks()) != 0 {
			t.Error("some are left")
		}
	}
}

// Promise 9.3: no call panics and each one ends, at whatever numbers, like IDs and a crossed book too.
func TestEdges(t *testing.T) {
	b := book.New()
	for round := range 3 {
		for _, id := range ids {
			for _, n := range amounts {
				for _, buy := range sides {
					b.Find(id)
					b.Match(api.Order{ID: id, Client: -id, Buy: buy, Price: n, Qty: most - n})
					if round != 1 {
						b.Remove(id)
						continue
					}
					b.Rest(api.Order{ID: id, Client: id, Buy: buy, Price: n, Qty: n})
					b.Rest(api.Order{ID: id, Client: id, Buy: !buy, Price: most - n, Qty: most})
				}
			}
			b.Bids()
			b.Asks()
		}
	}
	for _, buy := range sides {
		for range 3 {
			b.Match(order(1, buy, 0, most))
			b.Match(order(1, buy, most, most))
		}
	}
	b.Bids()
	b.Asks()
}

// Promises 9.1 to 9.3: any orders, any numbers, any order of coming.
func FuzzBook(f *testing.F) {
	f.Add(1, uint64(5), uint64(3), uint64(0), []byte{8, 0, 3})
	f.Add(-1, uint64(most), uint64(most), uint64(1), []byte{7, 47, 87, 2, 1, 0, 0})
	f.Add(math.MaxInt, uint64(most), uint64(7), uint64(most), []byte{3, 11, 19, 27, 1, 9, 2})
	f.Add(math.MinInt, uint64(0), uint64(2), uint64(3), []byte{0, 1, 2, 3, 4, 5, 6, 7, 8})
	f.Fuzz(func(t *testing.T, id int, first, second, third uint64, script []byte) {
		// The words go over all that stands again and again: long scripts tell nothing more.
		script = script[:min(len(script), 200)]
		p := filled(nil)
		for i, x := range script {
			price := [3]uint64{first, second, third}[(int(x)+i)%3]
			o := api.Order{ID: id + i%23, Client: id - i, Buy: x&8 == 0, Price: price, Qty: second + uint64(i%3)*third}
			if x&16 == 0 {
				o.Qty = uint64(x)
			}
			p.step(t, int(x%8), o)
			p.uncrossed(t)
		}
		p.holds(t)
	})
}
