package prio_test

import (
	"math"
	"math/rand"
	"slices"
	"testing"

	"tolsey/api"
	"tolsey/prio"
)

const most = math.MaxUint64

// ups: both kinds of queues.
var ups = []bool{true, false}

// amounts: prices and quantities at which a sum, a difference or a sign begins to turn.
var amounts = []uint64{0, 1, 2, 1<<31 - 1, 1 << 31, 1<<32 - 1, 1 << 32, 1<<32 + 1, 1<<53 - 1, 1 << 53, 1<<53 + 1, 1<<63 - 1, 1 << 63, 1<<63 + 1, most - 1, most}

// ids: numbers of orders at which a difference or a sign begins to turn, or that could be taken for each other when bits are cut off.
var ids = []int{math.MinInt, math.MinInt + 1, -1 << 32, math.MinInt32 - 1, math.MinInt32, -256, -2, -1, 0, 1, 2, 255, 256, math.MaxInt32, math.MaxInt32 + 1, 1 << 32, 1<<32 + 1, 1 << 53, 1<<53 + 1, math.MaxInt - 1, math.MaxInt}

// order tells an order of that number and price, in which all else hangs on the number.
func order(id int, price uint64) api.Order {
	return api.Order{ID: id, Client: 7 - id, Buy: id%2 == 0, Price: price, Qty: uint64(id) + 100}
}

// at tells orders of these prices, numbered from 1 on.
func at(prices ...uint64) []api.Order {
	var orders []api.Order
	for i, price := range prices {
		orders = append(orders, order(i+1, price))
	}
	return orders
}

// filled tells a new queue to which these came, in that order.
func filled(up bool, orders []api.Order) *prio.Queue {
	q := prio.New(up)
	for _, o := range orders {
		q.Push(o)
	}
	return q
}

// ahead tells whether a is ahead of b, by the document's words.
func ahead(up bool, a, b api.Order) bool {
	switch {
	case a.Price == b.Price:
		return a.ID < b.ID
	case up:
		return a.Price < b.Price
	}
	return a.Price > b.Price
}

// ranked tells the same orders, each behind those that are ahead of it: by taking the first one of them again and again.
func ranked(up bool, orders []api.Order) []api.Order {
	var row []api.Order
	rest := slices.Clone(orders)
	for len(rest) > 0 {
		first := 0
		for i := range rest {
			if ahead(up, rest[i], rest[first]) {
				first = i
			}
		}
		row = append(row, rest[first])
		rest = slices.Delete(rest, first, first+1)
	}
	return row
}

// one says where a call that tells an order told another one than it should (where ok), or not none.
func one(t *testing.T, call string, got api.Order, is bool, want api.Order, ok bool) {
	t.Helper()
	if !ok {
		want = api.Order{}
	}
	if got != want || is != ok {
		t.Errorf("%s tells %v, %v, not %v, %v", call, got, is, want, ok)
	}
}

// peeks says where Peek tells another one than the first of row.
func peeks(t *testing.T, q *prio.Queue, row []api.Order) {
	t.Helper()
	got, is := q.Peek()
	if len(row) == 0 {
		one(t, "Peek", got, is, api.Order{}, false)
		return
	}
	one(t, "Peek", got, is, row[0], true)
}

// holds says where q has not just what row says, in that order; what is asked must turn nothing, so that it is asked twice.
func holds(t *testing.T, q *prio.Queue, row []api.Order) {
	t.Helper()
	for range 2 {
		if got := q.Len(); got != len(row) {
			t.Errorf("Len is %d, not %d", got, len(row))
		}
		peeks(t, q, row)
		if got := q.All(); !slices.Equal(got, row) {
			t.Errorf("All tells %v, not %v", got, row)
		}
		for _, o := range row {
			got, is := q.Find(o.ID)
			one(t, "Find", got, is, o, true)
		}
		for _, id := range ids {
			if i := slices.IndexFunc(row, func(o api.Order) bool { return o.ID == id }); i < 0 {
				got, is := q.Find(id)
				one(t, "Find of none", got, is, api.Order{}, false)
			}
		}
	}
}

// empties pops all of q, says where that is not row, and that nothing is told of none.
func empties(t *testing.T, q *prio.Queue, row []api.Order) {
	t.Helper()
	for i, o := range row {
		peeks(t, q, row[i:])
		got, is := q.Pop()
		one(t, "Pop", got, is, o, true)
		if n := q.Len(); n != len(row)-i-1 {
			t.Errorf("Len is %d behind Pop, not %d", n, len(row)-i-1)
		}
	}
	none(t, q, row)
}

// none says where q, in which row once stood, tells anything, or comes to have anything by what is asked of none.
func none(t *testing.T, q *prio.Queue, row []api.Order) {
	t.Helper()
	for range 2 {
		holds(t, q, nil)
		got, is := q.Pop()
		one(t, "Pop of none", got, is, api.Order{}, false)
		for _, n := range amounts {
			q.Cut(n)
		}
		for _, id := range ids {
			got, is = q.Remove(id)
			one(t, "Remove of none", got, is, api.Order{}, false)
		}
		for _, o := range row {
			got, is = q.Find(o.ID)
			one(t, "Find of one that went", got, is, api.Order{}, false)
			got, is = q.Remove(o.ID)
			one(t, "Remove of one that went", got, is, api.Order{}, false)
		}
	}
}

// rows: orders that rise, fall, are of one price, stand between each other, and are at the edges.
func rows() [][]api.Order {
	many := at()
	for i := range 100 {
		many = append(many, order(i+1, uint64(i*37%20)))
	}
	var numbers []api.Order
	for _, id := range ids {
		numbers = append(numbers, order(id, 5))
	}
	return [][]api.Order{
		nil,
		at(0),
		at(5),
		at(most),
		at(5, 6),
		at(6, 5),
		at(5, 5),
		at(1, 2, 3, 4, 5, 6, 7),
		at(7, 6, 5, 4, 3, 2, 1),
		at(4, 4, 4, 4, 4, 4, 4),
		at(4, 2, 6, 1, 3, 5, 7),
		at(5, 3, 5, 3, 5, 4, 4, 3),
		at(0, most, 0, most, 1, most-1),
		at(amounts...),
		many,
		numbers,
	}
}

// turned tells orders as they stand, the last one ahead, and in some other orders of coming.
func turned(orders []api.Order) [][]api.Order {
	back := slices.Clone(orders)
	slices.Reverse(back)
	all := [][]api.Order{orders, back}
	rnd := rand.New(rand.NewSource(int64(len(orders))))
	for range 5 {
		mixed := slices.Clone(orders)
		rnd.Shuffle(len(mixed), func(i, j int) { mixed[i], mixed[j] = mixed[j], mixed[i] })
		all = append(all, mixed)
	}
	return all
}

// each has try for each of the rows, in many orders of coming, and both kinds of queues.
func each(try func(up bool, orders, row []api.Order)) {
	for _, orders := range rows() {
		for _, coming := range turned(orders) {
			for _, up := range ups {
				try(up, coming, ranked(up, orders))
			}
		}
	}
}

// Promise 8.1: a new queue has none, and what is asked of none brings none.
func TestNew(t *testing.T) {
	for _, up := range ups {
		q := prio.New(up)
		none(t, q, nil)
		// It takes orders all the same.
		q.Push(order(1, 5))
		holds(t, q, at(5))
	}
}

// The chapter's example.
func TestExample(t *testing.T) {
	got, is := prio.New(true).Peek()
	one(t, "Peek of a new queue", got, is, api.Order{}, false)
}

// Promise 8.1: the first one has the least price where up, and else the greatest; of one price the least ID.
func TestFirst(t *testing.T) {
	for _, x := range []struct {
		prices   []uint64
		up, down []int
	}{
		{[]uint64{5}, []int{1}, []int{1}},
		{[]uint64{5, 6}, []int{1, 2}, []int{2, 1}},
		{[]uint64{6, 5}, []int{2, 1}, []int{1, 2}},
		{[]uint64{5, 5}, []int{1, 2}, []int{1, 2}},
		{[]uint64{1, 2, 3, 4}, []int{1, 2, 3, 4}, []int{4, 3, 2, 1}},
		{[]uint64{4, 3, 2, 1}, []int{4, 3, 2, 1}, []int{1, 2, 3, 4}},
		{[]uint64{4, 4, 4, 4}, []int{1, 2, 3, 4}, []int{1, 2, 3, 4}},
		{[]uint64{2, 3, 1, 3, 2, 1}, []int{3, 6, 1, 5, 2, 4}, []int{2, 4, 1, 5, 3, 6}},
		{[]uint64{0, most, 1 << 63, 0, most, 1<<63 - 1}, []int{1, 4, 6, 3, 2, 5}, []int{2, 5, 3, 6, 1, 4}},
	} {
		for _, up := range ups {
			want := x.down
			if up {
				want = x.up
			}
			var row []api.Order
			for _, id := range want {
				row = append(row, order(id, x.prices[id-1]))
			}
			for _, coming := range turned(at(x.prices...)) {
				q := filled(up, coming)
				holds(t, q, row)
				empties(t, q, row)
			}
		}
	}
}

// Promise 8.1: of one price the one with the least ID is ahead, below 0 and at the edges too, whatever the order of coming.
func TestOnePrice(t *testing.T) {
	for _, price := range amounts {
		var row []api.Order
		for _, id := range ids { // rising
			row = append(row, order(id, price))
		}
		for _, coming := range turned(row) {
			for _, up := range ups {
				q := filled(up, coming)
				holds(t, q, row)
				empties(t, q, row)
			}
		}
	}
}

// Promise 8.1: who is first hangs on Price and ID alone, not on Client, Buy or Qty, and all of an order is told.
func TestAllOfIt(t *testing.T) {
	row := []api.Order{
		{ID: 1, Client: 9, Buy: true, Price: 5, Qty: 3},
		{ID: 2, Client: -4, Buy: false, Price: 5, Qty: most},
		{ID: 3, Client: math.MaxInt, Buy: true, Price: 5, Qty: 0},
		{ID: 4, Client: math.MinInt, Buy: false, Price: 5, Qty: 1 << 63},
		{ID: 5, Price: 5},
	}
	for _, coming := range turned(row) {
		for _, up := range ups {
			q := filled(up, coming)
			holds(t, q, row)
			empties(t, q, row)
		}
	}
}

// Promise 8.1: each order of coming of a few, and each kind of queue.
func TestComing(t *testing.T) {
	var try func(got, rest []api.Order)
	try = func(got, rest []api.Order) {
		if len(rest) == 0 {
			for _, up := range ups {
				row := ranked(up, got)
				q := filled(up, got)
				if all := q.All(); !slices.Equal(all, row) {
					t.Errorf("of %v, All tells %v", got, all)
				}
				for _, o := range row {
					first, is := q.Pop()
					one(t, "Pop", first, is, o, true)
				}
			}
			return
		}
		for i := range rest {
			left := slices.Delete(slices.Clone(rest), i, i+1)
			try(append(slices.Clone(got), rest[i]), left)
		}
	}
	try(nil, at(1, 2, 3, 4, 5, 6))
	try(nil, at(2, 1, 2, 3, 1, 2))
	try(nil, at(4, 4, 4, 4, 4, 4))
}

// Promise 8.2: W5: prices ahead of time: Pop again and again tells by price, and of one price by ID; then there is none.
func TestPop(t *testing.T) {
	each(func(up bool, orders, row []api.Order) {
		q := filled(up, orders)
		holds(t, q, row)
		empties(t, q, row)
		// It is a queue as any other behind that.
		for _, o := range orders {
			q.Push(o)
		}
		holds(t, q, row)
		empties(t, q, row)
	})
}

// Promise 8.2: what comes between two Pops stands where its price and its ID say.
func TestBetween(t *testing.T) {
	each(func(up bool, orders, row []api.Order) {
		q := prio.New(up)
		var there []api.Order
		for i, o := range orders {
			q.Push(o)
			there = ranked(up, append(there, o))
			if i%3 == 2 {
				got, is := q.Pop()
				one(t, "Pop", got, is, there[0], true)
				there = there[1:]
			}
			holds(t, q, there)
		}
		empties(t, q, there)
	})
	// A better price is ahead of an order that came long ago, one of the same price is not.
	for _, x := range []struct {
		up           bool
		better, less uint64
	}{{true, 4, 6}, {false, 6, 4}} {
		q := filled(x.up, []api.Order{order(1, 5)})
		q.Push(order(2, 5))
		q.Push(order(3, x.less))
		q.Push(order(4, x.better))
		empties(t, q, []api.Order{order(4, x.better), order(1, 5), order(2, 5), order(3, x.less)})
	}
}

// Promise 8.1: Cut of less than the first one's Qty, of as much, of more and of 0: it alone turns, and stands where it stood.
func TestCut(t *testing.T) {
	for _, x := range []struct{ qty, n, want uint64 }{
		{0, 0, 0},
		{0, 1, 0},
		{0, most, 0},
		{5, 0, 5},
		{5, 1, 4},
		{5, 4, 1},
		{5, 5, 0},
		{5, 6, 5},
		{5, 1<<32 + 1, 5},
		{5, most, 5},
		{1 << 32, 1, 1<<32 - 1},
		{1 << 63, 1<<63 - 1, 1},
		{1 << 63, 1 << 63, 0},
		{1 << 63, 1<<63 + 1, 1 << 63},
		{1<<63 - 1, 1 << 63, 1<<63 - 1},
		{most, 0, most},
		{most, 1, most - 1},
		{most, most - 1, 1},
		{most, most, 0},
		{most - 1, most, most - 1},
	} {
		each(func(up bool, orders, row []api.Order) {
			if len(row) == 0 || len(row) > 20 {
				return
			}
			coming := slices.Clone(orders)
			for i := range coming {
				coming[i].Qty = x.qty // a Cut may not take the others for the first one
			}
			row = ranked(up, coming)
			row[0].Qty = x.want
			q := filled(up, coming)
			q.Cut(x.n)
			holds(t, q, row)
			got, is := q.Pop()
			one(t, "Pop behind Cut", got, is, row[0], true)
			empties(t, q, row[1:])
		})
	}
}

// Promise 8.1: Cut again and again: of the first one alone, till it has nothing left; it stays, and goes only by Pop or Remove.
func TestCutAgain(t *testing.T) {
	for _, up := range ups {
		row := ranked(up, at(5, 7, 6))
		row[0].Qty, row[1].Qty, row[2].Qty = 3, 2, 9
		q := filled(up, row)
		for _, left := range []uint64{2, 1, 0, 0, 0} {
			q.Cut(1)
			row[0].Qty = left
			holds(t, q, row)
		}
		got, is := q.Remove(row[0].ID)
		one(t, "Remove behind Cut", got, is, row[0], true)
		q.Cut(3)
		holds(t, q, row[1:])
		q.Cut(2)
		row[1].Qty = 0
		holds(t, q, row[1:])
		// One that comes ahead of it is the one that is cut then.
		better := api.Order{ID: -1, Price: row[1].Price, Qty: 8}
		q.Push(better)
		q.Cut(5)
		better.Qty = 3
		holds(t, q, []api.Order{better, row[1], row[2]})
		empties(t, q, []api.Order{better, row[1], row[2]})
	}
}

// Promise 8.1: Remove of each one, the first, the last and those in between: it is told, and the others stand as they stood.
func TestRemove(t *testing.T) {
	each(func(up bool, orders, row []api.Order) {
		for i, o := range row {
			if i > 3 && i < len(row)-4 && i%7 != 0 {
				continue
			}
			q := filled(up, orders)
			got, is := q.Remove(o.ID)
			one(t, "Remove", got, is, o, true)
			got, is = q.Remove(o.ID)
			one(t, "Remove of one that went", got, is, api.Order{}, false)
			got, is = q.Find(o.ID)
			one(t, "Find of one that went", got, is, api.Order{}, false)
			rest := slices.Delete(slices.Clone(row), i, i+1)
			holds(t, q, rest)
			// One of that ID may come again, and stands where it stood.
			q.Push(o)
			holds(t, q, row)
			q.Remove(o.ID)
			empties(t, q, rest)
		}
	})
}

// Promise 8.1: Remove of all, one behind the other, in the order of coming; the rest stands as it stood behind each.
func TestRemoveAll(t *testing.T) {
	each(func(up bool, orders, row []api.Order) {
		for _, going := range turned(orders)[:4] {
			q := filled(up, orders)
			rest := slices.Clone(row)
			for _, o := range going {
				got, is := q.Remove(o.ID)
				one(t, "Remove", got, is, o, true)
				rest = slices.DeleteFunc(rest, func(x api.Order) bool { return x.ID == o.ID })
				if all := q.All(); !slices.Equal(all, rest) {
					t.Errorf("All tells %v behind Remove(%d), not %v", all, o.ID, rest)
				}
				peeks(t, q, rest)
			}
			none(t, q, row)
		}
	})
}

// Promise 8.1: of an ID that is none, Remove and Find are false, with no order, and nothing turns.
func TestNoID(t *testing.T) {
	each(func(up bool, orders, row []api.Order) {
		q := filled(up, orders)
		for _, id := range append([]int{len(row) + 1, 1<<32 + len(row)}, ids...) {
			if slices.ContainsFunc(row, func(o api.Order) bool { return o.ID == id }) {
				continue
			}
			got, is := q.Remove(id)
			one(t, "Remove of none", got, is, api.Order{}, false)
			got, is = q.Find(id)
			one(t, "Find of none", got, is, api.Order{}, false)
		}
		holds(t, q, row)
		empties(t, q, row)
	})
	// A Price, a Client, a Qty or a place is no ID.
	q := filled(true, []api.Order{{ID: 40, Client: 3, Price: 4, Qty: 5}, {ID: 41, Client: 6, Price: 7, Qty: 8}})
	for id := range 10 {
		got, is := q.Find(id)
		one(t, "Find of none", got, is, api.Order{}, false)
		got, is = q.Remove(id)
		one(t, "Remove of none", got, is, api.Order{}, false)
	}
}

// Rule 3: what All told may be turned by who has it, and put more behind, and the queue keeps its own; what is done to the queue is not done to it.
func TestAllIsNew(t *testing.T) {
	each(func(up bool, orders, row []api.Order) {
		q := filled(up, orders)
		first, second := q.All(), q.All()
		for i := range first {
			first[i] = api.Order{ID: -77, Price: uint64(i)}
		}
		for range 3 {
			first = append(first, api.Order{ID: -78})
		}
		spare := first[:cap(first)]
		for i := range spare {
			spare[i] = api.Order{ID: -79}
		}
		if !slices.Equal(second, row) {
			t.Errorf("another All tells %v, not %v", second, row)
		}
		holds(t, q, row)
		wide := second[:cap(second)]
		for i := len(second); i < len(wide); i++ {
			wide[i] = api.Order{ID: -80}
		}
		q.Push(order(1<<40, 5))
		q.Remove(1 << 40)
		holds(t, q, row)
		q.Cut(1)
		empties(t, q, q.All())
		q.Push(order(1<<40, 5))
		if !slices.Equal(second, row) {
			t.Errorf("All that was told turned to %v, not %v", second, row)
		}
	})
}

// Promise 8.1: a queue's orders are its own, beside those of another one.
func TestTwo(t *testing.T) {
	up, down := prio.New(true), prio.New(false)
	beside := prio.New(true)
	for _, o := range at(5, 6, 7) {
		up.Push(o)
		down.Push(o)
	}
	beside.Push(order(9, 1))
	got, is := up.Pop()
	one(t, "Pop", got, is, order(1, 5), true)
	up.Cut(2)
	cut := order(2, 6)
	cut.Qty -= 2
	holds(t, up, []api.Order{cut, order(3, 7)})
	holds(t, down, []api.Order{order(3, 7), order(2, 6), order(1, 5)})
	holds(t, beside, []api.Order{order(9, 1)})
	down.Remove(2)
	holds(t, up, []api.Order{cut, order(3, 7)})
	holds(t, down, []api.Order{order(3, 7), order(1, 5)})
}

// Promise 8.1: of like IDs it is free which one is told; but one of them is, and each of them is there till it was taken.
func TestLike(t *testing.T) {
	for _, up := range ups {
		a, b, c := order(4, 5), order(4, 6), order(4, 5)
		b.Client, c.Client = 1, 2
		all := []api.Order{a, b, c, order(3, 7), order(5, 4)}
		for _, coming := range turned(all) {
			q := filled(up, coming)
			if q.Len() != 5 || len(q.All()) != 5 {
				t.Errorf("Len is %d, All tells %v", q.Len(), q.All())
			}
			left := slices.Clone(coming)
			for range 3 {
				got, is := q.Find(4)
				if !is || !slices.Contains(left, got) {
					t.Errorf("Find tells %v, %v of %v", got, is, left)
				}
				got, is = q.Remove(4)
				i := slices.Index(left, got)
				if !is || i < 0 {
					t.Fatalf("Remove tells %v, %v of %v", got, is, left)
				}
				left = slices.Delete(left, i, i+1)
			}
			holds(t, q, ranked(up, left))
			q = filled(up, coming)
			var prices []uint64
			for range coming {
				first, _ := q.Peek()
				if row := q.All(); row[0] != first {
					t.Errorf("Peek tells %v, All %v", first, row)
				}
				got, is := q.Pop()
				one(t, "Pop", got, is, first, true)
				prices = append(prices, got.Price)
			}
			want := []uint64{7, 6, 5, 5, 4}
			if up {
				want = []uint64{4, 5, 5, 6, 7}
			}
			if !slices.Equal(prices, want) {
				t.Errorf("Pop tells prices %v, not %v", prices, want)
			}
		}
	}
}

// Promise 8.1: of many like ones, the one that All has ahead is the one that Peek tells and Pop takes.
func TestManyLike(t *testing.T) {
	for _, up := range ups {
		q := prio.New(up)
		for i := range 300 {
			q.Push(api.Order{ID: 4, Client: i, Price: uint64(5 + i%2), Qty: 9})
		}
		for range 300 {
			first, _ := q.Peek()
			if row := q.All(); row[0] != first {
				t.Fatalf("Peek tells %v, All %v", first, row[0])
			}
			q.Cut(4)
			first.Qty -= 4
			got, is := q.Pop()
			one(t, "Pop", got, is, first, true)
		}
		none(t, q, nil)
	}
}

// both: a queue, and what it should have, in order, by the document's words.
type both struct {
	q   *prio.Queue
	up  bool
	row []api.Order
}

// drop takes the one at i, or none where there is no such one.
func (b *both) drop(i int) (api.Order, bool) {
	if i < 0 || i >= len(b.row) {
		return api.Order{}, false
	}
	o := b.row[i]
	b.row = slices.Delete(b.row, i, i+1)
	return o, true
}

// step does one thing to both, and says where they tell otherwise. (IDs that are there are not pushed again.)
func (b *both) step(t *testing.T, kind, id int, price, n uint64) {
	t.Helper()
	i := slices.IndexFunc(b.row, func(o api.Order) bool { return o.ID == id })
	switch kind {
	case 0:
		got, is := b.q.Pop()
		want, ok := b.drop(0)
		one(t, "Pop", got, is, want, ok)
	case 1:
		got, is := b.q.Remove(id)
		want, ok := b.drop(i)
		one(t, "Remove", got, is, want, ok)
	case 2:
		b.q.Cut(n)
		if len(b.row) > 0 && b.row[0].Qty >= n {
			b.row[0].Qty -= n
		}
	default:
		if i < 0 {
			o := api.Order{ID: id, Client: kind, Buy: n%2 == 0, Price: price, Qty: n}
			b.q.Push(o)
			b.row = ranked(b.up, append(b.row, o))
		}
	}
	peeks(t, b.q, b.row)
}

// Promises 8.1, 8.2: whatever is done, held against the document's words.
func TestAgainstWords(t *testing.T) {
	rnd := rand.New(rand.NewSource(8))
	for round := range 200 {
		up := round%2 == 0
		b := both{q: prio.New(up), up: up}
		for range 150 {
			id, price := rnd.Intn(60)-20, uint64(rnd.Intn(6))
			if round%5 == 0 {
				id, price = ids[rnd.Intn(len(ids))], amounts[rnd.Intn(len(amounts))]
			}
			b.step(t, rnd.Intn(7), id, price, amounts[rnd.Intn(len(amounts))])
			if all := b.q.All(); !slices.Equal(all, b.row) {
				t.Fatalf("All tells %v, not %v", all, b.row)
			}
		}
		holds(t, b.q, b.row)
		empties(t, b.q, b.row)
	}
}

// Promise 8.1: many orders stand as few do.
func TestMany(t *testing.T) {
	const many = 20000
	for _, up := range ups {
		q := prio.New(up)
		rnd := rand.New(rand.NewSource(80))
		for _, i := range rnd.Perm(many) {
			q.Push(order(i, uint64(i%50)))
		}
		all := q.All()
		if len(all) != many || q.Len() != many {
			t.Fatalf("All tells %d, Len %d", len(all), q.Len())
		}
		for i, o := range all {
			if i > 0 && !ahead(up, all[i-1], o) {
				t.Fatalf("All tells %v ahead of %v", all[i-1], o)
			}
			got, is := q.Pop()
			one(t, "Pop", got, is, o, true)
		}
		none(t, q, nil)
	}
}

// Promise 8.3: no call panics, at whatever numbers, of none, of one and of many, like IDs too.
func TestEdges(t *testing.T) {
	for _, up := range ups {
		q := prio.New(up)
		for round := range 3 {
			for _, id := range ids {
				for _, n := range amounts {
					q.Cut(n)
					q.Find(id)
					q.Peek()
					if round == 1 {
						q.Push(api.Order{ID: id, Client: id, Buy: up, Price: n, Qty: most - n})
						q.Push(api.Order{ID: id, Client: -id, Buy: !up, Price: most - n, Qty: n})
					} else {
						q.Remove(id)
						q.Pop()
					}
					q.Len()
				}
				q.All()
			}
		}
		for range q.Len() + 2 {
			q.Pop()
		}
		none(t, q, nil)
	}
}

// Promises 8.1 to 8.3: any orders, any numbers, any order.
func FuzzQueue(f *testing.F) {
	f.Add(true, 1, uint64(5), uint64(3), uint64(0), []byte{8, 0, 3})
	f.Add(false, -1, uint64(most), uint64(most), uint64(1), []byte{7, 47, 87, 2, 1, 0, 0})
	f.Add(true, math.MaxInt, uint64(most), uint64(7), uint64(most), []byte{3, 11, 19, 27, 1, 9, 2})
	f.Add(false, math.MinInt, uint64(0), uint64(2), uint64(3), []byte{0, 1, 2, 3, 4, 5, 6, 7, 8})
	f.Fuzz(func(t *testing.T, up bool, id int, first, second, third uint64, script []byte) {
		b := both{q: prio.New(up), up: up}
		for i, x := range script {
			price := [3]uint64{first, second, third}[(int(x)+i)%3]
			b.step(t, int(x%8), id+int(x/8), price, first+uint64(i%3)*second)
		}
		holds(t, b.q, b.row)
		empties(t, b.q, b.row)
	})
}
