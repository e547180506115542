package prio

import (
	"cmp"

	"tolsey/api"
)

// ranks is orders as container/heap asks for them: the first one at 0, the others where it lays them.
type ranks struct {
	up     bool
	orders []api.Order
}

// compare is below 0 where a is ahead of b, above 0 where b is ahead of a.
func (r *ranks) compare(a, b api.Order) int {
	price := cmp.Compare(a.Price, b.Price)
	if !r.up {
		price = -price
	}
	return cmp.Or(price, cmp.Compare(a.ID, b.ID))
}

// Len tells how many there are.
func (r *ranks) Len() int {
	return len(r.orders)
}

// Less tells whether the one at i is ahead of the one at j.
func (r *ranks) Less(i, j int) bool {
	return r.compare(r.orders[i], r.orders[j]) < 0
}

// Swap has the ones at i and j stand in each other's place.
func (r *ranks) Swap(i, j int) {
	r.orders[i], r.orders[j] = r.orders[j], r.orders[i]
}

// Push puts an order, which is all that Queue hands in, behind the last one.
func (r *ranks) Push(o any) {
	r.orders = append(r.orders, o.(api.Order))
}

// Pop takes the last one, and tells it.
func (r *ranks) Pop() any {
	last := len(r.orders) - 1
	o := r.orders[last]
	r.orders = r.orders[:last]
	return o
}
