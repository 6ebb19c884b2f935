package timers

import "slices"

// heap holds what waits, at most one item of each key, so that the first one of an order is at hand.
type heap[K comparable, T any] struct {
	items  []T       // none is ahead of its parent, the one at (its place - 1) / 2
	places map[K]int // where the item of a key stands
	key    func(T) K
	order  func(a, b T) int // below 0: a is ahead of b; never 0 of two keys
}

func newHeap[K comparable, T any](key func(T) K, order func(a, b T) int) *heap[K, T] {
	return &heap[K, T]{places: map[K]int{}, key: key, order: order}
}

// put lays an item in, instead of the one with its key, if there is one.
func (h *heap[K, T]) put(item T) {
	place, held := h.places[h.key(item)]
	if !held {
		place = len(h.items)
		h.items = append(h.items, item)
	}
	h.lay(place, item)
	h.settle(place)
}

// take takes out the item of a key; was there one?
func (h *heap[K, T]) take(key K) bool {
	place, held := h.places[key]
	if !held {
		return false
	}
	last := len(h.items) - 1
	moved := h.items[last]
	h.items = h.items[:last]
	delete(h.places, key)
	if place < last {
		h.lay(place, moved)
		h.settle(place)
	}
	return true
}

// find is the item of a key, if there is one.
func (h *heap[K, T]) find(key K) (item T, held bool) {
	place, held := h.places[key]
	if !held {
		return item, false
	}
	return h.items[place], true
}

// first is the item that is ahead of all others, if there is one.
func (h *heap[K, T]) first() (item T, held bool) {
	if len(h.items) == 0 {
		return item, false
	}
	return h.items[0], true
}

func (h *heap[K, T]) size() int { return len(h.items) }

// sorted are all items, in order.
func (h *heap[K, T]) sorted() []T {
	return slices.SortedFunc(slices.Values(h.items), h.order)
}

// lay writes down where an item stands, too: an item that moves must be found again.
func (h *heap[K, T]) lay(place int, item T) {
	h.items[place] = item
	h.places[h.key(item)] = place
}

// settle moves the item at a place, which alone may stand wrong, up or down to where it belongs.
func (h *heap[K, T]) settle(place int) {
	h.sink(h.rise(place))
}

// rise answers where the item stands then.
func (h *heap[K, T]) rise(place int) int {
	for place > 0 {
		parent := (place - 1) / 2
		if !h.ahead(place, parent) {
			break
		}
		h.swap(place, parent)
		place = parent
	}
	return place
}

func (h *heap[K, T]) sink(place int) {
	for {
		top := h.foremost(place)
		if top == place {
			return
		}
		h.swap(place, top)
		place = top
	}
}

// foremost is the place of the first one in order, of an item and those whose parent it is.
func (h *heap[K, T]) foremost(place int) int {
	top := place
	for child := 2*place + 1; child <= 2*place+2 && child < len(h.items); child++ {
		if h.ahead(child, top) {
			top = child
		}
	}
	return top
}

func (h *heap[K, T]) ahead(a, b int) bool { return h.order(h.items[a], h.items[b]) < 0 }

func (h *heap[K, T]) swap(a, b int) {
	one, other := h.items[a], h.items[b]
	h.lay(a, other)
	h.lay(b, one)
}
