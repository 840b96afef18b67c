// Package keep: containers for elements of any kind.
package keep

// Heap gives out its elements in the order that it was made with, whatever order they came in.
type Heap[T any] struct {
	ahead func(a, b T) bool
	items []T
}

// NewHeap makes an empty heap; ahead tells whether a comes out ahead of b.
func NewHeap[T any](ahead func(a, b T) bool) *Heap[T] {
	return &Heap[T]{ahead: ahead}
}

// Len tells how many elements are in the heap.
func (h *Heap[T]) Len() int { return len(h.items) }

// Push puts an element in.
func (h *Heap[T]) Push(item T) {
	h.items = append(h.items, item)
	h.rise(len(h.items) - 1)
}

// Pop takes the foremost element out; false, if there is none.
func (h *Heap[T]) Pop() (T, bool) {
	var none T
	if len(h.items) == 0 {
		return none, false
	}
	first, last := h.items[0], len(h.items)-1
	h.items[0] = h.items[last]
	// The place that falls free would otherwise go on holding what the element points to.
	h.items[last] = none
	h.items = h.items[:last]
	h.sink(0)
	return first, true
}

func (h *Heap[T]) rise(at int) {
	for at > 0 {
		above := (at - 1) / 2
		if !h.ahead(h.items[at], h.items[above]) {
			return
		}
		h.swap(at, above)
		at = above
	}
}

func (h *Heap[T]) sink(at int) {
	for {
		next := h.foremost(at, h.foremost(2*at+1, 2*at+2))
		if next == at {
			return
		}
		h.swap(at, next)
		at = next
	}
}

// foremost tells which of two places has the element that is ahead; a place behind the end never has, and a stays if neither is ahead.
func (h *Heap[T]) foremost(a, b int) int {
	if b < len(h.items) && h.ahead(h.items[b], h.items[a]) {
		return b
	}
	return a
}

func (h *Heap[T]) swap(a, b int) {
	h.items[a], h.items[b] = h.items[b], h.items[a]
}
