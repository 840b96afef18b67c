package keep

import "iter"

// Stack gives out first what came in last. Its zero value is an empty one.
type Stack[T any] struct {
	items []T
}

// Len tells how many elements are on the stack.
func (s *Stack[T]) Len() int { return len(s.items) }

// Push puts an element on top.
func (s *Stack[T]) Push(item T) { s.items = append(s.items, item) }

// Pop takes the element on top away; false, if there is none.
func (s *Stack[T]) Pop() (T, bool) {
	var none T
	if len(s.items) == 0 {
		return none, false
	}
	last := len(s.items) - 1
	item := s.items[last]
	// The place that falls free would otherwise go on holding what the element points to.
	s.items[last] = none
	s.items = s.items[:last]
	return item, true
}

// Down goes through the elements from the top on, and leaves them where they are.
func (s *Stack[T]) Down() iter.Seq[T] {
	return func(yield func(T) bool) {
		for at := len(s.items) - 1; at >= 0; at-- {
			if !yield(s.items[at]) {
				return
			}
		}
	}
}
