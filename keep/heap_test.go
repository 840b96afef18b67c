package keep

import (
	"math/rand/v2"
	"slices"
	"strings"
	"testing"
)

func drain[T any](h *Heap[T]) []T {
	var out []T
	for h.Len() > 0 {
		item, _ := h.Pop()
		out = append(out, item)
	}
	return out
}

func TestHeapGivesOutInOrder(t *testing.T) {
	source := rand.New(rand.NewPCG(1, 2))
	for size := range 70 {
		heap := NewHeap(func(a, b int) bool { return a > b })
		var want []int
		for range size {
			n := source.IntN(20)
			heap.Push(n)
			want = append(want, n)
		}
		slices.Sort(want)
		slices.Reverse(want)
		if got := drain(heap); !slices.Equal(got, want) {
			t.Fatalf("%d elements came out as %v, want %v", size, got, want)
		}
	}
}

func TestHeapPushesBetweenPops(t *testing.T) {
	heap := NewHeap(func(a, b string) bool { return strings.Compare(a, b) < 0 })
	for _, word := range []string{"d", "b", "e"} {
		heap.Push(word)
	}
	if first, ok := heap.Pop(); first != "b" || !ok {
		t.Errorf("Pop = %q, %v, want b", first, ok)
	}
	heap.Push("a")
	heap.Push("c")
	if got := drain(heap); !slices.Equal(got, []string{"a", "c", "d", "e"}) {
		t.Errorf("came out as %v", got)
	}
}

func TestEmptyHeap(t *testing.T) {
	heap := NewHeap(func(a, b float64) bool { return a < b })
	if item, ok := heap.Pop(); item != 0 || ok || heap.Len() != 0 {
		t.Errorf("Pop of an empty heap = %v, %v, length %d", item, ok, heap.Len())
	}
}
