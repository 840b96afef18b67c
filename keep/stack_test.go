package keep

import (
	"slices"
	"testing"
)

func TestStackGivesOutTheLastFirst(t *testing.T) {
	var stack Stack[string]
	for _, word := range []string{"a", "b", "c"} {
		stack.Push(word)
	}
	if top, ok := stack.Pop(); top != "c" || !ok || stack.Len() != 2 {
		t.Errorf("Pop = %q, %v, length %d, want c", top, ok, stack.Len())
	}
	stack.Push("d")
	for _, want := range []string{"d", "b", "a"} {
		if top, ok := stack.Pop(); top != want || !ok {
			t.Errorf("Pop = %q, %v, want %q", top, ok, want)
		}
	}
	if top, ok := stack.Pop(); top != "" || ok || stack.Len() != 0 {
		t.Errorf("Pop of an empty stack = %q, %v, length %d", top, ok, stack.Len())
	}
}

func TestStackDownLeavesAll(t *testing.T) {
	var stack Stack[int]
	if got := slices.Collect(stack.Down()); len(got) != 0 {
		t.Errorf("an empty stack has %v", got)
	}
	for n := range 5 {
		stack.Push(n)
	}
	for range 2 {
		if got := slices.Collect(stack.Down()); !slices.Equal(got, []int{4, 3, 2, 1, 0}) {
			t.Errorf("from the top on there are %v", got)
		}
	}
	for n := range stack.Down() {
		if n == 3 {
			break
		}
		if n < 3 {
			t.Errorf("Down goes on to %d after the end of the loop", n)
		}
	}
	if stack.Len() != 5 {
		t.Errorf("%d elements are left", stack.Len())
	}
}
