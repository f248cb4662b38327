package tests

import (
	"slices"
	"testing"
)

// guard lies behind the length of each list that guarded makes.
const guard = 7777777

func guarded(l ...int) []int {
	whole := append(slices.Clone(l), guard, guard)
	return whole[:len(l)]
}

// wholeOf has what lies behind the list's length, too.
func wholeOf(l []int) []int {
	return slices.Clone(l[:cap(l)])
}

// watch tells, when asked, whether one of the lists has changed since, or what lies behind its length.
func watch(lists ...[]int) func() bool {
	var before [][]int
	for _, l := range lists {
		before = append(before, wholeOf(l))
	}
	return func() bool {
		for i, l := range lists {
			if !slices.Equal(before[i], l[:cap(l)]) {
				return false
			}
		}
		return true
	}
}

// checkNewMemory fails if writing into the answer, or behind it, is to be seen in one of the arguments.
func checkNewMemory(t *testing.T, name string, answer []int, arguments ...[]int) {
	t.Helper()
	same := watch(arguments...)
	whole := answer[:cap(answer)]
	for i := range whole {
		if whole[i] == guard {
			t.Errorf("%s hands out what lies behind an argument's length", name)
		}
		whole[i] = -guard
	}
	if !same() {
		t.Errorf("%s: the answer shares memory with an argument", name)
	}
}

func listsUpTo(longest int, from []int) [][]int {
	out := [][]int{nil}
	ahead := out
	for range longest {
		var next [][]int
		for _, l := range ahead {
			for _, n := range from {
				next = append(next, append(slices.Clone(l), n))
			}
		}
		out = append(out, next...)
		ahead = next
	}
	return out
}
