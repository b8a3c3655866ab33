package tests

import (
	"slices"
	"testing"
)

// roomy returns a copy of a list with three places behind its end, all marked: a careless append would write there.
func roomy[T any](list []T, mark T) []T {
	all := make([]T, len(list)+3)
	overwrite(all, mark)
	copy(all, list)
	return all[:len(list)]
}

// overwrite writes a mark to all places of a list, and to those behind its end.
func overwrite[T any](list []T, mark T) {
	all := list[:cap(list)]
	for k := range all {
		all[k] = mark
	}
}

// checkUnwritten checks that an argument that roomy made of a list still holds it, and the marks behind its end.
func checkUnwritten[T comparable](t *testing.T, argument []T, list []T, mark T) {
	t.Helper()
	if want := roomy(list, mark); !slices.Equal(argument[:cap(argument)], want[:cap(want)]) {
		t.Errorf("the argument %v was written to: it is %v now", list, argument[:cap(argument)])
	}
}

// checkApart checks that a function returns the same as of a list, writes nothing into the list, and returns none of its memory.
func checkApart[T comparable, R comparable](t *testing.T, list []T, mark T, other R, call func([]T) []R) {
	t.Helper()
	argument := roomy(list, mark)
	got := call(argument)
	checkUnwritten(t, argument, list, mark)
	want := slices.Clone(got)
	again := call(argument)
	overwrite(got, other)
	checkUnwritten(t, argument, list, mark)
	if !slices.Equal(again, want) {
		t.Errorf("two results of %v share memory, or differ: %v and %v", list, want, again)
	}
	overwrite(argument, mark)
	if !slices.Equal(again, want) {
		t.Errorf("the result of %v is memory of the argument: %v became %v", list, want, again)
	}
}
