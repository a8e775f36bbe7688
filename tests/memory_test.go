package tests

import (
	"slices"
	"testing"
)

// guarded is a list that is cut out of a longer one, with marks ahead of it and in the spare room behind it.
type guarded[T comparable] struct {
	list  []T
	whole []T
	as    []T
}

func guard[T comparable](list []T, mark T) guarded[T] {
	whole := append([]T{mark}, list...)
	whole = append(whole, mark, mark, mark)
	return guarded[T]{list: whole[1 : 1+len(list)], whole: whole, as: slices.Clone(whole)}
}

// check tells if anything was written into the list, ahead of it or behind its end.
func (g guarded[T]) check(t *testing.T, what string) {
	t.Helper()
	if !slices.Equal(g.whole, g.as) {
		t.Errorf("%s: an argument was %#v, and is %#v", what, g.as, g.whole)
	}
}

// scribble writes all over a list, its spare room included.
func scribble[T any](list []T, mark T) {
	list = list[:cap(list)]
	for i := range list {
		list[i] = mark
	}
}
