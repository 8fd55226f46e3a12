package tests

import (
	"slices"
	"testing"
)

// withRoom lays something behind the length of a list.
func withRoom[T any](l []T, behind ...T) ([]T, []T) {
	room := slices.Concat(l, behind)
	return room, room[:len(l)]
}

func whole[T any](l []T) []T {
	return l[:cap(l)]
}

// scribble writes into all memory that a list has, that behind its length too.
func scribble[T any](l []T, with T) {
	l = l[:cap(l)]
	for i := range l {
		l[i] = with
	}
}

// eachHasItsOwn writes into all memory of each list a thing that no other one is given, and looks whether it is still there in the end.
func eachHasItsOwn[T any](lists [][]T, thing func(i int) T, is func(x T, i int) bool) bool {
	for i, l := range lists {
		scribble(l, thing(i))
	}
	for i, l := range lists {
		if slices.ContainsFunc(whole(l), func(x T) bool { return !is(x, i) }) {
			return false
		}
	}
	return true
}

// calledWith are arguments that all functions of a chapter are called with.
type calledWith interface {
	// called tells what the functions answer.
	called() string
	// shown tells all memory of the arguments, what lies behind the lengths of their lists too.
	shown() string
}

// wantLeft wants of arguments with more behind the lengths of their lists what is answered without, and that nothing is written into them.
func wantLeft(t *testing.T, what string, plain calledWith, roomy ...calledWith) {
	t.Helper()
	want := plain.called()
	for _, given := range roomy {
		were := given.shown()
		got := given.called()
		if got != want {
			t.Errorf("%s: %.1000s with more behind, %.1000s without", what, got, want)
		}
		if again := given.called(); again != got {
			t.Errorf("%s: %.1000s, then %.1000s", what, got, again)
		}
		if now := given.shown(); now != were {
			t.Errorf("%s: written into: %.1000s", what, now)
		}
	}
}
