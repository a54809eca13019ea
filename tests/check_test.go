package tests

import (
	"reflect"
	"slices"
	"testing"

	"loop.example/g00911/impl"
)

// same reports an error unless got and want are deeply equal.
func same(t *testing.T, what string, got, want any) {
	t.Helper()
	if !reflect.DeepEqual(got, want) {
		t.Errorf("%s: got %#v, want %#v", what, got, want)
	}
}

// sameList is same for lists, where nil and an empty list are equivalent.
func sameList[T any](t *testing.T, what string, got, want []T) {
	t.Helper()
	if len(got) != 0 || len(want) != 0 {
		same(t, what, got, want)
	}
}

// spoil overwrites a list and its unused capacity, so that whatever shares memory with it changes too.
func spoil[T any](list []T, with T) {
	list = list[:cap(list)]
	for i := range list {
		list[i] = with
	}
}

// roomy returns a copy of list with unused capacity that holds mark.
func roomy[T any](list []T, mark T) []T {
	all := append([]T(nil), list...)
	for range 3 {
		all = append(all, mark)
	}
	return all[:len(list)]
}

// coded is a result with a code.
type coded[T any] struct {
	value T
	code  int64
}

// withCode makes one value of a result and its code.
func withCode[T any](value T, code int64) coded[T] {
	return coded[T]{value, code}
}

// sameCoded reports an error unless a result and its code are those wanted.
func sameCoded[T any](t *testing.T, what string, got coded[T], value T, code int64) {
	t.Helper()
	same(t, what, got, withCode(value, code))
}

// sameCodedList is sameCoded for lists, where nil and an empty list are equivalent.
func sameCodedList[T any](t *testing.T, what string, got coded[[]T], list []T, code int64) {
	t.Helper()
	sameList(t, what, got.value, list)
	same(t, "code of "+what, got.code, code)
}

// numbers returns a function that returns numbers below n, always the same ones for a seed.
func numbers(seed uint32) func(n uint32) int64 {
	return func(n uint32) int64 {
		seed = seed*1664525 + 1013904223
		return int64((seed >> 8) % n)
	}
}

// oddStrings are strings that are nearly, or not at all, what a function expects.
func oddStrings() []string {
	long := make([]byte, 5000)
	for i := range long {
		long[i] = "ab ?x1-"[i%7]
	}
	all := []string{"", " ", "  ", "\n", "\x00", "\xff", "a\xffb", "\xc3", "é", "aé", "ſ", "K", "a\u00a0b", "x", "xx", "?", "??", "?x", "?x1", "-", "--", "-x", "x1x", "x1x1x", "x1 x1", "A", "aA", string(long)}
	for c := range 256 {
		all = append(all, string([]byte{byte(c)}), string([]byte{'a', byte(c)}))
	}
	return all
}

// set makes a tile set.
func set(letters string, values, counts []int64, blanks int64) impl.TileSet {
	return impl.TileSet{Letters: letters, Values: values, Counts: counts, Blanks: blanks}
}

// sameSet reports an error unless two tile sets are equal; as lists, nil and empty ones are equivalent.
func sameSet(t *testing.T, what string, got, want impl.TileSet) {
	t.Helper()
	if got.Letters != want.Letters || got.Blanks != want.Blanks || !slices.Equal(got.Values, want.Values) || !slices.Equal(got.Counts, want.Counts) {
		t.Errorf("%s: got %#v, want %#v", what, got, want)
	}
}
