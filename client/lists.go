package client

import "slices"

// find is the first thing of a list that has a key.
func find[T any](l []T, key func(T) int, k int) (T, bool) {
	at := slices.IndexFunc(l, func(x T) bool { return key(x) == k })
	if at < 0 {
		var none T
		return none, false
	}
	return l[at], true
}

// with puts a thing in the place of the first one of its key, or, if there is none, at its place among the others, whose
// keys rise.
func with[T any](l []T, key func(T) int, x T) []T {
	k := key(x)
	if at := slices.IndexFunc(l, func(y T) bool { return key(y) == k }); at >= 0 {
		l[at] = x
		return l
	}
	at := slices.IndexFunc(l, func(y T) bool { return key(y) > k })
	if at < 0 {
		return append(l, x)
	}
	return slices.Insert(l, at, x)
}

// without takes away all things of a key.
func without[T any](l []T, key func(T) int, k int) []T {
	return slices.DeleteFunc(l, func(x T) bool { return key(x) == k })
}
