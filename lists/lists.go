// Package lists helps the tests of all layers to see what becomes of lists that are handed in.
package lists

// Roomy is a copy of a list, with room behind it; nil of one that is nil.
func Roomy[T any](l []T) []T {
	if l == nil {
		return nil
	}
	return append(make([]T, 0, len(l)+4), l...)
}

// IsRoomZero tells whether nothing was laid in the room behind a list.
func IsRoomZero[T comparable](l []T) bool {
	return IsRoomEmpty(l, func(a, b T) bool { return a == b })
}

// IsRoomEmpty tells whether what lies in the room behind a list is the same as nothing.
func IsRoomEmpty[T any](l []T, same func(a, b T) bool) bool {
	var nothing T
	for _, one := range l[len(l):cap(l)] {
		if !same(one, nothing) {
			return false
		}
	}
	return true
}
