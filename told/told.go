// Package told gathers, for tests, what a range over a function tells. No layer calls it.
package told

import "iter"

// Pair is what one step of a range tells.
type Pair[K, V any] struct {
	Key   K
	Value V
}

// All: what is gone over, in that order.
func All[K, V any](over iter.Seq2[K, V]) []Pair[K, V] {
	var list []Pair[K, V]
	for k, v := range over {
		list = append(list, Pair[K, V]{k, v})
	}
	return list
}
