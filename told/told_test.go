package told

import (
	"slices"
	"testing"
)

func TestAll(t *testing.T) {
	for _, words := range [][]string{nil, {"a"}, {"b", "a", "b"}} {
		var want []Pair[int, string]
		for i, w := range words {
			want = append(want, Pair[int, string]{i, w})
		}
		if got := All(slices.All(words)); !slices.Equal(got, want) {
			t.Errorf("%v, not %v", got, want)
		}
	}
}
