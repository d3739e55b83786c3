package mixed

import (
	"bytes"
	"testing"
)

func TestBytes(t *testing.T) {
	seen := map[byte]bool{}
	for _, b := range Bytes(1, 4000) {
		seen[b] = true
	}
	if len(seen) != 256 {
		t.Errorf("%d values", len(seen))
	}
	for _, count := range []int{0, 1, 7, 300} {
		got := Bytes(5, count)
		if len(got) != count || !bytes.Equal(got, Bytes(5, count)) || !bytes.Equal(got, Bytes(5, 301)[:count]) {
			t.Errorf("Bytes(5, %d): %v", count, got)
		}
	}
	for seed := -3; seed < 300; seed++ {
		if bytes.Equal(Bytes(seed, 9), Bytes(seed+1, 9)) {
			t.Errorf("of the seeds %d and %d they are the same", seed, seed+1)
		}
	}
}
