// Package mixed makes what tests try: values of all kinds, the same at each run. No layer calls it.
package mixed

// Bytes: so many, of all values, others for each seed.
func Bytes(seed, count int) []byte {
	w := uint64(seed)*0x9e3779b97f4a7c15 + 1
	list := make([]byte, count)
	for i := range list {
		w ^= w << 13
		w ^= w >> 7
		w ^= w << 17
		// Without the product rows of such bytes would be sums of one another, over the field.
		list[i] = byte(w * 0x2545f4914f6cdd1d >> 56)
	}
	return list
}
