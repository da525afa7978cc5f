// Package wire: strings as bytes and out of bytes, and the sum of bytes.
package wire

// word: strings are filled up to multiples of it; a length and a sum are of that many bytes.
const word = 8

// Where a sum begins, and what it is multiplied by for each byte.
const (
	sumStart = 14695981039346656037
	sumTimes = 1099511628211
)

// Append: the strings behind out, each as its length, its bytes and what fills it up.
func Append(out []byte, l ...string) []byte {
	for _, s := range l {
		out = appendNumber(out, uint64(len(s)))
		out = append(out, s...)
		for range filling(len(s)) {
			out = append(out, 0)
		}
	}
	return out
}

// filling: how many bytes are wanting to a multiple of eight.
func filling(n int) int { return (word - n%word) % word }

// Sum: of the bytes of s. They are taken by their places: a range over s would give letters.
func Sum(s string) string {
	h := uint64(sumStart)
	for i := range len(s) {
		h = (h ^ uint64(s[i])) * sumTimes
	}
	return string(appendNumber(nil, h))
}

// appendNumber: the lowest byte comes first.
func appendNumber(out []byte, n uint64) []byte {
	for range word {
		out = append(out, byte(n))
		n >>= 8
	}
	return out
}
