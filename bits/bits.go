// Package bits lays numbers and bits into bytes (chapter 1).
package bits

// unsigned is the sizes in which bits are moved about: a byte of data, a CRC, a number or a word of a row.
type unsigned interface {
	~uint8 | ~uint32 | ~uint64
}

// byteBits is how many bits a byte has.
const byteBits = 8

// lowest is the number that the lowest count bits of n are.
func lowest[T unsigned](n T, count int) T {
	return n & (T(1)<<count - 1)
}

// fits tells whether n has no 1 beside its lowest width bits.
func fits[T unsigned](n T, width int) bool {
	return n>>width == 0
}
