package bits

// polynomial is that of ISO 3309, with its bits turned round.
const polynomial uint32 = 0xEDB88320

// halfBits is how many bits one look into the table takes: half a byte keeps the table small.
const halfBits = 4

// crcs has the CRC of each half byte.
var crcs [1 << halfBits]uint32

func init() {
	for i := range uint32(len(crcs)) {
		crcs[i] = divided(i)
	}
}

// divided is what is left of half a byte, divided by the polynomial.
func divided(half uint32) uint32 {
	for range halfBits {
		odd := lowest(half, 1) == 1
		half >>= 1
		if odd {
			half ^= polynomial
		}
	}
	return half
}

// Sum is the CRC-32 of data, the lowest byte first (B3).
func Sum(data string) string {
	crc := ^uint32(0)
	for i := range len(data) {
		crc ^= uint32(data[i])
		crc = crcs[lowest(crc, halfBits)] ^ crc>>halfBits
		crc = crcs[lowest(crc, halfBits)] ^ crc>>halfBits
	}
	var out writer
	out.put(uint64(^crc), 4*byteBits)
	return string(out.bytes)
}
