package bits

import (
	"trine/api"
	"trine/fault"
)

const (
	groupBits = 7
	more      = 1 << groupBits // marks a byte that is not the last one
	maxGroups = 9              // 63 bits: as many as the greatest int has
)

// Varint is n in groups of seven bits, the lowest one first (B1).
func Varint(n int) (string, api.Errno) {
	if n < 0 {
		return "", api.ErrRange
	}
	var out []byte
	rest := uint64(n)
	for !fits(rest, groupBits) {
		out = append(out, more|byte(lowest(rest, groupBits)))
		rest >>= groupBits
	}
	return string(append(out, byte(rest))), api.OK
}

// Unvarint is the number whose Varint stands at that place of data, and the place behind it (B2).
func Unvarint(data string, at int) (int, int, api.Errno) {
	if at < 0 || at > len(data) {
		return 0, 0, api.ErrRange
	}
	n, size, err := readGroups(data[at:])
	if err != nil {
		return 0, 0, fault.Number(err)
	}
	return int(n), at + size, api.OK
}

// readGroups is the number at the beginning of data, and how many bytes it takes there.
func readGroups(data string) (uint64, int, error) {
	var n uint64
	for i := range min(len(data), maxGroups) {
		group := data[i]
		n |= uint64(lowest(group, groupBits)) << (i * groupBits)
		if !fits(group, groupBits) {
			continue
		}
		if group == 0 && i > 0 { // Varint takes as few bytes as can be
			break
		}
		return n, i + 1, nil
	}
	return 0, 0, fault.New(api.ErrBytes)
}
