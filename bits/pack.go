package bits

import (
	mathbits "math/bits"

	"trine/api"
	"trine/fault"
)

const (
	minWidth = 1
	maxWidth = 62
)

// Width is how many bits the numbers from 0 to n - 1 need (B4).
func Width(n int) int {
	if n < 1 {
		return minWidth
	}
	return min(max(mathbits.Len64(uint64(n-1)), minWidth), maxWidth)
}

// Pack is the bits of the numbers, width bits each, one number behind the other (B5).
func Pack(list []int, width int) (string, api.Errno, int) {
	if err := checkNumbers(list, width); err != nil {
		return "", fault.Number(err), fault.Place(err)
	}
	var out writer
	for _, n := range list {
		out.put(uint64(n), width)
	}
	return string(out.bytes), api.OK, 0
}

// Unpack is the list of count numbers of which data is the Pack (B5).
func Unpack(data string, width int, count int) ([]int, api.Errno) {
	if err := checkPacked(data, width, count); err != nil {
		return nil, fault.Number(err)
	}
	in := reader{data: data}
	list := make([]int, count)
	for i := range list {
		list[i] = int(in.take(width))
	}
	return list, api.OK
}

func checkWidth(width int) error {
	if width < minWidth || width > maxWidth {
		return fault.New(api.ErrRange)
	}
	return nil
}

func checkNumbers(list []int, width int) error {
	if err := checkWidth(width); err != nil {
		return err
	}
	for i, n := range list {
		// A number below 0 has its highest bit set, above all widths.
		if !fits(uint64(n), width) {
			return fault.At(i, fault.New(api.ErrRange))
		}
	}
	return nil
}

// checkPacked refuses what Pack does not answer for count numbers. It counts in groups of eight numbers, which fill their bytes: count times width may be above the greatest int.
func checkPacked(data string, width int, count int) error {
	if err := checkWidth(width); err != nil {
		return err
	}
	if count < 0 {
		return fault.New(api.ErrRange)
	}
	groups := count / byteBits
	if groups > len(data)/width {
		return fault.New(api.ErrBytes)
	}
	return checkTail(data[groups*width:], count%byteBits*width)
}

// checkTail refuses a tail of another length than that many bits need, or one that is not filled up with 0.
func checkTail(tail string, count int) error {
	if len(tail) != (count+byteBits-1)/byteBits {
		return fault.New(api.ErrBytes)
	}
	used := count % byteBits
	if used > 0 && !fits(tail[len(tail)-1], used) {
		return fault.New(api.ErrBytes)
	}
	return nil
}

// writer fills bytes with bits, the lowest bit of each byte first.
type writer struct {
	bytes []byte
	free  int // how many bits of the last byte are not taken yet
}

// put lays down the lowest width bits of n.
func (w *writer) put(n uint64, width int) {
	for width > 0 {
		if w.free == 0 {
			w.bytes = append(w.bytes, 0)
			w.free = byteBits
		}
		part := min(w.free, width)
		w.bytes[len(w.bytes)-1] |= byte(lowest(n, part)) << (byteBits - w.free)
		n >>= part
		w.free -= part
		width -= part
	}
}

// reader takes the bits out of bytes that a writer filled.
type reader struct {
	data string
	at   int // the byte that comes next
	used int // how many of its bits are taken already
}

// take is the number of the next width bits, which must be there.
func (r *reader) take(width int) uint64 {
	var n uint64
	for got := 0; got < width; {
		part := min(byteBits-r.used, width-got)
		n |= uint64(lowest(r.data[r.at]>>r.used, part)) << got
		got += part
		r.used += part
		if r.used == byteBits {
			r.at++
			r.used = 0
		}
	}
	return n
}
