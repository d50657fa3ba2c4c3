package bits

import (
	mathbits "math/bits"
	"sort"

	"trine/api"
	"trine/fault"
)

// wordBits is how many bits of a row one word has.
const wordBits = 64

// Row is bits. Make it by NewRow.
type Row struct {
	count int
	words []uint64 // the lowest bit of each first
	ahead []int    // how many bits are 1 ahead of each word, and at last in all
}

// NewRow is the row of count bits of which data is the Pack (B6).
func NewRow(data string, count int) (*Row, api.Errno) {
	if err := checkPacked(data, 1, count); err != nil {
		return nil, fault.Number(err)
	}
	words := wordsOf(data)
	return &Row{count: count, words: words, ahead: onesAhead(words)}, api.OK
}

func wordsOf(data string) []uint64 {
	const wordBytes = wordBits / byteBits
	var words []uint64
	for i := range len(data) {
		if i%wordBytes == 0 {
			words = append(words, 0)
		}
		words[i/wordBytes] |= uint64(data[i]) << (i % wordBytes * byteBits)
	}
	return words
}

func onesAhead(words []uint64) []int {
	ahead := make([]int, 1, len(words)+1)
	for i, word := range words {
		ahead = append(ahead, ahead[i]+mathbits.OnesCount64(word))
	}
	return ahead
}

// Len is how many bits there are. No row at all has none, so that no call on it panics.
func (r *Row) Len() int {
	if r == nil {
		return 0
	}
	return r.count
}

// Get tells whether bit i is 1.
func (r *Row) Get(i int) bool {
	if i < 0 || i >= r.Len() {
		return false
	}
	return lowest(r.words[i/wordBits]>>(i%wordBits), 1) == 1
}

// Ones is how many of the bits ahead of i are 1.
func (r *Row) Ones(i int) int {
	if i < 0 || r.Len() == 0 {
		return 0
	}
	if i >= r.count {
		return r.ahead[len(r.words)]
	}
	word := i / wordBits
	return r.ahead[word] + mathbits.OnesCount64(lowest(r.words[word], i%wordBits))
}

// Find is the number of the bit that is the k-th 1, from 1 on; -1, if there is none.
func (r *Row) Find(k int) int {
	if k < 1 || k > r.Ones(r.Len()) {
		return -1
	}
	word := sort.Search(len(r.words), func(i int) bool { return r.ahead[i+1] >= k })
	return word*wordBits + nthOne(r.words[word], k-r.ahead[word])
}

// nthOne is the number of the bit that is the n-th 1 of word, which has as many.
func nthOne(word uint64, n int) int {
	for range n - 1 {
		word &= word - 1 // its lowest 1 becomes 0
	}
	return mathbits.TrailingZeros64(word)
}
