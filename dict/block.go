package dict

import (
	"slices"

	"trine/api"
	"trine/fault"
	"trine/limits"
	"trine/parcel"
)

// blockTexts is how many texts stand in a block: its first one whole, each other one from where it leaves the one ahead of it.
const blockTexts = 4

// check refuses texts that Build does not take.
func check(list []string) error {
	for i := 1; i < len(list); i++ {
		if list[i-1] >= list[i] {
			return fault.At(i, fault.New(api.ErrOrder))
		}
	}
	for i, text := range list {
		if len(text) > limits.MaxTerm {
			return fault.At(i, fault.New(api.ErrLong))
		}
	}
	return nil
}

// packBlock is the bytes of a block of these texts, of which there is at least one.
func packBlock(texts []string) string {
	var out parcel.Writer
	ahead := texts[0]
	out.Text(ahead)
	for _, text := range texts[1:] {
		same := shared(ahead, text)
		out.Number(same)
		out.Text(text[same:])
		ahead = text
	}
	return out.String()
}

// shared is how many bytes at the beginning of both texts are the same.
func shared(a, b string) int {
	n := 0
	for n < len(a) && n < len(b) && a[n] == b[n] {
		n++
	}
	return n
}

// readDict reads all of a dict, and refuses what Build does not answer.
func readDict(in *parcel.Reader) *Dict {
	d := &Dict{count: in.Number()}
	var last []string // the text ahead of the block, if there is one
	for left := d.count; left > 0 && in.Err() == nil; left -= blockTexts {
		start := in.Place()
		texts := readBlock(in, left)
		block := in.Since(start)
		if check(slices.Concat(last, texts)) != nil || packBlock(texts) != block {
			in.Refuse()
		}
		d.blocks = append(d.blocks, block)
		last = texts[len(texts)-1:]
	}
	in.End()
	return d
}

// readBlock reads the texts of a block, of which the dict has so many left. They are right only if packBlock answers the same bytes for them.
func readBlock(in *parcel.Reader, left int) []string {
	ahead := []byte(in.Text())
	texts := [][]byte{ahead}
	for range min(left, blockTexts) - 1 {
		same := in.Number()
		if same > len(ahead) {
			in.Refuse()
			same = len(ahead)
		}
		// The cut leaves no room behind it: what is laid there must not overwrite the text ahead, which is still to be answered.
		ahead = append(ahead[:same:same], in.Text()...)
		texts = append(texts, ahead)
	}
	return asStrings(texts)
}

func asStrings(texts [][]byte) []string {
	var out []string
	for _, text := range texts {
		out = append(out, string(text))
	}
	return out
}
