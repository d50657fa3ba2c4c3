package box

import (
	"trine/api"
	"trine/bits"
	"trine/dict"
	"trine/fault"
	"trine/limits"
	"trine/parcel"
)

// open is the box of data. What Build answers for no list is found by building once more from what was read.
func open(data string) (*Box, error) {
	if len(data) > limits.MaxBytes {
		return nil, fault.New(api.ErrLong)
	}
	texts, branches, err := readSections(data)
	if err != nil {
		return nil, err
	}
	b, err := readBox(texts, branches)
	if err != nil {
		return nil, fault.At(0, err)
	}
	// Beside an error Build answers nothing, which data is not.
	if again, _, _ := Build(b.Find(api.Triple{})); again != data {
		return nil, fault.At(0, fault.New(api.ErrBytes))
	}
	return b, nil
}

// reader reads the parts of a box.
type reader struct{ parcel.Reader }

func over(data string) reader { return reader{parcel.Over(data)} }

// readSections is the data of both sections.
func readSections(data string) (string, string, error) {
	in := over(data)
	if in.Take(len(mark)) != mark {
		return "", "", fault.At(0, fault.New(api.ErrBytes))
	}
	first, err := in.section()
	if err != nil {
		return "", "", err
	}
	second, err := in.section()
	if err != nil {
		return "", "", err
	}
	in.End()
	if err := in.Err(); err != nil {
		return "", "", fault.At(len(data), err)
	}
	return first, second, nil
}

// section reads a section's data. Whatever is wrong with the section is told with the place where it begins.
func (r *reader) section() (string, error) {
	start := r.Place()
	data := r.Text()
	sum := bits.Sum(data)
	found := r.Take(len(sum))
	if err := r.Err(); err != nil {
		return "", fault.At(start, err)
	}
	if found != sum {
		return "", fault.At(start, fault.New(api.ErrSum))
	}
	return data, nil
}

// readBox is the box of the data of both sections. It may be one of no set, and bytes may be left.
func readBox(texts, branches string) (*Box, error) {
	terms, e := dict.Open(texts)
	if e != api.OK {
		return nil, fault.New(e)
	}
	in := over(branches)
	b := &Box{terms: terms, tree: in.tree(bits.Width(terms.Len()))}
	return b, in.Err()
}

// tree reads a tree of numbers of that width.
func (r *reader) tree(width int) tree {
	subjects, pairs, sentences := r.count(), r.count(), r.count()
	var t tree
	t.subjects = r.column(subjects, width)
	t.verbs.column = r.column(pairs, width)
	t.objects.column = r.column(sentences, width)
	t.verbs.Row = r.row(pairs)
	t.objects.Row = r.row(sentences)
	return t
}

// count reads how many subjects, pairs or sentences there are: a set has no more of any than MaxSet.
func (r *reader) count() int {
	n := r.Number()
	if n > limits.MaxSet {
		r.Refuse()
		return 0
	}
	return n
}

// column reads that many numbers.
func (r *reader) column(count, width int) column {
	list, e := bits.Unpack(r.packed(count, width), width, count)
	if e != api.OK {
		r.Refuse()
	}
	return list
}

// row reads that many bits.
func (r *reader) row(count int) *bits.Row {
	row, e := bits.NewRow(r.packed(count, 1), count)
	if e != api.OK {
		r.Refuse()
	}
	return row
}

// packed reads the bytes of that many numbers.
func (r *reader) packed(count, width int) string {
	return r.Take((count*width + 7) / 8)
}
