package disk

import "slices"

// file is a file's bytes. Its writes that are not safe stand at its end, each where the one ahead of it ends: so the places at which they begin tell all of them.
type file struct {
	data   []byte
	begins []int
}

// write puts bytes behind the others; no bytes are no write.
func (f *file) write(b []byte) {
	if len(b) == 0 {
		return
	}
	f.begins = append(f.begins, len(f.data))
	f.data = append(f.data, b...)
}

// crash keeps, of each write that is not safe, as many first bytes as its number says; of one without a number nothing. What is left is safe.
func (f *file) crash(numbers []int) {
	kept := make([]byte, len(f.data))
	end := len(f.data)
	if len(f.begins) > 0 {
		end = f.begins[0]
	}
	copy(kept, f.data[:end])
	for i, begin := range f.begins[:min(len(numbers), len(f.begins))] {
		n := min(numbers[i], f.end(i)-begin)
		if n > 0 {
			end = begin + copy(kept[begin:], f.data[begin:begin+n])
		}
	}
	f.data, f.begins = slices.Clone(kept[:end]), nil
}

// end is the place behind a write that is not safe.
func (f *file) end(write int) int {
	if write+1 < len(f.begins) {
		return f.begins[write+1]
	}
	return len(f.data)
}

func (f *file) copy() *file {
	return &file{data: slices.Clone(f.data), begins: slices.Clone(f.begins)}
}

func (f *file) same(o *file) bool {
	return slices.Equal(f.data, o.data) && slices.Equal(f.begins, o.begins)
}
