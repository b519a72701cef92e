package disk

import "bytes"

// file is a file's bytes, and how many of them, from the first on, are kept.
type file struct {
	bytes []byte
	kept  int
}

// clone is another file that is the same.
func (f *file) clone() *file { return &file{bytes.Clone(f.bytes), f.kept} }

// crash lets go of the bytes that are not kept, but so many as are left of the i-th file; the others are kept.
func (f *file) crash(left []int, i int) {
	more := 0
	if len(left) > 0 {
		more = left[i%len(left)]
	}
	f.kept += within(more, len(f.bytes)-f.kept)
	f.bytes = f.bytes[:f.kept]
}

// change is a change of names: the file that was made, or else the one that has the name from, has the name to alone; no name, if that is none.
type change struct {
	from, to string
	made     *file
}

// clone is the same change, on a disk that has other files.
func (c change) clone() change {
	if c.made != nil {
		c.made = c.made.clone()
	}
	return c
}

// on does the change to names, and tells the file that has none from then on.
func (c change) on(names map[string]*file) *file {
	f := c.made
	if f == nil {
		f = names[c.from]
		delete(names, c.from)
	}
	if c.to == "" {
		return f
	}
	gone := names[c.to]
	names[c.to] = f
	return gone
}
