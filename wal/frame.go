package wal

import "slices"

// broken: what reading a frame that isn't whole panics with.
type broken struct{}

// join tells records as n bytes: frames, each a length and a record.
func join(records [][]byte, n int) []byte {
	out := make([]byte, 0, n)
	for _, r := range records {
		out = append(out, byte(len(r)>>24), byte(len(r)>>16), byte(len(r)>>8), byte(len(r)))
		out = append(out, r...)
	}
	return out
}

// split tells the records of frames, and whether they are just count whole ones.
func split(b []byte, count int) (records [][]byte, ok bool) {
	defer func() {
		if recover() != nil {
			records, ok = nil, false
		}
	}()
	for len(b) > 0 {
		r := first(b)
		b = b[frameHead+len(r):]
		records = append(records, r)
	}
	if len(records) != count {
		panic(broken{})
	}
	return records, true
}

// first tells the record of the frame that b begins with.
func first(b []byte) []byte {
	if len(b) < frameHead {
		panic(broken{})
	}
	n := int(b[0])<<24 | int(b[1])<<16 | int(b[2])<<8 | int(b[3])
	if n > len(b)-frameHead {
		panic(broken{})
	}
	return slices.Clone(b[frameHead : frameHead+n])
}
