package wal

import "slices"

// broken: what reading a frame that isn't whole panics with.
type broken struct{}

// framed tells how many bytes the frames of records have, where there is room for so many. Empty records for whose frames there is none have none: nothing but such can come behind them, so that their count tells of them.
func framed(records [][]byte, room int) int {
	n := 0
	for _, r := range records {
		if len(r) > 0 || n+frameHead <= room {
			n += frameHead + len(r)
		}
	}
	return n
}

// join tells records as n bytes: frames, each a length and a record.
func join(records [][]byte, n int) []byte {
	out := make([]byte, 0, n)
	for _, r := range records {
		if len(out) == n {
			break
		}
		out = append(out, byte(len(r)>>24), byte(len(r)>>16), byte(len(r)>>8), byte(len(r)))
		out = append(out, r...)
	}
	return out
}

// split tells the records of frames, and whether they are count whole ones; where no room is left, empty ones without frames are among these.
func split(b []byte, count int, full bool) (records [][]byte, ok bool) {
	defer func() {
		if recover() != nil {
			records, ok = nil, false
		}
	}()
	for len(b) > 0 {
		r := first(b)
		b = b[frameHead+len(r):]
		records = append(records, r)
	}
	for full && len(records) < count {
		records = append(records, nil)
	}
	if len(records) != count {
		panic(broken{})
	}
	return records, true
}

// first tells the record of the frame that b begins with.
func first(b []byte) []byte {
	if len(b) < frameHead {
		panic(broken{})
	}
	n := int(b[0])<<24 | int(b[1])<<16 | int(b[2])<<8 | int(b[3])
	if n > len(b)-frameHead {
		panic(broken{})
	}
	return slices.Clone(b[frameHead : frameHead+n])
}
