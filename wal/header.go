package wal

// header: which records count. On a sector its number stands at the beginning and at the end: a write that is torn leaves the two unlike, so that no sum need tell whether it is whole.
type header struct {
	seq   uint64 // 0: no header
	half  int
	used  int // bytes
	count int // records
}

const (
	magic   = "haversack log 1\n"
	atMagic = 8
	atHalf  = atMagic + len(magic)
	atUsed  = atHalf + 8
	atCount = atUsed + 8
)

const maxCount = 1<<31 - 1 // records

func (h header) bytes(size int) []byte {
	b := make([]byte, size)
	put64(b, h.seq)
	copy(b[atMagic:], magic)
	put64(b[atHalf:], uint64(h.half))
	put64(b[atUsed:], uint64(h.used))
	put64(b[atCount:], uint64(h.count))
	put64(b[size-8:], h.seq)
	return b
}

// parse tells the header that b is, and whether it is one, of a half of that capacity.
func parse(b []byte, capacity int) (header, bool) {
	seq := get64(b)
	half, used, count := get64(b[atHalf:]), get64(b[atUsed:]), get64(b[atCount:])
	whole := seq != 0 && seq == get64(b[len(b)-8:]) && string(b[atMagic:atHalf]) == magic
	if !whole || half > 1 || used > uint64(capacity) || count > maxCount {
		return header{}, false
	}
	return header{seq: seq, half: int(half), used: int(used), count: int(count)}, true
}

// after tells a number above seq whose first byte isn't the one that the end of old begins with: however the write over old is torn, beginning and end are unlike then.
func after(seq uint64, old []byte) uint64 {
	seq++
	if byte(seq) == old[len(old)-8] {
		seq++
	}
	return seq
}

func put64(b []byte, n uint64) {
	for i := range 8 {
		b[i] = byte(n >> (8 * i))
	}
}

func get64(b []byte) uint64 {
	var n uint64
	for i := range 8 {
		n |= uint64(b[i]) << (8 * i)
	}
	return n
}
