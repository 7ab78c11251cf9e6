package numbers

// Reader reads what stands in a list of bytes, one behind the other. At the first fault it stays where the number at fault begins, and answers zero values from then on.
type Reader struct {
	bytes []byte
	at    int
	fault bool
}

// Over answers a reader that stands at the first of the bytes. It keeps them, but does not change them.
func Over(b []byte) *Reader {
	return &Reader{bytes: b}
}

// Next answers the next number, which is at fault unless it is from low to high.
func (r *Reader) Next(low, high uint64) uint64 {
	if r.fault {
		return 0
	}
	n, behind, ok := Read(r.bytes, r.at, high)
	if !ok || n < low {
		r.fault = true
		return 0
	}
	r.at = behind
	return n
}

// Text answers the bytes behind the next number, which tells how many they are, and is at fault if so many are not left.
func (r *Reader) Text() string {
	begin := r.at
	length := r.Next(0, Limit)
	left := r.bytes[r.at:]
	if length > uint64(len(left)) {
		r.at, r.fault = begin, true
		return ""
	}
	r.at += int(length)
	return string(left[:length])
}

// Fault tells whether there was a fault.
func (r *Reader) Fault() bool {
	return r.fault
}

// End tells whether there was no fault and nothing is left. If not, at is the place of the fault, or of what is left.
func (r *Reader) End() (at int, ok bool) {
	return r.at, !r.fault && r.at == len(r.bytes)
}
