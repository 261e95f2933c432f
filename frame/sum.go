package frame

const (
	sumBytes = 4
	sumStart = 0xFFFFFFFF
	sumPoly  = 0x04C11DB7
	sumTop   = 1 << 31
)

// Sum is a sum of the bytes of all lists, one behind the other.
func Sum(l ...[]byte) uint32 {
	s := uint32(sumStart)
	for _, b := range l {
		for _, c := range b {
			s = sumOn(s, c)
		}
	}
	return ^s
}

// sumOn is the sum s with one byte more.
func sumOn(s uint32, c byte) uint32 {
	s ^= uint32(c) << 24
	for range 8 {
		top := s & sumTop
		s <<= 1
		if top != 0 {
			s ^= sumPoly
		}
	}
	return s
}
