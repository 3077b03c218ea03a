// Package sum is layer 1: a checksum (CRC-32C), by which bytes that were spoilt on their way are told from such as a node sent.
package sum

// size is how many bytes a sum takes behind what it seals.
const size = 4

// halves holds, for the lowest four bits of a sum, what is xored in while these fall out: a half byte at a time does the same as a bit at a time.
var halves = [16]uint32{
	0x00000000, 0x105EC76F, 0x20BD8EDE, 0x30E349B1,
	0x417B1DBC, 0x5125DAD3, 0x61C69362, 0x7198540D,
	0x82F63B78, 0x92A8FC17, 0xA24BB5A6, 0xB21572C9,
	0xC38D26C4, 0xD3D3E1AB, 0xE330A81A, 0xF36E6F75,
}

// Of tells the sum of all parts, one behind the other.
func Of(parts ...[]byte) uint32 {
	s := ^uint32(0)
	for _, p := range parts {
		s = add(s, p)
	}
	return ^s
}

// add takes b into a sum that is on its way, whose bits are not turned yet.
func add(s uint32, b []byte) uint32 {
	for _, x := range b {
		s ^= uint32(x)
		s = s>>4 ^ halves[s&15]
		s = s>>4 ^ halves[s&15]
	}
	return s
}

// Seal tells b, and its sum behind it, the lowest byte first.
func Seal(b []byte) []byte {
	sealed := make([]byte, len(b)+size)
	copy(sealed, b)
	s := Of(b)
	for i := range size {
		sealed[len(b)+i] = byte(s >> (8 * i))
	}
	return sealed
}

// Open tells what was sealed; false: it was not.
func Open(b []byte) ([]byte, bool) {
	n := len(b) - size
	if n < 0 || Of(b[:n]) != last(b[n:]) {
		return nil, false
	}
	opened := make([]byte, n)
	copy(opened, b[:n])
	return opened, true
}

// last reads the sum that stands in the bytes of a seal.
func last(b []byte) uint32 {
	s := uint32(0)
	for i, x := range b {
		s |= uint32(x) << (8 * i)
	}
	return s
}
