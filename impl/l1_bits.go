package impl

import "math/bits"

// MaxData is how many bytes data has at most.
const MaxData = 600

// maxCode is the greatest number of seven bits.
const maxCode = 127

// nibbleCodes has the seven bits of each number of four, c1 being the highest.
var nibbleCodes = [16]int{
	0b0000000, 0b1101001, 0b0101010, 0b1000011,
	0b1001100, 0b0100101, 0b1100110, 0b0001111,
	0b1110000, 0b0011001, 0b1011010, 0b0110011,
	0b0111100, 0b1010101, 0b0010110, 0b1111111,
}

// ruleRows has for each rule the bits among which an even number is set: the
// rule of c1, of c2 and of c4. In this order the rules that a code breaks, read
// as bits with the first one lowest, are the number of the bit that is wrong.
var ruleRows = [3]int{0b1010101, 0b0110011, 0b0001111}

// BitsOf returns the bits of bytes, the highest of each first.
func BitsOf(b []byte) []int {
	if !isData(b) {
		return nil
	}
	out := make([]int, 8*len(b))
	for i := range out {
		out[i] = int(b[i/8]>>(7-i%8)) & 1
	}
	return out
}

// BytesOf returns the bytes of bits.
func BytesOf(bits []int) ([]byte, bool) {
	if len(bits)%8 != 0 || len(bits) > 8*MaxData {
		return nil, false
	}
	out := make([]byte, len(bits)/8)
	for i, bit := range bits {
		if bit != 0 && bit != 1 {
			return nil, false
		}
		out[i/8] = out[i/8]<<1 | byte(bit)
	}
	return out, true
}

// ParityOf returns whether an odd number of bits is set, or -1.
func ParityOf(b []byte) int {
	if !isData(b) {
		return -1
	}
	set := 0
	for _, x := range b {
		set += bits.OnesCount8(x)
	}
	return set % 2
}

// FlipBit returns bytes with a bit flipped.
func FlipBit(b []byte, i int) ([]byte, bool) {
	if !isData(b) || i < 0 || i >= 8*len(b) {
		return nil, false
	}
	out := make([]byte, len(b))
	copy(out, b)
	out[i/8] ^= 128 >> (i % 8)
	return out, true
}

// Distance returns how many bits differ, or -1.
func Distance(a []byte, b []byte) int {
	if !isData(a) || !isData(b) || len(a) != len(b) {
		return -1
	}
	differ := 0
	for i, x := range a {
		differ += bits.OnesCount8(x ^ b[i])
	}
	return differ
}

// EncodeNibble returns the seven bits of four, or -1.
func EncodeNibble(n int) int {
	if n < 0 || n >= len(nibbleCodes) {
		return -1
	}
	return nibbleCodes[n]
}

// DecodeNibble returns the four bits of seven, and which one was mended, or -1.
func DecodeNibble(n int) (int, int) {
	if n < 0 || n > maxCode {
		return -1, -1
	}
	at := wrongBit(n)
	if at > 0 {
		n ^= 1 << (7 - at)
	}
	return nibbleIn(n), at
}

// EncodeBytes returns bytes in a code that mends.
func EncodeBytes(b []byte) []byte {
	if !isData(b) {
		return nil
	}
	out := make([]byte, 0, 2*len(b))
	for _, x := range b {
		out = append(out, byte(EncodeNibble(int(x>>4))), byte(EncodeNibble(int(x&15))))
	}
	return out
}

// DecodeBytes returns the bytes of a code that mends, and how many bits were mended, or -1.
func DecodeBytes(b []byte) ([]byte, int) {
	if len(b)%2 != 0 || len(b) > 2*MaxData {
		return nil, -1
	}
	out := make([]byte, len(b)/2)
	turned := 0
	for i, x := range b {
		half, at := DecodeNibble(int(x))
		if at < 0 {
			return nil, -1
		}
		if at > 0 {
			turned++
		}
		out[i/2] = out[i/2]<<4 | byte(half)
	}
	return out, turned
}

// isData reports whether bytes are data.
func isData(b []byte) bool { return len(b) <= MaxData }

// wrongBit returns the number of the bit of a code that must be turned for all
// rules to hold, or 0: the code multiplied by the rows of the rules.
func wrongBit(code int) int {
	at := 0
	for rule, row := range ruleRows {
		odd := bits.OnesCount8(uint8(code&row)) % 2
		at |= odd << rule
	}
	return at
}

// nibbleIn returns the bits c3, c5, c6 and c7 of a code.
func nibbleIn(code int) int { return code>>4&1<<3 | code&7 }
