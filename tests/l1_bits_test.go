package tests

import (
	"bytes"
	"math"
	"slices"
	"testing"

	"loop.example/wholenet/impl"
)

// sevenBits returns c1 to c7 of a number, c1 at the index 1.
func sevenBits(code int) [8]int {
	var c [8]int
	for i := 1; i <= 7; i++ {
		c[i] = code >> (7 - i) & 1
	}
	return c
}

// rulesHold reports whether c1, c2 and c4 are as the document tells.
func rulesHold(code int) bool {
	c := sevenBits(code)
	return (c[1]+c[3]+c[5]+c[7])%2 == 0 && (c[2]+c[3]+c[6]+c[7])%2 == 0 && (c[4]+c[5]+c[6]+c[7])%2 == 0
}

// fourBits returns the number whose bits are c3, c5, c6 and c7.
func fourBits(code int) int {
	c := sevenBits(code)
	return 8*c[3] + 4*c[5] + 2*c[6] + c[7]
}

func TestMaxData(t *testing.T) {
	if impl.MaxData != 600 {
		t.Errorf("MaxData = %d", impl.MaxData)
	}
}

func TestBitsOfHighestFirst(t *testing.T) {
	if got, want := impl.BitsOf([]byte{0b10000001, 0b01100000}), []int{1, 0, 0, 0, 0, 0, 0, 1, 0, 1, 1, 0, 0, 0, 0, 0}; !slices.Equal(got, want) {
		t.Errorf("BitsOf = %v, want %v", got, want)
	}
	for x := range 256 {
		got := impl.BitsOf([]byte{0, byte(x)})
		if len(got) != 16 {
			t.Fatalf("BitsOf of 0, %d has %d bits", x, len(got))
		}
		for i := range 8 {
			if got[i] != 0 || got[8+i] != x>>(7-i)&1 {
				t.Fatalf("BitsOf of 0, %d = %v", x, got)
			}
		}
	}
	if len(impl.BitsOf(nil)) != 0 || len(impl.BitsOf([]byte{})) != 0 {
		t.Error("BitsOf of nothing is not nothing")
	}
}

func TestBitsThereAndBack(t *testing.T) {
	for _, many := range []int{0, 1, 2, 3, 7, 8, 599, impl.MaxData} {
		b := sampleData(many)
		bits := impl.BitsOf(b)
		if len(bits) != 8*many {
			t.Fatalf("BitsOf of %d bytes has %d bits", many, len(bits))
		}
		back, ok := impl.BytesOf(bits)
		if !ok || !bytes.Equal(back, b) {
			t.Errorf("BytesOf of the bits of %d bytes = %v, %v", many, back, ok)
		}
	}
	if got := impl.BitsOf(make([]byte, impl.MaxData+1)); len(got) != 0 {
		t.Errorf("BitsOf of too many bytes has %d bits", len(got))
	}
}

func TestBytesOfInvalid(t *testing.T) {
	bad := [][]int{make([]int, 8*impl.MaxData+8), make([]int, 8*impl.MaxData+1)}
	for many := 1; many <= 40; many++ {
		if many%8 != 0 {
			bad = append(bad, make([]int, many))
		}
	}
	for _, x := range append([]int{2, 3, 8, 257}, strangeNumbers...) {
		for at := range 16 {
			bits := make([]int, 16)
			bits[at] = x
			bad = append(bad, bits)
		}
	}
	for _, bits := range bad {
		if got, ok := impl.BytesOf(bits); ok || len(got) != 0 {
			t.Fatalf("BytesOf(%v) = %v, %v", bits, got, ok)
		}
	}
	if got, ok := impl.BytesOf(nil); !ok || len(got) != 0 {
		t.Errorf("BytesOf(nil) = %v, %v", got, ok)
	}
}

func TestParityOf(t *testing.T) {
	for x := range 256 {
		for y := range 256 {
			odd := 0
			for i := range 8 {
				odd ^= x>>i&1 ^ y>>i&1
			}
			if got := impl.ParityOf([]byte{byte(x), byte(y)}); got != odd {
				t.Fatalf("ParityOf(%d, %d) = %d", x, y, got)
			}
		}
	}
	full := make([]byte, impl.MaxData)
	if impl.ParityOf(nil) != 0 || impl.ParityOf(full) != 0 {
		t.Error("ParityOf is not 0 where no bit is set")
	}
	full[impl.MaxData-1] = 1
	if impl.ParityOf(full) != 1 {
		t.Error("ParityOf does not count the last bit of the longest data")
	}
	if got := impl.ParityOf(make([]byte, impl.MaxData+1)); got != -1 {
		t.Errorf("ParityOf of too many bytes = %d", got)
	}
}

func TestFlipBitTurnsOne(t *testing.T) {
	for _, many := range []int{1, 2, 3, impl.MaxData} {
		b := sampleData(many)
		for i := range 8 * many {
			want := impl.BitsOf(b)
			want[i] = 1 - want[i]
			got, ok := impl.FlipBit(b, i)
			if !ok || !slices.Equal(impl.BitsOf(got), want) {
				t.Fatalf("FlipBit of %d bytes at %d = %v, %v", many, i, got, ok)
			}
		}
	}
	if got, ok := impl.FlipBit([]byte{0, 0}, 8); !ok || !bytes.Equal(got, []byte{0, 128}) {
		t.Errorf("FlipBit of the highest bit of the last byte = %v, %v", got, ok)
	}
	if got, ok := impl.FlipBit([]byte{0, 0}, 15); !ok || !bytes.Equal(got, []byte{0, 1}) {
		t.Errorf("FlipBit of the lowest bit of the last byte = %v, %v", got, ok)
	}
}

func TestFlipBitInvalid(t *testing.T) {
	for _, many := range []int{0, 1, 2, impl.MaxData} {
		for _, i := range []int{math.MinInt, -8, -1, 8 * many, 8*many + 1, math.MaxInt} {
			if got, ok := impl.FlipBit(make([]byte, many), i); ok || len(got) != 0 {
				t.Errorf("FlipBit of %d bytes at %d = %v, %v", many, i, got, ok)
			}
		}
	}
	for _, i := range []int{-1, 0, 8*impl.MaxData + 7} {
		if got, ok := impl.FlipBit(make([]byte, impl.MaxData+1), i); ok || len(got) != 0 {
			t.Errorf("FlipBit of too many bytes at %d = %v, %v", i, got, ok)
		}
	}
}

func TestDistance(t *testing.T) {
	for x := range 256 {
		for y := range 256 {
			want := 0
			for i := range 8 {
				want += (x ^ y) >> i & 1
			}
			if got := impl.Distance([]byte{7, byte(x), 0}, []byte{7, byte(y), 1}); got != want+1 {
				t.Fatalf("Distance of %d and %d = %d, want %d", x, y, got-1, want)
			}
		}
	}
	zeros, ones := make([]byte, impl.MaxData), bytes.Repeat([]byte{255}, impl.MaxData)
	if got := impl.Distance(zeros, ones); got != 8*impl.MaxData {
		t.Errorf("Distance of the longest data = %d", got)
	}
	if got := impl.Distance(nil, []byte{}); got != 0 {
		t.Errorf("Distance of nothing = %d", got)
	}
}

func TestDistanceInvalid(t *testing.T) {
	long := make([]byte, impl.MaxData+1)
	for _, c := range [][2][]byte{{{1}, nil}, {nil, {1}}, {{1}, {1, 0}}, {{1, 0}, {1}}, {long, long}, {long, long[1:]}, {long[1:], long}} {
		if got := impl.Distance(c[0], c[1]); got != -1 {
			t.Errorf("Distance of %d and %d bytes = %d", len(c[0]), len(c[1]), got)
		}
	}
}

func TestEncodeNibble(t *testing.T) {
	if got := impl.EncodeNibble(11); got != 0b0110011 {
		t.Errorf("EncodeNibble(11) = %07b", got)
	}
	for n := range 16 {
		code := impl.EncodeNibble(n)
		if code < 0 || code > 127 || !rulesHold(code) || fourBits(code) != n {
			t.Errorf("EncodeNibble(%d) = %07b", n, code)
		}
	}
	for _, n := range append([]int{16, 17, 31, 127}, strangeNumbers...) {
		if got := impl.EncodeNibble(n); got != -1 {
			t.Errorf("EncodeNibble(%d) = %d", n, got)
		}
	}
}

// TestOneWrongBitIsMended is promise 1, for all codes and all of their bits, those of the rules among them.
func TestOneWrongBitIsMended(t *testing.T) {
	for n := range 16 {
		code := impl.EncodeNibble(n)
		if got, at := impl.DecodeNibble(code); got != n || at != 0 {
			t.Errorf("DecodeNibble(%07b) = %d, %d, want %d, 0", code, got, at, n)
		}
		for i := 1; i <= 7; i++ {
			wrong := code ^ 1<<(7-i)
			if got, at := impl.DecodeNibble(wrong); got != n || at != i {
				t.Errorf("DecodeNibble(%07b) = %d, %d, want %d, %d", wrong, got, at, n, i)
			}
		}
	}
}

// TestDecodeNibbleByRules holds every number of seven bits against the three rules alone.
func TestDecodeNibbleByRules(t *testing.T) {
	for code := range 128 {
		n, at := impl.DecodeNibble(code)
		if at < 0 || at > 7 || (at == 0) != rulesHold(code) {
			t.Fatalf("DecodeNibble(%07b) = %d, %d", code, n, at)
		}
		mended := code
		if at > 0 {
			mended ^= 1 << (7 - at)
		}
		if !rulesHold(mended) || n != fourBits(mended) {
			t.Errorf("DecodeNibble(%07b) = %d, %d", code, n, at)
		}
	}
	for _, code := range strangeNumbers {
		if n, at := impl.DecodeNibble(code); n != -1 || at != -1 {
			t.Errorf("DecodeNibble(%d) = %d, %d", code, n, at)
		}
	}
}

func TestEncodeBytes(t *testing.T) {
	for x := range 256 {
		want := []byte{byte(impl.EncodeNibble(x / 16)), byte(impl.EncodeNibble(x % 16))}
		if got := impl.EncodeBytes([]byte{byte(x)}); !bytes.Equal(got, want) {
			t.Errorf("EncodeBytes(%d) = %v, want %v", x, got, want)
		}
	}
	if got, want := impl.EncodeBytes([]byte{0x0b, 0xb0}), []byte{0, 0b0110011, 0b0110011, 0}; !bytes.Equal(got, want) {
		t.Errorf("EncodeBytes = %v, want %v", got, want)
	}
	if got := impl.EncodeBytes(nil); len(got) != 0 {
		t.Errorf("EncodeBytes(nil) = %v", got)
	}
	if got := impl.EncodeBytes(make([]byte, impl.MaxData+1)); len(got) != 0 {
		t.Errorf("EncodeBytes of too many bytes has %d bytes", len(got))
	}
}

func TestBytesAreMended(t *testing.T) {
	for _, many := range []int{0, 1, 2, 5, impl.MaxData} {
		b := sampleData(many)
		code := impl.EncodeBytes(b)
		if len(code) != 2*many {
			t.Fatalf("EncodeBytes of %d bytes has %d", many, len(code))
		}
		if got, turned := impl.DecodeBytes(code); !bytes.Equal(got, b) || turned != 0 {
			t.Errorf("DecodeBytes of %d bytes = %v, %d", many, got, turned)
		}
		wrong := 0
		for i := range code {
			if i%3 != 1 {
				code[i] ^= 1 << (i % 7)
				wrong++
			}
		}
		if got, turned := impl.DecodeBytes(code); !bytes.Equal(got, b) || turned != wrong {
			t.Errorf("DecodeBytes of %d bytes with %d wrong bits = %v, %d", many, wrong, got, turned)
		}
	}
}

func TestDecodeBytesInvalid(t *testing.T) {
	bad := [][]byte{{0}, {0, 0, 0}, make([]byte, 2*impl.MaxData-1), make([]byte, 2*impl.MaxData+1), make([]byte, 2*impl.MaxData+2)}
	for x := 128; x < 256; x++ {
		bad = append(bad, []byte{byte(x), 0}, []byte{0, byte(x)}, []byte{1, 0, 0, byte(x)})
	}
	for _, b := range bad {
		if got, turned := impl.DecodeBytes(b); len(got) != 0 || turned != -1 {
			t.Errorf("DecodeBytes(%v) = %v, %d", b, got, turned)
		}
	}
}

// TestBitsShareNoMemory is for the results of bytes, and for the arguments of all functions.
func TestBitsShareNoMemory(t *testing.T) {
	checkMemory(t, "FlipBit", 4, func(b []byte) []byte {
		flipped, _ := impl.FlipBit(b, 3)
		return flipped
	})
	checkMemory(t, "EncodeBytes", 4, impl.EncodeBytes)
	checkMemory(t, "DecodeBytes", 4, func(b []byte) []byte {
		decoded, _ := impl.DecodeBytes(b)
		return decoded
	})
	checkMemory(t, "another function", 4, func(b []byte) []byte {
		impl.BitsOf(b)
		impl.ParityOf(b)
		impl.Distance(b, b)
		return nil
	})
	bits := []int{0, 1, 0, 1, 1, 0, 1, 1, 5, 6}
	kept := slices.Clone(bits)
	impl.BytesOf(bits[:8])
	if !slices.Equal(bits, kept) {
		t.Error("BytesOf changes its argument")
	}
}
