package tests

import (
	"bytes"
	"slices"
	"testing"

	"loop.example/wholenet/impl"
)

// frameSigns are the bytes that have a meaning in frames, and some that have none.
var frameSigns = []byte{126, 125, 94, 93, 0, 255}

// stuffed returns bytes in which each flag and each turn is turned.
func stuffed(b []byte) []byte {
	b = bytes.ReplaceAll(b, []byte{125}, []byte{125, 93})
	return bytes.ReplaceAll(b, []byte{126}, []byte{125, 94})
}

// pieceOf returns what stands between the flags of a frame, as the test reckons it.
func pieceOf(b []byte) []byte { return stuffed(withCheck(b)) }

// frameOf returns the frame of data, as the test reckons it.
func frameOf(b []byte) []byte {
	return slices.Concat([]byte{126}, pieceOf(b), []byte{126})
}

// textsOf returns all texts of at most so many of some bytes, the empty one first.
func textsOf(signs []byte, many int) [][]byte {
	texts := [][]byte{{}}
	last := texts
	for range many {
		var next [][]byte
		for _, text := range last {
			for _, x := range signs {
				next = append(next, append(bytes.Clone(text), x))
			}
		}
		texts = append(texts, next...)
		last = next
	}
	return texts
}

// sameData reports whether two lists have the same data.
func sameData(a, b [][]byte) bool { return slices.EqualFunc(a, b, bytes.Equal) }

// checkStream holds what is found in a stream against what is there.
func checkStream(t *testing.T, b []byte, want [][]byte, noise int) {
	t.Helper()
	if got := impl.FramesIn(b); !sameData(got, want) {
		t.Errorf("FramesIn(%v) = %v, want %v", b, got, want)
	}
	if got := impl.NoiseIn(b); got != noise {
		t.Errorf("NoiseIn(%v) = %d, want %d", b, got, noise)
	}
}

func TestSigns(t *testing.T) {
	if impl.SignFlag != 126 || impl.SignTurn != 125 {
		t.Errorf("SignFlag = %d, SignTurn = %d", impl.SignFlag, impl.SignTurn)
	}
}

func TestStuffBytes(t *testing.T) {
	if got, want := impl.StuffBytes([]byte{126, 1, 125}), []byte{125, 94, 1, 125, 93}; !bytes.Equal(got, want) {
		t.Errorf("StuffBytes(126, 1, 125) = %v", got)
	}
	for x := range 256 {
		want := []byte{7, byte(x), 9}
		switch x {
		case 125:
			want = []byte{7, 125, 93, 9}
		case 126:
			want = []byte{7, 125, 94, 9}
		}
		if got := impl.StuffBytes([]byte{7, byte(x), 9}); !bytes.Equal(got, want) {
			t.Errorf("StuffBytes(7, %d, 9) = %v", x, got)
		}
	}
	for _, b := range append(textsOf(frameSigns, 4), sampleData(599), sampleData(600), bytes.Repeat([]byte{125}, 600), bytes.Repeat([]byte{126}, 600)) {
		if got, want := impl.StuffBytes(b), stuffed(b); !bytes.Equal(got, want) {
			t.Fatalf("StuffBytes(%v) = %v, want %v", b, got, want)
		}
	}
	for _, many := range []int{601, 602, 1200} {
		if got := impl.StuffBytes(sampleData(many)); len(got) != 0 {
			t.Errorf("StuffBytes of %d bytes has %d bytes", many, len(got))
		}
	}
	if got := impl.StuffBytes(nil); len(got) != 0 {
		t.Errorf("StuffBytes(nil) = %v", got)
	}
}

// TestUnstuffBytes holds all short texts of signs, and all of two bytes, against
// what all short data is stuffed to.
func TestUnstuffBytes(t *testing.T) {
	var all []byte
	for x := range 256 {
		all = append(all, byte(x))
	}
	for _, c := range []struct {
		signs []byte
		many  int
	}{{frameSigns, 5}, {all, 2}} {
		texts := textsOf(c.signs, c.many)
		from := map[string]string{}
		for _, b := range texts {
			from[string(stuffed(b))] = string(b)
		}
		for _, b := range texts {
			want, there := from[string(b)]
			if got, ok := impl.UnstuffBytes(b); ok != there || string(got) != want {
				t.Fatalf("UnstuffBytes(%v) = %v, %v, want %v, %v", b, got, ok, []byte(want), there)
			}
		}
	}
}

func TestUnstuffBytesLong(t *testing.T) {
	for _, b := range [][]byte{nil, sampleData(599), sampleData(600), bytes.Repeat([]byte{125}, 600), bytes.Repeat([]byte{126}, 600), bytes.Repeat([]byte{125, 94}, 300)} {
		if got, ok := impl.UnstuffBytes(stuffed(b)); !ok || !bytes.Equal(got, b) {
			t.Errorf("UnstuffBytes of %d stuffed bytes = %v, %v", len(b), got, ok)
		}
	}
	plain := bytes.Repeat([]byte{7}, 598)
	bad := [][]byte{
		bytes.Repeat([]byte{7}, 601),
		bytes.Repeat([]byte{7}, 5000),
		stuffed(bytes.Repeat([]byte{125}, 601)),
		stuffed(bytes.Repeat([]byte{126}, 601)),
		slices.Concat(plain, []byte{7, 7, 125, 93}),
		slices.Concat([]byte{125, 94, 7, 7}, plain),
		slices.Concat(plain, []byte{7, 125}),
		slices.Concat(plain, []byte{7, 7, 125}),
		slices.Concat(plain, []byte{7, 126}),
	}
	for _, b := range bad {
		if got, ok := impl.UnstuffBytes(b); ok || len(got) != 0 {
			t.Errorf("UnstuffBytes of %d bytes, the last one %d, = %v, %v", len(b), b[len(b)-1], got, ok)
		}
	}
	if got, ok := impl.UnstuffBytes(slices.Concat(plain, []byte{125, 93, 7})); !ok || len(got) != 600 {
		t.Errorf("UnstuffBytes of 601 bytes for 600 = %d bytes, %v", len(got), ok)
	}
}

func TestFrameOf(t *testing.T) {
	crc := checkByTurns([]byte{126})
	want := slices.Concat([]byte{126, 125, 94}, stuffed([]byte{byte(crc / 256), byte(crc % 256)}), []byte{126})
	if got, ok := impl.FrameOf([]byte{126}); !ok || !bytes.Equal(got, want) {
		t.Errorf("FrameOf(126) = %v, %v, want %v", got, ok, want)
	}
	// All numbers of 16 bits are the check of some two bytes, those of signs among them.
	for x := range 256 {
		for y := range 256 {
			b := []byte{byte(x), byte(y)}
			if got, ok := impl.FrameOf(b); !ok || !bytes.Equal(got, frameOf(b)) {
				t.Fatalf("FrameOf(%v) = %v, %v", b, got, ok)
			}
		}
	}
	for many := 1; many <= 598; many++ {
		for _, b := range [][]byte{sampleData(many), bytes.Repeat([]byte{125}, many)} {
			if got, ok := impl.FrameOf(b); !ok || !bytes.Equal(got, frameOf(b)) {
				t.Fatalf("FrameOf of %d bytes = %v, %v", many, got, ok)
			}
		}
	}
	for _, many := range []int{0, 599, 600, 601, 1200} {
		if got, ok := impl.FrameOf(make([]byte, many)); ok || len(got) != 0 {
			t.Errorf("FrameOf of %d bytes = %v, %v", many, got, ok)
		}
	}
	if got, ok := impl.FrameOf(nil); ok || len(got) != 0 {
		t.Errorf("FrameOf(nil) = %v, %v", got, ok)
	}
}

func TestPiecesOfStreams(t *testing.T) {
	hi, yo := pieceOf([]byte("hi")), pieceOf([]byte("yo"))
	flag := []byte{126}
	both := [][]byte{[]byte("hi"), []byte("yo")}
	cases := []struct {
		parts [][]byte
		want  [][]byte
		noise int
	}{
		{nil, nil, 0},
		{[][]byte{flag}, nil, 0},
		{[][]byte{flag, flag, flag}, nil, 0},
		{[][]byte{[]byte("noise")}, nil, 1},
		{[][]byte{[]byte("noise"), flag}, nil, 1},
		{[][]byte{flag, []byte("noise")}, nil, 1},
		{[][]byte{[]byte("noise"), flag, []byte("noise")}, nil, 2},
		// A piece needs no flags at both of its sides, and one flag is enough between two.
		{[][]byte{hi}, both[:1], 0},
		{[][]byte{hi, flag}, both[:1], 0},
		{[][]byte{flag, hi}, both[:1], 0},
		{[][]byte{hi, flag, yo}, both, 0},
		{[][]byte{flag, hi, flag, yo, flag}, both, 0},
		{[][]byte{flag, hi, flag, flag, yo, flag}, both, 0},
		{[][]byte{flag, flag, flag, hi, flag, flag, flag, yo, flag, flag, flag}, both, 0},
		{[][]byte{flag, yo, flag, hi, flag, hi, flag}, [][]byte{both[1], both[0], both[0]}, 0},
		{[][]byte{flag, hi, flag, []byte("noise"), flag, yo, flag}, both, 1},
		{[][]byte{[]byte("a"), flag, hi, flag, []byte("b"), flag, []byte("c"), flag, yo, flag, []byte("d")}, both, 4},
		// What stands beside a piece without a flag between makes it another one.
		{[][]byte{flag, []byte("a"), hi, flag, yo, flag}, both[1:], 1},
		{[][]byte{flag, hi, []byte("a"), flag, yo, flag}, both[1:], 1},
		{[][]byte{flag, hi, yo, flag}, nil, 1},
		// Turns at the end of a piece.
		{[][]byte{flag, hi, {125}, flag, yo, flag}, both[1:], 1},
		{[][]byte{flag, {125}, flag, yo, flag}, both[1:], 1},
		{[][]byte{hi, flag, yo, {125}}, both[:1], 1},
		{[][]byte{{125}, flag, {125}, flag, {125}}, nil, 3},
		{[][]byte{flag, hi, {125, 93}, flag}, nil, 1},
		{[][]byte{flag, hi[:1], {125}, hi[1:], flag}, nil, 1},
	}
	for _, c := range cases {
		checkStream(t, slices.Concat(c.parts...), c.want, c.noise)
	}
}

// TestShortPieces is for pieces that are too short: one byte is no data with a
// check, and the check of nothing is no frame, as there is none of nothing.
func TestShortPieces(t *testing.T) {
	for x := range 256 {
		want := 1
		if x == 126 {
			want = 0
		}
		checkStream(t, []byte{126, byte(x), 126}, nil, want)
	}
	checkStream(t, []byte{126, 255, 255, 126}, nil, 1)
	checkStream(t, []byte{255, 255}, nil, 1)
	checkStream(t, []byte{126, 255, 255, 255, 126}, nil, 1)
	for x := range 256 {
		checkStream(t, frameOf([]byte{byte(x)}), [][]byte{{byte(x)}}, 0)
	}
}

// TestLongPieces is for pieces of the longest data with a check, and of one byte more.
func TestLongPieces(t *testing.T) {
	long, signs := sampleData(598), bytes.Repeat([]byte{125}, 598)
	checkStream(t, frameOf(long), [][]byte{long}, 0)
	checkStream(t, frameOf(signs), [][]byte{signs}, 0)
	checkStream(t, frameOf(sampleData(599)), nil, 1)
	checkStream(t, frameOf(bytes.Repeat([]byte{126}, 599)), nil, 1)
	checkStream(t, slices.Concat(frameOf(sampleData(599)), frameOf(long)), [][]byte{long}, 1)
}

func TestLongStreams(t *testing.T) {
	stream := bytes.Repeat(frameOf([]byte("hi")), 1000)
	for _, length := range []int{4799, 4800} {
		// The last one of 800 frames of 6 bytes is found without its last flag too.
		checkStream(t, stream[:length], slices.Repeat([][]byte{[]byte("hi")}, 800), 0)
		checkStream(t, make([]byte, length), nil, 1)
		checkStream(t, bytes.Repeat([]byte{126}, length), nil, 0)
	}
	checkStream(t, bytes.Repeat([]byte{126, 1}, 2400), nil, 2400)
	for _, length := range []int{4801, 4802, 5600} {
		checkStream(t, stream[:length], nil, -1)
		checkStream(t, bytes.Repeat([]byte{126}, length), nil, -1)
	}
}

// TestFrameIsFoundAgain is promise 3: between whatever stands ahead of a frame and
// behind it, its data is found, and all else is found as it is without the frame.
func TestFrameIsFoundAgain(t *testing.T) {
	around := textsOf(frameSigns, 3)
	around = append(around, []byte("noise"), pieceOf([]byte("hi")), frameOf([]byte("yo")), frameOf([]byte{125})[1:], frameOf([]byte{126})[:4], sampleData(700))
	for _, b := range [][]byte{{0}, {126}, {125}, {125, 94}, {126, 126}, []byte("one"), sampleData(598)} {
		frame, ok := impl.FrameOf(b)
		if !ok {
			t.Fatalf("FrameOf of %d bytes is none", len(b))
		}
		for i, ahead := range around {
			for _, behind := range [][]byte{nil, around[(7*i+3)%len(around)], around[(31*i+11)%len(around)]} {
				want := slices.Concat(impl.FramesIn(ahead), [][]byte{b}, impl.FramesIn(behind))
				noise := impl.NoiseIn(ahead) + impl.NoiseIn(behind)
				checkStream(t, slices.Concat(ahead, frame, behind), want, noise)
			}
		}
	}
}

// TestWrongBitsInFrames is promise 3 where a bit of another frame is wrong: that one
// gives no data, and those beside it are found.
func TestWrongBitsInFrames(t *testing.T) {
	hi, one, yo := frameOf([]byte("hi")), frameOf([]byte{1, 126, 2, 125, 3}), frameOf([]byte("yo"))
	for i := range 8 * (len(one) - 2) {
		wrong := bytes.Clone(one)
		wrong[1+i/8] ^= 128 >> (i % 8)
		stream := slices.Concat(hi, wrong, yo)
		want := [][]byte{[]byte("hi"), []byte("yo")}
		if got := impl.FramesIn(stream); !sameData(got, want) {
			t.Errorf("FramesIn with the wrong bit %d = %v", i, got)
		}
		if got := impl.NoiseIn(stream); got < 1 {
			t.Errorf("NoiseIn with the wrong bit %d = %d", i, got)
		}
	}
}

func TestStreamOf(t *testing.T) {
	lists := [][][]byte{
		nil,
		{[]byte("one")},
		{[]byte("one"), []byte("two")},
		{[]byte("two"), []byte("one"), []byte("two")},
		{{126}, {125}, {126, 126}, {125, 94}, {0}},
		{sampleData(598), sampleData(1), sampleData(597)},
	}
	for _, list := range lists {
		var want []byte
		for _, b := range list {
			want = append(want, frameOf(b)...)
		}
		got, ok := impl.StreamOf(list)
		if !ok || !bytes.Equal(got, want) {
			t.Errorf("StreamOf(%v) = %v, %v, want %v", list, got, ok, want)
		}
		checkStream(t, got, list, 0)
	}
}

func TestStreamOfInvalid(t *testing.T) {
	fine := []byte("fine")
	for _, b := range [][]byte{nil, {}, sampleData(599), sampleData(600), sampleData(601)} {
		for _, list := range [][][]byte{{b}, {b, fine}, {fine, b}, {fine, b, fine}} {
			if got, ok := impl.StreamOf(list); ok || len(got) != 0 {
				t.Errorf("StreamOf with %d bytes = %v, %v", len(b), got, ok)
			}
		}
	}
}

// TestStreamOfLong is for streams of just as many bytes as there may be, and of more.
func TestStreamOfLong(t *testing.T) {
	// The check of 596 times 7 has no sign, so the frame has 600 bytes.
	plain := bytes.Repeat([]byte{7}, 596)
	if len(frameOf(plain)) != 600 {
		t.Fatalf("the frame has %d bytes", len(frameOf(plain)))
	}
	list := slices.Repeat([][]byte{plain}, 8)
	if got, ok := impl.StreamOf(list); !ok || len(got) != 4800 || !sameData(impl.FramesIn(got), list) {
		t.Errorf("StreamOf of 8 frames of 600 bytes has %d bytes, %v", len(got), ok)
	}
	for _, more := range [][]byte{{1}, plain} {
		if got, ok := impl.StreamOf(append(slices.Clone(list), more)); ok || len(got) != 0 {
			t.Errorf("StreamOf of more than 4800 bytes = %d bytes, %v", len(got), ok)
		}
	}
	longer := append(slices.Clone(list[:7]), append(bytes.Clone(plain), 7))
	if got, ok := impl.StreamOf(longer); ok || len(got) != 0 {
		t.Errorf("StreamOf of 4801 bytes = %d bytes, %v", len(got), ok)
	}
	if got, ok := impl.StreamOf(slices.Repeat([][]byte{{1}}, 100000)); ok || len(got) != 0 {
		t.Errorf("StreamOf of too many frames = %d bytes, %v", len(got), ok)
	}
}

func TestFramesShareNoMemory(t *testing.T) {
	checkMemory(t, "StuffBytes", 6, impl.StuffBytes)
	checkMemory(t, "UnstuffBytes", 6, func(b []byte) []byte {
		got, _ := impl.UnstuffBytes(b)
		return got
	})
	checkMemory(t, "FrameOf", 6, func(b []byte) []byte {
		got, _ := impl.FrameOf(b)
		return got
	})
	checkMemory(t, "StreamOf", 6, func(b []byte) []byte {
		got, _ := impl.StreamOf([][]byte{b[:2], b[2:6]})
		return got
	})
	checkMemory(t, "FramesIn", 6, func(b []byte) []byte {
		impl.FramesIn(b)
		impl.NoiseIn(b)
		return nil
	})
	stream := slices.Concat(frameOf([]byte("one")), frameOf([]byte("two")), frameOf([]byte("three")))
	kept := bytes.Clone(stream)
	list := impl.FramesIn(stream)
	for i := range list {
		whole := list[i][:cap(list[i])]
		for j := range whole {
			whole[j] ^= 255
		}
	}
	if !bytes.Equal(stream, kept) {
		t.Error("FramesIn shares memory with its argument")
	}
	for i := range list {
		for j := range list[i] {
			list[i][j] ^= 255
		}
	}
	if !sameData(list, [][]byte{[]byte("one"), []byte("two"), []byte("three")}) {
		t.Errorf("the data of FramesIn share memory: %q", list)
	}
}
