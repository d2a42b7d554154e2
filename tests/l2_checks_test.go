package tests

import (
	"bytes"
	"go/ast"
	"go/parser"
	"go/token"
	"math"
	"testing"

	"loop.example/wholenet/impl"
)

// strangeWords are numbers that do not have 16 bits.
var strangeWords = []int{math.MinInt, -1 << 32, -65536, -65535, -2, -1, 65536, 65537, 131070, 1 << 32, 1<<32 + 1, math.MaxInt}

// edgeWords are numbers of 16 bits at which sums and checks turn.
var edgeWords = []int{0, 1, 2, 127, 128, 255, 256, 257, 4129, 32767, 32768, 32769, 57840, 61406, 65279, 65280, 65533, 65534, 65535}

// stepByTurns goes over a byte as the document tells it.
func stepByTurns(crc int, b int) int {
	crc ^= b * 256
	for range 8 {
		if crc >= 32768 {
			crc = (crc-32768)*2 ^ 4129
		} else {
			crc *= 2
		}
	}
	return crc
}

// checkByTurns returns the check of bytes.
func checkByTurns(b []byte) int {
	crc := 65535
	for _, x := range b {
		crc = stepByTurns(crc, int(x))
	}
	return crc
}

// addRound adds one number after the other, and takes away 65535 behind each.
func addRound(words ...int) int {
	sum := 0
	for _, w := range words {
		sum += w
		for sum > 65535 {
			sum -= 65535
		}
	}
	return sum
}

// wordsOf returns the words of bytes.
func wordsOf(b []byte) []int {
	var words []int
	for i := 0; i < len(b); i += 2 {
		low := 0
		if i+1 < len(b) {
			low = int(b[i+1])
		}
		words = append(words, 256*int(b[i])+low)
	}
	return words
}

// withCheck returns data with its check behind, as the test reckons it.
func withCheck(b []byte) []byte {
	crc := checkByTurns(b)
	return append(bytes.Clone(b), byte(crc/256), byte(crc%256))
}

func TestCheckConstants(t *testing.T) {
	if impl.CrcPoly != 4129 || impl.CrcStart != 65535 {
		t.Errorf("CrcPoly = %d, CrcStart = %d", impl.CrcPoly, impl.CrcStart)
	}
}

// readsRows reports whether a function reads crcRows: it names it elsewhere than
// where it assigns.
func readsRows(f *ast.FuncDecl) bool {
	reads := 0
	ast.Inspect(f, func(n ast.Node) bool {
		if id, ok := n.(*ast.Ident); ok && id.Name == "crcRows" {
			reads++
		}
		if set, ok := n.(*ast.AssignStmt); ok {
			for _, to := range set.Lhs {
				ast.Inspect(to, func(n ast.Node) bool {
					if id, ok := n.(*ast.Ident); ok && id.Name == "crcRows" {
						reads--
					}
					return true
				})
			}
		}
		return true
	})
	return reads > 0
}

// TestCrcRowsStay looks in the text of the chapter for the table that is built
// once, and for an exported function that reads it.
func TestCrcRowsStay(t *testing.T) {
	file, err := parser.ParseFile(token.NewFileSet(), "../impl/l2_checks.go", nil, 0)
	if err != nil {
		t.Fatal(err)
	}
	built, read := false, false
	for _, d := range file.Decls {
		switch x := d.(type) {
		case *ast.FuncDecl:
			read = read || x.Name.IsExported() && readsRows(x)
		case *ast.GenDecl:
			for _, s := range x.Specs {
				v, ok := s.(*ast.ValueSpec)
				if ok && x.Tok == token.VAR && v.Names[0].Name == "crcRows" && len(v.Values) == 1 {
					_, built = v.Values[0].(*ast.CallExpr)
				}
			}
		}
	}
	if !built || !read {
		t.Errorf("crcRows is built once: %v, and read by an exported function: %v", built, read)
	}
}

func TestCrcStep(t *testing.T) {
	if got := impl.CrcStep(65535, 0); got != 57840 {
		t.Errorf("CrcStep(65535, 0) = %d", got)
	}
	for crc := range 65536 {
		for _, b := range []int{0, 1, 90, 128, 255} {
			if got, want := impl.CrcStep(crc, byte(b)), stepByTurns(crc, b); got != want {
				t.Fatalf("CrcStep(%d, %d) = %d, want %d", crc, b, got, want)
			}
		}
	}
	for _, crc := range edgeWords {
		for b := range 256 {
			if got, want := impl.CrcStep(crc, byte(b)), stepByTurns(crc, b); got != want {
				t.Fatalf("CrcStep(%d, %d) = %d, want %d", crc, b, got, want)
			}
		}
	}
}

func TestCrcStepInvalid(t *testing.T) {
	for _, crc := range strangeWords {
		for b := range 256 {
			if got := impl.CrcStep(crc, byte(b)); got != -1 {
				t.Fatalf("CrcStep(%d, %d) = %d", crc, b, got)
			}
		}
	}
}

func TestCrcOf(t *testing.T) {
	if got := impl.CrcOf([]byte("123456789")); got != 10673 {
		t.Errorf("CrcOf(123456789) = %d", got)
	}
	if impl.CrcOf(nil) != 65535 || impl.CrcOf([]byte{}) != 65535 {
		t.Error("CrcOf of nothing is not 65535")
	}
	for x := range 256 {
		if got, want := impl.CrcOf([]byte{byte(x)}), stepByTurns(65535, x); got != want {
			t.Errorf("CrcOf(%d) = %d, want %d", x, got, want)
		}
	}
	for many := range impl.MaxData + 1 {
		b := sampleData(many)
		if got, want := impl.CrcOf(b), checkByTurns(b); got != want {
			t.Fatalf("CrcOf of %d bytes = %d, want %d", many, got, want)
		}
	}
	for _, many := range []int{601, 602, 1200} {
		if got := impl.CrcOf(make([]byte, many)); got != -1 {
			t.Errorf("CrcOf of %d bytes = %d", many, got)
		}
	}
}

func TestAddCrc(t *testing.T) {
	if got, ok := impl.AddCrc([]byte("123456789")); !ok || string(got) != "123456789\x29\xb1" {
		t.Errorf("AddCrc(123456789) = %q, %v", got, ok)
	}
	if got, ok := impl.AddCrc(nil); !ok || !bytes.Equal(got, []byte{255, 255}) {
		t.Errorf("AddCrc(nil) = %v, %v", got, ok)
	}
	for many := range impl.MaxData - 1 {
		b := sampleData(many)
		if got, ok := impl.AddCrc(b); !ok || !bytes.Equal(got, withCheck(b)) {
			t.Fatalf("AddCrc of %d bytes = %v, %v", many, got, ok)
		}
	}
	for _, many := range []int{599, 600, 601, 602, 1200} {
		if got, ok := impl.AddCrc(make([]byte, many)); ok || len(got) != 0 {
			t.Errorf("AddCrc of %d bytes = %v, %v", many, got, ok)
		}
	}
}

func TestCutCrc(t *testing.T) {
	for many := range impl.MaxData - 1 {
		b := sampleData(many)
		if got, ok := impl.CutCrc(withCheck(b)); !ok || !bytes.Equal(got, b) {
			t.Fatalf("CutCrc of %d bytes with their check = %v, %v", many, got, ok)
		}
	}
	if got, ok := impl.CutCrc([]byte{255, 255}); !ok || len(got) != 0 {
		t.Errorf("CutCrc of the check of nothing = %v, %v", got, ok)
	}
}

func TestCutCrcInvalid(t *testing.T) {
	bad := [][]byte{nil, {}, {0}, {255}, {0, 0}, {255, 254}, []byte("hi"), withCheck(sampleData(599)), withCheck(sampleData(600))}
	turned := withCheck([]byte("123456789"))
	turned[9], turned[10] = turned[10], turned[9]
	for _, b := range append(bad, turned) {
		if got, ok := impl.CutCrc(b); ok || len(got) != 0 {
			t.Errorf("CutCrc of %d bytes = %v, %v", len(b), got, ok)
		}
	}
}

// TestOneCheckIsRight is promise 2 for the check: of all numbers of 16 bits behind data, its check alone is right.
func TestOneCheckIsRight(t *testing.T) {
	for _, b := range [][]byte{nil, {0}, {126, 125}, []byte("123456789")} {
		want := checkByTurns(b)
		for crc := range 65536 {
			got, ok := impl.CutCrc(append(bytes.Clone(b), byte(crc>>8), byte(crc)))
			if ok != (crc == want) || ok && !bytes.Equal(got, b) || !ok && len(got) != 0 {
				t.Fatalf("CutCrc of %v and the check %d = %v, %v", b, crc, got, ok)
			}
		}
	}
}

// TestWrongBitsAreSeen is promise 2 for one and for two wrong bits, wherever they are.
func TestWrongBitsAreSeen(t *testing.T) {
	wrong := func(b []byte, at ...int) {
		for _, i := range at {
			b[i/8] ^= 128 >> (i % 8)
		}
		if got, ok := impl.CutCrc(b); ok || len(got) != 0 {
			t.Fatalf("CutCrc of %d bytes with the wrong bits %v = %v, %v", len(b), at, got, ok)
		}
		for _, i := range at {
			b[i/8] ^= 128 >> (i % 8)
		}
	}
	long := withCheck(sampleData(598))
	for i := range 8 * len(long) {
		wrong(long, i)
	}
	short := withCheck(sampleData(30))
	for i := range 8 * len(short) {
		for j := range i {
			wrong(short, i, j)
		}
	}
}

// TestRowsOfWrongBitsAreSeen is promise 2 for all rows of at most 16 bits of which some are wrong, the first one among them.
func TestRowsOfWrongBitsAreSeen(t *testing.T) {
	right := withCheck([]byte{0, 77, 255})
	b := make([]byte, len(right)+2)
	for at := range 8 * len(right) {
		for row := 32768; row < 65536; row++ {
			bits := row << 8 >> (at % 8)
			copy(b, right)
			b[at/8] ^= byte(bits >> 16)
			b[at/8+1] ^= byte(bits >> 8)
			b[at/8+2] ^= byte(bits)
			if bytes.Equal(b[:len(right)], right) {
				t.Fatalf("the row %016b at %d turns nothing", row, at)
			}
			if got, ok := impl.CutCrc(b[:len(right)]); ok || len(got) != 0 {
				t.Fatalf("CutCrc with the row %016b at %d = %v, %v", row, at, got, ok)
			}
			b[len(right)], b[len(right)+1] = 0, 0
		}
	}
}

func TestSumOf(t *testing.T) {
	cases := []struct {
		b    []byte
		want int
	}{
		{nil, 65535},
		{[]byte{}, 65535},
		{[]byte{0}, 65535},
		{[]byte{0, 0, 0}, 65535},
		{[]byte{1}, 65535 - 256},
		{[]byte{255}, 255},
		{[]byte{1, 2, 3}, 65535 - 1026},
		{[]byte{1, 2, 3, 0}, 65535 - 1026},
		{[]byte{0, 1, 255}, 254},
		{[]byte{255, 255}, 0},
		{[]byte{255, 255, 0}, 0},
		{[]byte{255, 255, 0, 1}, 65534},
		{[]byte{255, 255, 255, 255}, 0},
		{[]byte{255, 254, 0, 1}, 0},
		{[]byte{255, 255, 1}, 65535 - 256},
		{bytes.Repeat([]byte{255}, 600), 0},
		{bytes.Repeat([]byte{255}, 599), 255},
		{bytes.Repeat([]byte{255, 254}, 300), 300},
		{make([]byte, 600), 65535},
	}
	for _, c := range cases {
		if got := impl.SumOf(c.b); got != c.want {
			t.Errorf("SumOf(%v) = %d, want %d", c.b, got, c.want)
		}
	}
	for many := range impl.MaxData + 1 {
		b := sampleData(many)
		if got, want := impl.SumOf(b), 65535-addRound(wordsOf(b)...); got != want {
			t.Fatalf("SumOf of %d bytes = %d, want %d", many, got, want)
		}
	}
	for _, many := range []int{601, 602, 1200} {
		if got := impl.SumOf(make([]byte, many)); got != -1 {
			t.Errorf("SumOf of %d bytes = %d", many, got)
		}
	}
}

// TestSumOfWords holds the words, alone and by two, against the sums of the document.
func TestSumOfWords(t *testing.T) {
	for w := range 65536 {
		if got := impl.SumOf([]byte{byte(w >> 8), byte(w)}); got != 65535-w {
			t.Fatalf("SumOf of the word %d = %d", w, got)
		}
	}
	for _, v := range edgeWords {
		for _, w := range edgeWords {
			if got := impl.SumOf([]byte{byte(v >> 8), byte(v), byte(w >> 8), byte(w)}); got != 65535-addRound(v, w) {
				t.Errorf("SumOf of the words %d and %d = %d", v, w, got)
			}
		}
	}
}

func TestSumTurned(t *testing.T) {
	for _, sum := range edgeWords {
		for _, old := range edgeWords {
			for _, new := range edgeWords {
				want := 65535 - addRound(65535-sum, 65535-old, new)
				if got := impl.SumTurned(sum, old, new); got != want {
					t.Errorf("SumTurned(%d, %d, %d) = %d, want %d", sum, old, new, got, want)
				}
			}
		}
	}
	if got := impl.SumTurned(65535, 65535, 0); got != 65535 {
		t.Errorf("SumTurned of no sum at all = %d", got)
	}
}

// TestSumTurnedIsTheNewSum is for each word of data: the sum that is turned is that of the turned data.
func TestSumTurnedIsTheNewSum(t *testing.T) {
	for _, many := range []int{3, 4, 9, 600} {
		b := sampleData(many)
		b[many-1] |= 1 // so that some word is not 0, whatever the others become
		sum := impl.SumOf(b)
		for i := 0; i+1 < many-1; i += 2 {
			old := 256*int(b[i]) + int(b[i+1])
			for _, new := range edgeWords {
				c := bytes.Clone(b)
				c[i], c[i+1] = byte(new>>8), byte(new)
				if got, want := impl.SumTurned(sum, old, new), impl.SumOf(c); got != want {
					t.Fatalf("SumTurned(%d, %d, %d) = %d, want %d", sum, old, new, got, want)
				}
			}
		}
	}
	// Data that is 0 in all words has the sum 65535, but what is added round for it here is 65535, not 0.
	if got := impl.SumTurned(impl.SumOf([]byte{1, 2}), 258, 0); got != 0 {
		t.Errorf("SumTurned of the only word to 0 = %d", got)
	}
}

func TestSumTurnedInvalid(t *testing.T) {
	for _, bad := range strangeWords {
		for _, fine := range []int{0, 258, 65535} {
			for _, c := range [][3]int{{bad, fine, fine}, {fine, bad, fine}, {fine, fine, bad}, {bad, bad, fine}, {bad, bad, bad}} {
				if got := impl.SumTurned(c[0], c[1], c[2]); got != -1 {
					t.Errorf("SumTurned(%d, %d, %d) = %d", c[0], c[1], c[2], got)
				}
			}
		}
	}
}

func TestSumRight(t *testing.T) {
	for _, b := range [][]byte{{255, 255}, {255, 255, 0}, {254, 255, 1}, {0, 1, 255, 254}, bytes.Repeat([]byte{255}, 600)} {
		if !impl.SumRight(b) {
			t.Errorf("SumRight(%v) is false", b)
		}
	}
	for _, b := range [][]byte{nil, {}, {0}, {255}, {0, 0}, {0, 1}, {255, 254}, {255, 255, 1}, {255, 255, 0, 1}, make([]byte, 600), bytes.Repeat([]byte{255}, 599)} {
		if impl.SumRight(b) {
			t.Errorf("SumRight(%v) is true", b)
		}
	}
	for _, many := range []int{601, 602, 1200} {
		if b := bytes.Repeat([]byte{255, 255}, many)[:many]; impl.SumRight(b) || impl.SumRight(make([]byte, many)) {
			t.Errorf("SumRight of %d bytes is true", many)
		}
	}
}

// TestOneSumIsRight is promise 2 for sums: what has its sum behind is right, and with any bit wrong it is not.
func TestOneSumIsRight(t *testing.T) {
	for _, many := range []int{2, 4, 30, 598} {
		b := sampleData(many)
		sum := impl.SumOf(b)
		b = append(b, byte(sum>>8), byte(sum))
		if !impl.SumRight(b) {
			t.Errorf("SumRight of %d bytes with their sum is false", many)
		}
		for i := range 8 * len(b) {
			b[i/8] ^= 128 >> (i % 8)
			if impl.SumRight(b) {
				t.Fatalf("SumRight of %d bytes with the wrong bit %d is true", many, i)
			}
			b[i/8] ^= 128 >> (i % 8)
		}
	}
}

func TestChecksShareNoMemory(t *testing.T) {
	checkMemory(t, "AddCrc", 6, func(b []byte) []byte {
		got, _ := impl.AddCrc(b)
		return got
	})
	checkMemory(t, "another function", 6, func(b []byte) []byte {
		impl.CrcOf(b)
		impl.CutCrc(b)
		impl.SumOf(b)
		impl.SumRight(b)
		return nil
	})
	b := append(withCheck([]byte("hi")), 9, 9, 9, 9)
	kept := bytes.Clone(b)
	got, ok := impl.CutCrc(b[:4])
	if !ok || string(got) != "hi" {
		t.Fatalf("CutCrc = %q, %v", got, ok)
	}
	got = got[:cap(got)]
	for i := range got {
		got[i] ^= 255
	}
	if !bytes.Equal(b, kept) {
		t.Error("CutCrc shares memory with its argument")
	}
}
