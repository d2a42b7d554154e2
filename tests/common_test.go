package tests

import (
	"bytes"
	"math"
	"slices"
	"testing"
)

// strangeNumbers are numbers that are out of the range of most arguments.
var strangeNumbers = []int{math.MinInt, -256, -128, -16, -2, -1, 128, 129, 255, 256, 1 << 32, math.MaxInt}

// sampleData returns so many bytes that have no short period.
func sampleData(many int) []byte {
	b := make([]byte, many)
	for i := range b {
		b[i] = byte(i*i*7 + i*31 + i>>3)
	}
	return b
}

// checkMemory gives a function so many bytes with others behind them, turns its
// result up to its capacity, and looks whether any of the bytes has changed.
func checkMemory(t *testing.T, name string, many int, call func(b []byte) []byte) {
	t.Helper()
	whole := make([]byte, 2*many+8)
	for i := range whole {
		whole[i] = byte(i + 1)
	}
	before := slices.Clone(whole)
	got := call(whole[:many])
	if !bytes.Equal(whole, before) {
		t.Errorf("%s changes its argument, or what lies behind it", name)
		copy(whole, before)
	}
	got = got[:cap(got)]
	for i := range got {
		got[i] ^= 255
	}
	if !bytes.Equal(whole, before) {
		t.Errorf("%s shares memory with its argument", name)
	}
}
