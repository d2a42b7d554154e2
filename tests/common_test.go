package tests

import (
	"bytes"
	"math"
	"slices"
	"testing"
)

// strangeNumbers are numbers that are out of the range of most arguments.
var strangeNumbers = []int{math.MinInt, -256, -128, -16, -2, -1, 128, 129, 255, 256, 1 << 32, math.MaxInt}

// sampleData returns so many bytes that have no short period.
func sampleData(many int) []byte {
	b := make([]byte, many)
	for i := range b {
		b[i] = byte(i*i*7 + i*31 + i>>3)
	}
	return b
}

// mixedNumbers returns so many numbers from 0 on, below another one, that have no
// short period.
func mixedNumbers(many, below, seed int) []int {
	list := make([]int, many)
	for i := range list {
		seed = (seed*1103515245 + 12345) % (1 << 31)
		list[i] = (seed >> 16) % below
	}
	return list
}

// checkMemory gives a function so many bytes with others behind them, turns its
// result up to its capacity, and looks whether any of the bytes has changed.
func checkMemory(t *testing.T, name string, many int, call func(b []byte) []byte) {
	t.Helper()
	whole := make([]byte, 2*many+8)
	for i := range whole {
		whole[i] = byte(i + 1)
	}
	before := slices.Clone(whole)
	got := call(whole[:many])
	if !bytes.Equal(whole, before) {
		t.Errorf("%s changes its argument, or what lies behind it", name)
		copy(whole, before)
	}
	got = got[:cap(got)]
	for i := range got {
		got[i] ^= 255
	}
	if !bytes.Equal(whole, before) {
		t.Errorf("%s shares memory with its argument", name)
	}
}

// checkApart turns results up to their capacity, one after the other, and looks
// whether an argument, what lies behind it, or another result changes. before is
// what the whole memory of the argument was ahead of the call.
func checkApart(t *testing.T, name string, whole, before []int, results ...[]int) {
	t.Helper()
	if !slices.Equal(whole, before) {
		t.Errorf("%s changes its argument, or what lies behind it: %v, want %v", name, whole, before)
		copy(whole, before)
	}
	for i, result := range results {
		others := make([][]int, len(results))
		for j := range results {
			others[j] = slices.Clone(results[j])
		}
		all := result[:cap(result)]
		for j := range all {
			all[j] = -9
		}
		if !slices.Equal(whole, before) {
			t.Errorf("%s shares memory of its result %d with its argument", name, i)
			copy(whole, before)
		}
		for j := range results {
			if j != i && !slices.Equal(results[j], others[j]) {
				t.Errorf("%s shares memory of its results %d and %d", name, i, j)
			}
		}
	}
}
