package bitmap

import (
	"math"
	"slices"
	"testing"

	"demesne/api"
)

// model is a map as the chapter tells it: of each block, whether it is free.
type model [api.MaxBlocks]bool

// read takes a map apart by sums and halves, so that it leans on none of the layer's calls.
func read(w uint64) model {
	var m model
	for i := range m {
		m[i] = w%2 == 1
		w /= 2
	}
	return m
}

// word is the map of a model: 2^i for each block i that is free.
func (m model) word() uint64 {
	w, value := uint64(0), uint64(1)
	for _, free := range m {
		if free {
			w += value
		}
		value *= 2
	}
	return w
}

// may tells whether there is such a run.
func may(at, run int) bool {
	return run >= 1 && run <= 3 && at >= 0 && at < 64 && at+run <= 64
}

// same tells whether all blocks of a run are free, or all of them taken.
func (m model) same(at, run int, free bool) bool {
	for i := range run {
		if m[at+i] != free {
			return false
		}
	}
	return true
}

// swap makes all blocks of a run free, or taken, if all of them are the other.
func (m model) swap(at, run int, free bool) (model, bool) {
	if !may(at, run) || !m.same(at, run, !free) {
		return m, false
	}
	for i := range run {
		m[at+i] = free
	}
	return m, true
}

// find is Find as the chapter's text tells it.
func (m model) find(run int) (int, bool) {
	for at := range m {
		if may(at, run) && m.same(at, run, true) {
			return at, true
		}
	}
	return 0, false
}

// count is how many blocks of a model are free.
func (m model) count() int {
	n := 0
	for _, free := range m {
		if free {
			n++
		}
	}
	return n
}

// wild are numbers far outside: below, above, such as an int of half the bits
// would take for small ones, and such as go round when a run is added.
func wild() []int {
	return []int{math.MinInt, math.MinInt + 1, math.MinInt + 63, math.MinInt32, -1 << 32, -1<<32 + 1, -256, -255, -128, -65, -64, -63, -32,
		128, 129, 192, 255, 256, 257, 320, 1 << 16, 1 << 32, 1<<32 + 1, 1<<32 + 2, 1<<32 + 63, math.MaxInt32, math.MaxInt32 + 1,
		math.MaxInt - 63, math.MaxInt - 3, math.MaxInt - 2, math.MaxInt - 1, math.MaxInt}
}

// places are all blocks, some beside them at both ends, and the wild ones.
func places() []int {
	out := wild()
	for at := -6; at <= 2*api.MaxBlocks+1; at++ {
		out = append(out, at)
	}
	return out
}

// runs are all runs that may be, some beside them, and the wild ones.
func runs() []int {
	out := wild()
	for run := -6; run <= api.MaxBlocks+2; run++ {
		out = append(out, run)
	}
	return out
}

// maps are the empty one and the full one, each single block, each row of up
// to four blocks and the same without it, patterns, and some without a rule.
func maps() []uint64 {
	out := []uint64{0, math.MaxUint64, 0xB6, 0x5555555555555555, 0xAAAAAAAAAAAAAAAA, 0x3333333333333333, 0xCCCCCCCCCCCCCCCC,
		0x6DB6DB6DB6DB6DB6, 0x7777777777777777, 0xEEEEEEEEEEEEEEEE, 0xFFFFFFFF, 0xFFFFFFFF00000000, 0x8000000000000001, 0xC000000000000003, 0xE000000000000007}
	for row := range 4 {
		for at := range api.MaxBlocks - row {
			var m model
			for i := range row + 1 {
				m[at+i] = true
			}
			out = append(out, m.word(), math.MaxUint64-m.word())
		}
	}
	next := uint64(4)
	for range 100 {
		next = next*6364136223846793005 + 1442695040888963407
		x := next ^ next>>29
		next = next*6364136223846793005 + 1442695040888963407
		y := next ^ next>>31
		out = append(out, x, x&y, x|y)
	}
	return out
}

// holdsFind tells of a fault in what Find answers.
func holdsFind(t *testing.T, w uint64, run, want int, ok bool) {
	t.Helper()
	if at, is := Find(w, run); at != want || is != ok {
		t.Fatalf("Find(%#x, %d) = %d, %t; want %d, %t", w, run, at, is, want, ok)
	}
}

// holdsTake tells of a fault in what Take answers.
func holdsTake(t *testing.T, w uint64, at, run int, want uint64, ok bool) {
	t.Helper()
	if got, is := Take(w, at, run); got != want || is != ok {
		t.Fatalf("Take(%#x, %d, %d) = %#x, %t; want %#x, %t", w, at, run, got, is, want, ok)
	}
}

// holdsGive tells of a fault in what Give answers.
func holdsGive(t *testing.T, w uint64, at, run int, want uint64, ok bool) {
	t.Helper()
	if got, is := Give(w, at, run); got != want || is != ok {
		t.Fatalf("Give(%#x, %d, %d) = %#x, %t; want %#x, %t", w, at, run, got, is, want, ok)
	}
}

// P4.1: by hand, the map of no block, of one, of some, of all but one, and of all.
func TestAll(t *testing.T) {
	for blocks, want := range map[int]uint64{0: 0, 1: 1, 2: 3, 3: 7, 8: 255, 31: 1<<31 - 1, 32: 1<<32 - 1, 33: 1<<33 - 1,
		62: 1<<62 - 1, 63: 1<<63 - 1, 64: 1<<64 - 1} {
		if w := All(blocks); w != want {
			t.Errorf("All(%d) = %#x; want %#x", blocks, w, want)
		}
	}
}

// P4.1: whatever the number of blocks, those below it are free, and no other ones.
func TestAllOfAnyNumber(t *testing.T) {
	for _, blocks := range places() {
		var m model
		for i := range m {
			m[i] = i < blocks
		}
		if w := All(blocks); w != m.word() {
			t.Errorf("All(%d) = %#x; want %#x", blocks, w, m.word())
		}
	}
}

// P4.1: below 0 it is as of 0, above MaxBlocks as of MaxBlocks.
func TestAllBeyond(t *testing.T) {
	for _, blocks := range []int{-1, -2, -63, -64, -65, -1 << 32, -1<<32 + 1, math.MinInt + 1, math.MinInt} {
		if w := All(blocks); w != 0 {
			t.Errorf("All(%d) = %#x; want 0", blocks, w)
		}
	}
	for _, blocks := range []int{65, 66, 127, 128, 256, 257, 1 << 32, 1<<32 + 1, math.MaxInt - 1, math.MaxInt} {
		if w := All(blocks); w != math.MaxUint64 {
			t.Errorf("All(%d) = %#x; want all ones", blocks, w)
		}
	}
}

// P4.1: by hand, which blocks are free in the chapter's map, and how many.
func TestHasCount(t *testing.T) {
	for at, want := range [10]bool{false, true, true, false, true, true, false, true, false, false} {
		if Has(0xB6, at) != want {
			t.Errorf("Has(0xB6, %d) = %t", at, !want)
		}
	}
	if Has(1<<63, 62) || !Has(1<<63, 63) || !Has(1, 0) || Has(1, 1) {
		t.Errorf("the first block, or the last one, is not told from those beside it")
	}
	for w, want := range map[uint64]int{0: 0, 1: 1, 1 << 63: 1, 3: 2, 0xB6: 5, 1<<63 + 1: 2, 1<<63 - 1: 63, 1<<64 - 1: 64} {
		if n := Count(w); n != want {
			t.Errorf("Count(%#x) = %d; want %d", w, n, want)
		}
	}
}

// P4.1: of any map each block, and their number, is told as its bits are; outside there is none that is free.
func TestHasCountOfAnyMap(t *testing.T) {
	for _, w := range maps() {
		m := read(w)
		for _, at := range places() {
			want := at >= 0 && at < api.MaxBlocks && m[at]
			if Has(w, at) != want {
				t.Fatalf("Has(%#x, %d) = %t", w, at, !want)
			}
		}
		if n := Count(w); n != m.count() {
			t.Fatalf("Count(%#x) = %d; want %d", w, n, m.count())
		}
	}
}

// P4.1: of the map of so many blocks, as many are free.
func TestCountOfAll(t *testing.T) {
	for _, blocks := range places() {
		want := max(0, min(blocks, 64))
		if n := Count(All(blocks)); n != want {
			t.Errorf("Count(All(%d)) = %d; want %d", blocks, n, want)
		}
	}
}

// P4.2: the chapter's example, and others by hand: the first block and the last one, runs of 1 and of MaxRun.
func TestFind(t *testing.T) {
	for _, g := range []struct {
		w       uint64
		run, at int
		ok      bool
	}{
		{0xB6, 1, 1, true}, {0xB6, 2, 1, true}, {0xB6, 3, 0, false},
		{math.MaxUint64, 1, 0, true}, {math.MaxUint64, 2, 0, true}, {math.MaxUint64, 3, 0, true},
		{0, 1, 0, false}, {0, 2, 0, false}, {0, 3, 0, false},
		{1, 1, 0, true}, {1, 2, 0, false}, {3, 2, 0, true}, {3, 3, 0, false}, {7, 3, 0, true},
		{0xEE, 3, 1, true}, {0xD8, 3, 0, false}, {0x1DB, 3, 6, true}, {5, 2, 0, false}, {0x1A, 2, 3, true},
		{1 << 63, 1, 63, true}, {1 << 63, 2, 0, false}, {1 << 63, 3, 0, false},
		{3 << 62, 1, 62, true}, {3 << 62, 2, 62, true}, {3 << 62, 3, 0, false},
		{7 << 61, 1, 61, true}, {7 << 61, 2, 61, true}, {7 << 61, 3, 61, true}, {15 << 60, 3, 60, true},
		// The last block and the first ones are not side by side.
		{1<<63 + 1, 2, 0, false}, {1<<63 + 3, 3, 0, false}, {3<<62 + 1, 3, 0, false},
	} {
		holdsFind(t, g.w, g.run, g.at, g.ok)
	}
}

// P4.2: of any map, the least block at which a run that may be is free, or none.
func TestFindInAnyMap(t *testing.T) {
	for _, w := range maps() {
		m := read(w)
		for run := 1; run <= api.MaxRun; run++ {
			at, ok := m.find(run)
			holdsFind(t, w, run, at, ok)
		}
	}
}

// P4.2: a run that lies alone is found wherever it lies, and one of one block less is not enough.
func TestFindAlone(t *testing.T) {
	for run := 1; run <= api.MaxRun; run++ {
		for at := range api.MaxBlocks - run + 1 {
			var m model
			for i := range run {
				m[at+i] = true
			}
			holdsFind(t, m.word(), run, at, true)
			if run < api.MaxRun {
				holdsFind(t, m.word(), run+1, 0, false)
			}
		}
	}
}

// P4.2: there is no run of 0, of a number below it, or of more than MaxRun, free as all may be.
func TestFindNoSuchRun(t *testing.T) {
	for _, run := range runs() {
		if run >= 1 && run <= 3 {
			continue
		}
		for _, w := range []uint64{0, 1, 0xB6, 0xFF, 1 << 63, 0xF << 60, math.MaxUint64} {
			holdsFind(t, w, run, 0, false)
		}
	}
}

// P4.3: by hand, runs that can be taken, and given: the first block, the last one, runs of 1 and of MaxRun.
func TestTakeGive(t *testing.T) {
	const full = math.MaxUint64
	for _, g := range []struct {
		with    uint64
		at, run int
		without uint64
	}{
		{1, 0, 1, 0}, {3, 0, 2, 0}, {7, 0, 3, 0}, {2, 1, 1, 0}, {0xB6, 1, 2, 0xB0}, {0xB6, 2, 1, 0xB2}, {0xB6, 7, 1, 0x36},
		{1 << 63, 63, 1, 0}, {3 << 62, 62, 2, 0}, {7 << 61, 61, 3, 0}, {7 << 61, 61, 1, 6 << 61}, {7 << 61, 62, 2, 1 << 61},
		{full, 0, 1, full - 1}, {full, 0, 3, full - 7}, {full, 31, 3, full - 7<<31}, {full, 61, 3, full - 7<<61}, {full, 63, 1, full - 1<<63},
	} {
		holdsTake(t, g.with, g.at, g.run, g.without, true)
		holdsGive(t, g.without, g.at, g.run, g.with, true)
	}
}

// P4.3: by hand, a run of which a block is taken is not taken again, nor is one given of which a block is free.
func TestTakeGiveTwice(t *testing.T) {
	for _, g := range []struct {
		w       uint64
		at, run int
	}{
		{0, 0, 1}, {0, 63, 1}, {0, 0, 3}, {0, 61, 3}, {6, 0, 3}, {5, 0, 3}, {3, 0, 3}, {0xB6, 1, 3}, {0xB6, 3, 1}, {0xB6, 0, 2},
		{3 << 62, 61, 3}, {5 << 61, 61, 3}, {6 << 60, 61, 3}, {math.MaxUint64 - 1, 0, 1}, {math.MaxUint64 - 1<<63, 62, 2},
	} {
		holdsTake(t, g.w, g.at, g.run, g.w, false)
		holdsGive(t, math.MaxUint64-g.w, g.at, g.run, math.MaxUint64-g.w, false)
	}
}

// P4.3: whatever the map and the place, runs that may be are taken and given as the text tells.
func TestTakeGiveInAnyMap(t *testing.T) {
	for _, w := range maps() {
		m := read(w)
		for _, at := range places() {
			for run := -1; run <= api.MaxRun+2; run++ {
				taken, ok := m.swap(at, run, false)
				holdsTake(t, w, at, run, taken.word(), ok)
				given, ok := m.swap(at, run, true)
				holdsGive(t, w, at, run, given.word(), ok)
			}
		}
	}
}

// P4.3: runs that may not be, or go beyond MaxBlocks, or begin below 0, leave the map as it is, be all free or all taken.
func TestTakeGiveNoSuchRun(t *testing.T) {
	for _, at := range places() {
		for _, run := range runs() {
			if may(at, run) {
				continue
			}
			for _, w := range []uint64{0, 0xB6, 1 << 63, math.MaxUint64} {
				holdsTake(t, w, at, run, w, false)
				holdsGive(t, w, at, run, w, false)
			}
		}
	}
	for _, g := range []struct{ at, run int }{
		{-1, 1}, {-1, 2}, {-2, 3}, {64, 1}, {63, 2}, {63, 3}, {62, 3}, {0, 0}, {63, 0}, {64, 0}, {0, -1}, {3, -2}, {0, 4}, {60, 4}, {0, 64},
	} {
		for _, w := range []uint64{0, 1, 1<<63 + 1, math.MaxUint64} {
			holdsTake(t, w, g.at, g.run, w, false)
			holdsGive(t, w, g.at, g.run, w, false)
		}
	}
}

// P4.4: what is found can be taken; taken, it is not there any more, and given back it is the same map.
func TestFoundTakenGivenBack(t *testing.T) {
	for _, w := range maps() {
		for run := 1; run <= api.MaxRun; run++ {
			at, ok := Find(w, run)
			if !ok {
				continue
			}
			taken, ok := Take(w, at, run)
			if !ok || Count(taken) != Count(w)-run {
				t.Fatalf("Take(%#x, %d, %d) = %#x, %t, though it was found", w, at, run, taken, ok)
			}
			for i := range run {
				if !Has(w, at+i) || Has(taken, at+i) {
					t.Fatalf("block %d: Has %t in %#x, %t in %#x", at+i, Has(w, at+i), w, Has(taken, at+i), taken)
				}
			}
			holdsTake(t, taken, at, run, taken, false)
			holdsGive(t, taken, at, run, w, true)
			holdsGive(t, w, at, run, w, false)
		}
	}
}

// claim is a run that was taken.
type claim struct{ at, run int }

// takeAll takes runs of all lengths in turn out of a map, each one found first, until no block is free.
func takeAll(t *testing.T, w uint64, first int) []claim {
	t.Helper()
	var claims []claim
	left := w
	for turn := range api.MaxRun * (api.MaxBlocks + 1) {
		run := (first+turn)%api.MaxRun + 1
		at, ok := Find(left, run)
		if !ok {
			continue
		}
		if left, ok = Take(left, at, run); !ok {
			t.Fatalf("Take(%#x, %d, %d) is refused, though it was found", left, at, run)
		}
		claims = append(claims, claim{at, run})
	}
	if left != 0 {
		t.Fatalf("of %#x there is left %#x, in which nothing is found", w, left)
	}
	return claims
}

// P4.4: runs that are taken one behind the other share no block, and are all blocks of the map.
func TestTakenOneBehindTheOther(t *testing.T) {
	for n, w := range maps() {
		var owner [api.MaxBlocks]int
		for i, c := range takeAll(t, w, n) {
			for block := c.at; block < c.at+c.run; block++ {
				if owner[block] != 0 {
					t.Fatalf("of %#x: block %d is in the runs %d and %d", w, block, owner[block], i+1)
				}
				owner[block] = i + 1
			}
		}
		for block, free := range read(w) {
			if free != (owner[block] != 0) {
				t.Fatalf("of %#x: block %d is free: %t, but its run is %d", w, block, free, owner[block])
			}
		}
	}
}

// P4.4: given back in the order in which they were taken, or in the other one, they make the same map.
func TestAllGivenBack(t *testing.T) {
	for n, w := range maps() {
		claims := takeAll(t, w, n)
		for range 2 {
			left := uint64(0)
			for _, c := range claims {
				var ok bool
				if left, ok = Give(left, c.at, c.run); !ok {
					t.Fatalf("Give(%#x, %d, %d) is refused, though it was taken", left, c.at, c.run)
				}
			}
			if left != w {
				t.Fatalf("all given back it is %#x; want %#x", left, w)
			}
			slices.Reverse(claims)
		}
	}
}
