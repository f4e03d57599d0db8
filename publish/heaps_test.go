package publish

import (
	"slices"
	"testing"
)

// rowsOf are all rows of so many numbers below each of ends.
func rowsOf(ends ...int) func(yield func(row []int) bool) {
	return func(yield func(row []int) bool) {
		row := make([]int, len(ends))
		for yield(row) {
			i := 0
			for ; i < len(row); i++ {
				if row[i]++; row[i] < ends[i] {
					break
				}
				row[i] = 0
			}
			if i == len(row) {
				return
			}
		}
	}
}

// P16.1, P16.2: three objects that lead to each other and to nowhere in all ways, each Local, Global or no object.
func TestAllOfThree(t *testing.T) {
	starts, kinds := []int{0, 1, 4, 7}, []uint64{2, 3 + 4, 1 << 40}
	// The last object has one reference, and a datum that looks like one.
	words := make(plain, 10)
	for row := range rowsOf(3, 3, 3, 4, 4, 4, 4, 4) {
		for i, at := range starts[1:] {
			words[at] = kinds[row[i]] + 2<<11 + 2<<18
			for k := range 2 {
				if n := 3 + 2*i + k; n < len(row) {
					words[at+1+k] = uint64(starts[row[n]])
				}
			}
		}
		words[7] -= 1 << 11
		words[9] = 4
		colour := uint8(row[3] & 1)
		play(t, words, 1, colour)
		follows(t, words, 1, colour)
	}
}

// P16.1, P16.2: four objects of one or two references, all of them Local: who is looked into when.
func TestAllOfFour(t *testing.T) {
	starts := []int{0, 1, 4, 6, 8}
	for row := range rowsOf(5, 5, 5, 5, 5) {
		words := plain{0, head(2, 2, 2), 0, 0, head(2, 1, 1), 0, head(2, 1, 1), 0, head(2, 1, 1), 0}
		for i, at := range []int{2, 3, 5, 7, 9} {
			words[at] = uint64(starts[row[i]])
		}
		for _, at := range starts[1:] {
			play(t, words, at, uint8(row[0]&1))
			follows(t, words, at, uint8(row[0]&1))
		}
	}
}

// heap lays objects of any kinds and sizes one behind the other, with references to any of them, and to nowhere; also to what is no object, where it may be. It answers where their headers lie.
func heap(pick func(below int) int, words plain, wild bool) []int {
	var starts []int
	for at := 1 + pick(3); at < len(words); at += 1 + int(words[at]>>18) {
		size := min(pick(6)*pick(6)*pick(5), 95, len(words)-1-at)
		kind := []uint64{2, 2, 2, 18, 3, 7, 11, 15}[pick(8)]
		words[at] = kind + head(0, uint64(pick(size+1)), uint64(size)) + 32*uint64(pick(64))
		starts = append(starts, at)
	}
	for _, at := range starts {
		for i := 1; i <= int(words[at]>>18); i++ {
			words[at+i] = uint64(starts[pick(len(starts))])
			if pick(4) == 0 {
				words[at+i] = 0
			}
			if wild && pick(3) == 0 {
				words[at+i] = []uint64{uint64(pick(len(words) + 9)), 1<<64 - 3, 2, 18, head(2, 1, 1), 32, 1}[pick(7)]
			}
		}
	}
	return starts
}

// P16.1, P16.2: heaps of any objects.
func TestHeaps(t *testing.T) {
	pick := some(1)
	for range 400 {
		words := make(plain, 2+pick(300))
		starts := append(heap(pick, words, false), 0)
		at := starts[pick(len(starts))]
		for colour := range uint8(2) {
			play(t, words, at, colour)
			follows(t, words, at, colour)
		}
	}
}

// P16.1: heaps in which references lead anywhere, also to fields, and whose fields look like headers; also with places on the worklist.
func TestWildHeaps(t *testing.T) {
	pick := some(2)
	for range 3000 {
		words := make(plain, 2+pick(200))
		starts := heap(pick, words, true)
		at := pick(len(words)+9) - 4
		if pick(2) == 0 && len(starts) > 0 {
			at = starts[pick(len(starts))]
		}
		var work []int
		for range pick(3) * pick(3) {
			work = append(work, pick(len(words)+9)-4)
		}
		play(t, words, at, 0)
		play(t, words, at, 1, work...)
	}
}

// P16.2: what was published stays as it is when it is published once more, in whatever colour; and what is Local by then becomes Global, too.
func TestOneBehindTheOther(t *testing.T) {
	pick := some(3)
	for range 300 {
		words := make(plain, 40+pick(100))
		starts := heap(pick, words, false)
		var work []int
		for range 8 {
			at, colour := starts[pick(len(starts))], uint8(pick(2))
			want := slices.Clone(words)
			for x := range hangs(words, at) {
				want[x] = published(want[x], colour)
			}
			if Publish(words, at, colour, &work); !slices.Equal(words, want) || len(work) != 0 {
				t.Fatalf("at %d in %d: %v, the worklist %v; want %v", at, colour, words, work, want)
			}
		}
	}
}
