package mark

import (
	"slices"
	"testing"

	"demesne/api"
)

// rowsOf are all rows of so many numbers below each of ends.
func rowsOf(ends ...int) func(yield func(row []int) bool) {
	return func(yield func(row []int) bool) {
		row := make([]int, len(ends))
		for yield(row) {
			i := 0
			for ; i < len(row); i++ {
				if row[i]++; row[i] < ends[i] {
					break
				}
				row[i] = 0
			}
			if i == len(row) {
				return
			}
		}
	}
}

// P18.1, P18.2: three objects that lead to each other and to nowhere in all ways, each the owner's, another one's, or Global.
func TestAllOfThree(t *testing.T) {
	p := lay(t, 3, 0, 1)
	starts := []int{0, p.start(0), p.start(0) + 3, p.start(0) + 6}
	kinds := []uint64{head(2, 2, 2, 2), head(3, 2, 2, 2) + colourBit, head(2, 1, 2, 2) + markBit}
	words := make([]uint64, p.words())
	words[p.entry(0)] = small(1, 2)
	for row := range rowsOf(2, 3, 3, 4, 4, 4, 4, 4) {
		for i, at := range starts[1:] {
			words[at] = kinds[row[i]]
			for k := range 2 {
				if n := 3 + 2*i + k; n < len(row) {
					words[at+1+k] = uint64(starts[row[n]])
				}
			}
		}
		// The last object has one reference, and a datum that looks like one.
		words[starts[3]] -= 1 << 11
		words[starts[3]+2] = uint64(starts[2])
		for room := 1; room <= 2; room++ {
			g := given{p, 2, room, words, []int{starts[1], starts[row[4]]}}
			m, _ := g.play(t)
			g.follows(t, m)
		}
	}
}

// P18.1, P18.2: seven objects of the owner, of up to three references, in all orders of their places: what overflows, and what is found when.
func TestOrdersOfPlaces(t *testing.T) {
	p := lay(t, 1, 0, 2)
	all := []int{p.start(0), p.start(0) + 5, p.start(0) + 20, p.start(0) + 25, p.start(1), p.start(1) + 10, p.start(1) + 25}
	times := map[int]bool{}
	for row := range rowsOf(7, 7, 7, 7, 7, 7, 7) {
		if sorted := slices.Sorted(slices.Values(row)); len(slices.Compact(sorted)) < len(row) {
			continue
		}
		words := make([]uint64, p.words())
		words[p.entry(0)], words[p.entry(1)] = small(2, 0), small(2, 0)
		for i, to := range [][]int{{1, 2}, {0, 1}, {0, 3, 4}, {}, {5, 6}, {5}, {2}} {
			at := all[row[i]]
			words[at] = head(2, 0, uint64(len(to)), 4)
			for k, x := range to {
				words[at+1+k] = uint64(all[row[x]])
			}
		}
		for room := 1; room <= 4; room++ {
			g := given{p, 0, room, words, []int{all[row[0]]}}
			m, n := g.play(t)
			g.follows(t, m)
			times[n] = true
		}
	}
	if !times[0] || !times[1] || !times[2] || !times[3] {
		t.Errorf("the blocks were gone through so many times: %v", times)
	}
}

// heap is a heap that is laid into an arena, block by block.
type heap struct {
	pick   func(below int) int
	p      plan
	words  []uint64
	all    []int // where headers lie, of objects and of what is none
	owner  int   // who has most of it
	marked bool  // whether objects may be marked
}

// lays is a heap of any objects, of any owners.
func lays(t *testing.T, pick func(below int) int, marked bool) *heap {
	p := lay(t, 1+pick(4), pick(3), 1+pick(5)*pick(6))
	h := &heap{pick: pick, p: p, words: make([]uint64, p.words()), owner: pick(p.threads), marked: marked}
	for i := range h.words {
		h.words[i] = []uint64{0, head(2, pick(4), 0, 0), 1 << 40, uint64(pick(p.words()))}[pick(4)]
	}
	for block := 0; block < p.blocks; {
		block += h.block(block)
	}
	far := 1 + pick(6)*pick(20)
	for n, at := range h.all {
		for i := 1; i <= refsOf(h.words[at]); i++ {
			h.words[at+i] = 0
			// Most of them lead to what lies ahead, so that what overflows is found late.
			if to := n - pick(far); pick(6) > 0 && to >= 0 {
				h.words[at+i] = uint64(h.all[to])
			} else if pick(4) > 0 {
				h.words[at+i] = uint64(h.all[pick(len(h.all))])
			}
		}
	}
	return h
}

// block lays a block, or several, and answers how many.
func (h *heap) block(block int) int {
	p, owner, entry := h.p, h.owner, &h.words[h.p.entry(block)]
	if h.pick(4) == 0 {
		owner = h.pick(p.threads)
	}
	class, run := max(h.pick(4), h.pick(4)), 1+h.pick(min(3, p.blocks-block))
	switch h.pick(12) {
	case 0:
		*entry = 0
	case 1:
		*entry = 4 + 128*uint64(owner)
	case 2:
		*entry = 5 + 32*uint64(run) + 128*uint64(owner)
		return run
	case 3, 4:
		*entry = large(run, owner)
		for i := 1; i < run; i++ {
			h.words[p.entry(block+i)] = 3
		}
		h.cell(p.start(block), owner, 9+h.pick(32*run-9))
		return run
	default:
		*entry = small(class, owner)
		for _, at := range p.cells(block, *entry, owner) {
			words := []int{2, 3, 5, 9}[class]
			h.cell(at, owner, max(h.pick(words), h.pick(words)))
		}
	}
	return 1
}

// cell lays a header of an owner, mostly that of an object of a size.
func (h *heap) cell(at, owner, size int) {
	refs := uint64(size)
	if h.pick(2) == 0 {
		refs = uint64(h.pick(size + 1))
	}
	w := head(2, owner, refs, uint64(size))
	switch h.pick(20) {
	case 0:
		w = 32 * uint64(owner)
	case 1:
		w = 1 + 32*uint64(owner)
	case 2, 3:
		w += 1 + colourBit*uint64(h.pick(4))
	case 4:
		if h.marked {
			w |= markBit
		}
	}
	h.words[at] = w
	h.all = append(h.all, at)
}

// places are some to mark from.
func (h *heap) places() []int {
	var l []int
	for range h.pick(6) {
		l = append(l, h.all[len(h.all)-1-h.pick(1+h.pick(len(h.all)))])
		if h.pick(4) == 0 {
			l = append(l, []int{0, -1, h.p.words(), l[0]}[h.pick(4)])
		}
	}
	return l
}

// P18.1, P18.2: heaps of any objects, of several owners: all is marked that is reached, whatever room there is.
func TestHeaps(t *testing.T) {
	pick, times := some(1), map[int]int{}
	for range 5000 {
		h := lays(t, pick, false)
		if len(h.all) == 0 {
			continue
		}
		from := h.places()
		for _, room := range []int{1, 2, 3, 1 + pick(64), 64} {
			g := given{h.p, h.owner, room, h.words, from}
			m, n := g.play(t)
			g.follows(t, m)
			times[min(n, 3)]++
		}
	}
	for n := range 4 {
		if times[n] < 40 {
			t.Errorf("the blocks were gone through so many times, so often: %v", times)
		}
	}
}

// P18.2: whatever the room is, from 1 to MaxMark, the same is marked, and the same is told.
func TestRooms(t *testing.T) {
	pick, least := some(2), 0
	for range 60 {
		h := lays(t, pick, false)
		if len(h.all) == 0 {
			continue
		}
		from := h.all[len(h.all)-min(len(h.all), 1+pick(9)):]
		for room := 1; room <= api.MaxMark; room++ {
			g := given{h.p, h.owner, room, h.words, from}
			m, n := g.play(t)
			g.follows(t, m)
			if n > 0 {
				least = max(least, room)
			}
		}
	}
	if least < 5 {
		t.Errorf("no more than the room %d overflowed", least)
	}
}

// P18.1: heaps of which some objects are marked ahead: these are looked into only if something else overflows.
func TestMarkedAhead(t *testing.T) {
	pick := some(3)
	for range 1500 {
		h := lays(t, pick, true)
		if len(h.all) == 0 {
			continue
		}
		from := h.places()
		for _, room := range []int{1, 2, 1 + pick(64)} {
			given{h.p, h.owner, room, h.words, from}.play(t)
		}
	}
}

// P18.1: words that look like anything, and lead anywhere, with any entries, and memories of other lengths than the layout's.
func TestWild(t *testing.T) {
	pick := some(4)
	for range 4000 {
		p := lay(t, 1+pick(64), pick(9), 1+pick(4))
		owner := pick(p.threads)
		words := make([]uint64, pick(2*p.words()))
		for i := range words {
			size := uint64(pick(6) * pick(6))
			words[i] = []uint64{
				uint64(pick(p.words())), uint64(p.start(0) + pick(32)), head(2, owner, uint64(pick(int(size)+1)), size),
				head(2, owner, size, size), head(3, pick(64), size, size), head(2, pick(64), size, size) | markBit,
				uint64(pick(8192)), -uint64(pick(9)),
			}[pick(8)]
		}
		for block := range p.blocks {
			if at := p.entry(block); at < len(words) {
				words[at] = []uint64{words[at], small(pick(4), owner), small(pick(4), pick(64)), large(1+pick(3), owner)}[pick(4)]
			}
		}
		var from []int
		for range pick(9) {
			from = append(from, pick(p.words()+9)-4)
		}
		given{p, owner, 1 + pick(1+pick(64)), words, from}.play(t)
	}
}

// P18.1, P18.2: as many objects as there may be: chains ahead and back, and thickets, in which all rooms overflow.
func TestLong(t *testing.T) {
	p := lay(t, 1, 0, 64)
	pick := some(5)
	var cells [4][]int
	for class := range 4 {
		for block := range 64 {
			cells[class] = append(cells[class], p.cells(block, small(class, 0), 0)...)
		}
	}
	for class, to := range []func(i, k int) int{
		func(i, k int) int { return i + 1 },
		func(i, k int) int { return i - 1 + 2*k },
		func(i, k int) int { return pick(len(cells[2])) },
		func(i, k int) int { return len(cells[3]) - 1 - (8*(len(cells[3])-1-i) + k + 1) },
	} {
		words, all := make([]uint64, p.words()), cells[class]
		for block := range 64 {
			words[p.entry(block)] = small(class, 0)
		}
		for i, at := range all {
			words[at] = head(2, 0, 1<<class, 1<<class)
			for k := range 1 << class {
				words[at+1+k] = uint64(all[(to(i, k)%len(all)+len(all))%len(all)])
			}
		}
		for _, room := range []int{1, 2, 64} {
			for _, first := range []int{0, len(all) / 2, len(all) - 1} {
				g := given{p, 0, room, words, []int{all[first]}}
				m, _ := g.play(t)
				g.follows(t, m)
			}
		}
	}
}
