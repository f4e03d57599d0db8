package trace

import (
	"slices"
	"testing"

	"demesne/access"
	"demesne/answer"
	"demesne/api"
	"demesne/give"
	"demesne/script"
)

// rowsOf are all rows of so many numbers below each of ends.
func rowsOf(ends ...int) func(yield func(row []int) bool) {
	return func(yield func(row []int) bool) {
		row := make([]int, len(ends))
		for yield(row) {
			i := 0
			for ; i < len(row); i++ {
				if row[i]++; row[i] < ends[i] {
					break
				}
				row[i] = 0
			}
			if i == len(row) {
				return
			}
		}
	}
}

// P21.3, P21.4: three objects that lead to each other and to nowhere in all ways, each white, grey, black or Local.
func TestAllOfThree(t *testing.T) {
	p := lay(t, 1, 0, 1)
	starts := []int{0, p.start(0), p.start(0) + 9, p.start(0) + 18}
	words, times := make([]uint64, p.words()), map[int]int{}
	words[p.entry(0)] = small(3, 1)
	for colour := range uint8(2) {
		for row := range rowsOf(4, 4, 4, 4, 4, 4, 4, 4) {
			for i, at := range starts[1:] {
				words[at] = global(row[i], colour, 2, 2)
				if row[i] == none {
					words[at] = head(2, i, 2, 2)
				}
				for k := range 2 {
					if n := 3 + 2*i + k; n < len(row) {
						words[at+1+k] = uint64(starts[row[n]])
					}
				}
			}
			// The last object has one reference, and a datum that looks like one.
			words[starts[3]] -= 1 << 11
			words[starts[3]+2] = uint64(starts[2])
			times[given{p, colour, words}.follows(t)]++
		}
	}
	if len(times) != 4 || times[3] < 100 {
		t.Errorf("so many heaps, by how many passes met something grey: %v", times)
	}
}

// P21.3, P21.4: a row of six objects, each of which leads to the next one, in all orders of their places: a pass goes on for as long as they rise.
func TestOrdersOfPlaces(t *testing.T) {
	p := lay(t, 1, 0, 3)
	all := []int{p.start(0), p.start(0) + 5, p.start(0) + 25, p.start(1), p.start(2), p.start(2) + 27}
	for row := range rowsOf(6, 6, 6, 6, 6, 6) {
		if sorted := slices.Sorted(slices.Values(row)); len(slices.Compact(sorted)) < len(row) {
			continue
		}
		words := make([]uint64, p.words())
		words[p.entry(0)], words[p.entry(1)], words[p.entry(2)] = small(2, 0), large(1, 1), small(1, 2)
		passes := 1
		for i, n := range row {
			words[all[n]] = global(white, 1, 1, 2)
			if i > 0 {
				words[all[row[i-1]]+1] = uint64(all[n])
			}
			if i > 0 && n < row[i-1] {
				passes++
			}
		}
		words[all[row[0]]] = global(grey, 1, 1, 2)
		if n := (given{p, 1, words}).follows(t); n != passes {
			t.Errorf("in the order %v: grey in %d passes; want %d", row, n, passes)
		}
	}
}

// P21.4: a row of objects that leads from the last place to the first one has something grey in as many passes as there are objects; the other way round, in one.
func TestLong(t *testing.T) {
	for class, step := range []int{2, 3, 5, 9} {
		for _, ahead := range []bool{false, true} {
			p := lay(t, 1, 0, 12)
			g := given{p, uint8(class % 2), make([]uint64, p.words())}
			for block := range 12 {
				g.words[p.entry(block)] = small(class, 0)
				for i := 0; i+step <= 32; i += step {
					g.words[p.start(block)+i] = global(white, g.colour, 1, 1)
				}
			}
			l := g.objects()
			passes := len(l)
			if ahead {
				passes = 1
			} else {
				slices.Reverse(l)
			}
			for i, at := range l[1:] {
				g.words[l[i]+1] = uint64(at)
			}
			g.words[l[0]] = global(grey, g.colour, 1, 1)
			if n := g.follows(t); n != passes {
				t.Errorf("class %d, of %d objects: grey in %d passes; want %d", class, len(l), n, passes)
			}
		}
	}
}

// P21.4: as many objects as there may be, 64 blocks of 16, from the last place to the first one.
func TestMost(t *testing.T) {
	p := lay(t, 1, 0, 64)
	m, last := make(plain, p.words()), 0
	for block := range 64 {
		m[p.entry(block)] = small(0, 0)
		for i := 0; i < 32; i += 2 {
			at := p.start(block) + i
			m[at], m[at+1] = global(white, 1, 1, 1), uint64(last)
			last = at
		}
	}
	m[last] = global(grey, 1, 1, 1)
	n := 0
	for Pass(m, p.l, 1) {
		n++
	}
	first := m[p.start(0)]
	if n != 1024 || tells(first, 1) != black || tells(m[last], 1) != black {
		t.Errorf("grey in %d passes; want 1024; the first one is %d", n, first)
	}
}

// heap is a heap that is laid into an arena, block by block.
type heap struct {
	given
	pick func(below int) int
	all  []int // where headers lie, of objects and of what is none
}

// lays is a heap of any objects, of any owners.
func lays(t *testing.T, pick func(below int) int) *heap {
	p := lay(t, 1+pick(5), pick(9), 1+pick(5)*pick(6))
	h := &heap{given{p, uint8(pick(2)), make([]uint64, p.words())}, pick, nil}
	for i := range h.words {
		h.words[i] = []uint64{0, head(3, pick(4), 0, 0) + 4*uint64(pick(4)), 1 << 40, uint64(pick(p.words()))}[pick(4)]
	}
	greys := 1 + pick(9)*pick(9)
	for block := 0; block < p.blocks; {
		block += h.block(block, greys)
	}
	for g := range p.globals {
		h.words[p.root(g)] = h.somewhere(0)
	}
	if l := h.objects(); len(l) > 0 && pick(4) > 0 {
		at := &h.words[l[len(l)-1]]
		*at = global(grey, h.colour, uint64(refsOf(*at)), *at>>18)
	}
	far := 1 + pick(4)*pick(4)
	for n, at := range h.all {
		for i := 1; i <= refsOf(h.words[at]); i++ {
			h.words[at+i] = h.somewhere(max(0, n-1-pick(far)))
		}
	}
	return h
}

// somewhere is a reference: nil, or one that leads to any header, mostly to one.
func (h *heap) somewhere(mostly int) uint64 {
	switch n := len(h.all); {
	case n == 0 || h.pick(5) == 0:
		return 0
	case h.pick(9) == 0:
		return uint64(h.all[h.pick(n)])
	}
	return uint64(h.all[mostly])
}

// block lays a block, or several, and answers how many.
func (h *heap) block(block, greys int) int {
	p, owner, entry := h.p, h.pick(h.p.threads), &h.words[h.p.entry(block)]
	class, run := h.pick(4), 1+h.pick(min(3, h.p.blocks-block))
	switch h.pick(12) {
	case 0:
		*entry = 0
	case 1:
		*entry = 4 + 128*uint64(owner)
	case 2:
		*entry = 5 + 32*uint64(run) + 128*uint64(owner)
		return run
	case 3, 4:
		*entry = large(run, owner)
		for i := 1; i < run; i++ {
			h.words[p.entry(block+i)] = 3
		}
		h.cell(p.start(block), owner, 9+h.pick(32*run-9), greys)
		return run
	default:
		*entry = small(class, owner)
		for _, at := range p.cells(block, *entry) {
			h.cell(at, owner, h.pick([]int{2, 3, 5, 9}[class]), greys)
		}
	}
	return 1
}

// cell lays a header of an owner, mostly that of a white object of a size; of so many one is grey.
func (h *heap) cell(at, owner, size, greys int) {
	refs := uint64(max(h.pick(size+1), h.pick(size+1)))
	w := head(3, owner, refs, uint64(size)) + colourBit*uint64(1-h.colour)
	switch h.pick(24) {
	case 0:
		w = 32 * uint64(owner)
	case 1:
		w = 1 + 32*uint64(owner)
	case 2, 3:
		w = head(2, owner, refs, uint64(size)) + markBit*uint64(h.pick(2))
	case 4:
		w |= greyBit
	case 5, 6:
		w ^= colourBit
	default:
		if h.pick(greys) == 0 {
			w = w ^ colourBit | greyBit
		}
	}
	h.words[at] = w
	h.all = append(h.all, at)
}

// P21.1 to P21.4: heaps of any objects, of several owners: global roots first, then passes.
func TestHeaps(t *testing.T) {
	pick, times := some(1), map[int]int{}
	for range 4000 {
		h := lays(t, pick)
		h.play(t, walks)
		times[min(h.follows(t), 5)]++
		m, _ := h.play(t, rooting)
		given{h.p, h.colour, m.words}.follows(t)
		given{h.p, 1 - h.colour, m.words}.play(t, passing)
	}
	for n := range 6 {
		if times[n] < 40 {
			t.Errorf("so many heaps, by how many passes met something grey: %v", times)
		}
	}
}

// P21.1 to P21.3: words that look like anything, and lead anywhere, with any entries, and memories of other lengths than the layout's.
func TestWild(t *testing.T) {
	pick := some(2)
	for range 4000 {
		p := lay(t, 1+pick(64), pick(9), 1+pick(4))
		words := make([]uint64, pick(2*p.words()))
		for i := range words {
			size := uint64(pick(6) * pick(6))
			words[i] = []uint64{
				uint64(pick(p.words())), uint64(p.start(0) + pick(32)), head(3, pick(64), uint64(pick(int(size)+1)), size) + 4*uint64(pick(4)),
				head(3, pick(64), size, size) + 4*uint64(pick(8)), global(grey, uint8(pick(2)), size, size), head(2, pick(64), size, size),
				uint64(pick(8192)), -uint64(pick(9)),
			}[pick(8)]
		}
		for block := range p.blocks {
			if at := p.entry(block); at < len(words) {
				words[at] = []uint64{words[at], small(pick(4), pick(64)), small(pick(4), pick(64)), large(1+pick(3), pick(64))}[pick(4)]
			}
		}
		for which := walks; which <= passing; which++ {
			given{p, uint8(pick(3)), words}.play(t, which)
		}
	}
}

// anyOperation is what a thread of three slots may be told to do.
func anyOperation(pick func(below int) int, globals int) script.Op {
	do := []uint8{
		script.Alloc, script.Alloc, script.Alloc, script.Load, script.Store, script.Store, script.Store,
		script.Get, script.Put, script.Put, script.Move, script.Clear, script.Push, script.Pop,
	}[pick(14)]
	op := script.Op{Do: do, A: uint8(pick(3)), B: uint8(pick(3)), C: uint8(pick(3))}
	switch do {
	case script.Alloc:
		op.C = []uint8{1, 2, 3, 5, 8, 20, 40, 70}[pick(8)]
		op.B = uint8(min(int(op.C), pick(6)))
	case script.Get:
		op.B = uint8(pick(globals))
	case script.Put:
		op.A = uint8(pick(globals))
	}
	return op
}

// P21.2 to P21.4: threads that made what they have, and have answered that they look into their own: behind the global roots, and passes, just what is shared and reached is black, and all other shared objects are white.
func TestThreads(t *testing.T) {
	pick := some(3)
	var blacks, whites int
	for round := range 2000 {
		p := lay(t, 1+pick(4), 1+pick(4), 2+pick(12))
		g := given{p, uint8(round % 2), make([]uint64, p.words())}
		m := plain(g.words)
		give.Begin(m, p.l)
		m.Write(2, answer.Ask(1, answer.AskSnap))
		threads := make([]*access.Thread, p.threads)
		for id := range threads {
			threads[id], _ = access.New(m, p.l, uint8(id), 3)
			threads[id].Colour = 1 - g.colour
		}
		for range 40 + pick(200) {
			threads[pick(p.threads)].Do(anyOperation(pick, p.globals))
		}
		var from []int
		for _, th := range threads {
			if e := answer.Answer(th, 1+pick(3)); e != api.OK || th.Colour != g.colour {
				t.Fatalf("an answer: %d, then of the colour %d", e, th.Colour)
			}
			from = append(from, th.Roots.All()...)
		}
		for i := range p.globals {
			from = append(from, int(m.Read(p.root(i))))
		}
		Roots(m, p.l, g.colour)
		for Pass(m, p.l, g.colour) {
		}
		is := g.reached(from)
		for _, at := range g.objects() {
			switch tell := tells(m[at], g.colour); {
			case kindOf(m[at]) == 3 && is[at] && tell == black:
				blacks++
			case kindOf(m[at]) == 3 && !is[at] && tell == white:
				whites++
			case kindOf(m[at]) != 2 || !is[at]:
				t.Fatalf("at %d is %d, reached: %v, colour %d, of %v", at, m[at], is[at], g.colour, m)
			}
		}
	}
	if blacks < 2000 || whites < 2000 {
		t.Errorf("%d black objects, and %d white ones", blacks, whites)
	}
}

// reached are the places that these lead to, by any objects.
func (g given) reached(from []int) map[int]bool {
	found := map[int]bool{}
	for len(from) > 0 {
		at := from[0]
		from = from[1:]
		if at == 0 || found[at] {
			continue
		}
		found[at] = true
		for i := range refsOf(g.words[at]) {
			from = append(from, int(g.words[at+1+i]))
		}
	}
	return found
}
