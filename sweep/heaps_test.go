package sweep

import (
	"slices"
	"testing"

	"demesne/alloc"
	"demesne/api"
	"demesne/give"
	"demesne/list"
	"demesne/mark"
)

// heap is a heap that is laid into an arena, block by block, with a list of each owner.
type heap struct {
	pick  func(below int) int
	p     plan
	words []uint64
	free  []rows
	marks int // of so many objects one is marked; 0: none is
}

// lays is a heap of any objects, of any owners, most of all of one.
func lays(t *testing.T, pick func(below int) int) *heap {
	p := lay(t, 1+pick(5), pick(3), 1+pick(6)*pick(6))
	h := &heap{pick: pick, p: p, words: p.filled(0), free: make([]rows, p.threads), marks: pick(5)}
	most := pick(p.threads)
	for block := 0; block < p.blocks; {
		owner := most
		if pick(3) == 0 {
			owner = pick(p.threads)
		}
		block += h.block(block, owner)
	}
	for owner := range h.free {
		for class, row := range h.free[owner] {
			for i := range row {
				k := pick(i + 1)
				row[i], row[k] = row[k], row[i]
			}
			h.free[owner][class] = row
		}
	}
	return h
}

// block lays a block of an owner, or several, and answers how many.
func (h *heap) block(block, owner int) int {
	p, entry := h.p, &h.words[h.p.entry(block)]
	run := 1 + h.pick(min(3, p.blocks-block))
	tails := func() int {
		for i := 1; i < run; i++ {
			h.words[p.entry(block+i)] = tail
		}
		return run
	}
	switch h.pick(12) {
	case 0:
		*entry = 0
		h.words[0] |= 1 << block
	case 1:
		*entry = 0
	case 2:
		*entry = emptied(owner)
	case 3:
		*entry = spent(run, owner)
		return tails()
	case 4, 5, 6:
		*entry = large(run, owner)
		h.words[p.start(block)] = h.header(owner, 9+h.pick(32*run-9))
		return tails()
	default:
		h.small(block, owner, h.pick(4))
	}
	return 1
}

// small lays a block of cells: of one of three no cell has an object that stays.
func (h *heap) small(block, owner, class int) {
	h.words[h.p.entry(block)] = small(class, owner)
	gone := h.pick(3) == 0
	for _, at := range h.p.cells(block, class) {
		for i := 1; i < cellWords()[class]; i++ {
			h.words[at+i] = []uint64{0, uint64(at), head(2, owner, 0, 0), h.words[at+i]}[h.pick(4)]
		}
		w := h.header(owner, h.pick(cellWords()[class]))
		if k := h.pick(3); k > 0 {
			w = listed(owner)
			if h.pick(4) > 0 {
				h.free[owner][class] = append(h.free[owner][class], at)
			}
		} else if gone && (kindOf(w) == 3 || w&markBit != 0) {
			w = free(owner)
		}
		h.words[at] = w
	}
}

// header is one of an owner: mostly that of a Local object of a size.
func (h *heap) header(owner, size int) uint64 {
	refs := uint64(h.pick(size + 1))
	w := head(2, owner, refs, uint64(size))
	switch k := h.pick(6); {
	case k == 0:
		return free(owner)
	case k == 1:
		return w + 1 + colourBit*uint64(h.pick(4))
	case h.marks > 0 && h.pick(h.marks) == 0:
		return w + markBit
	}
	return w
}

// P19.1, P19.2: heaps of any objects, of several owners, of whom each sweeps: also one behind the other.
func TestHeaps(t *testing.T) {
	pick, all := some(1), map[string]int{}
	for range 4000 {
		h := lays(t, pick)
		words := h.words
		for owner := range h.p.threads {
			g := given{p: h.p, owner: owner, words: h.words, free: h.free[owner], walks: pick(2) == 0}
			if !lists(h.p, owner, g.words, g.free) {
				t.Fatal("it is not laid as it should be")
			}
			m, is := g.play(t)
			g.follows(t, m.words, is)
			// What others swept ahead does not matter.
			g.words = words
			m, is = g.play(t)
			g.follows(t, m.words, is)
			words = m.words
			for _, a := range m.acts {
				all["rwu+-"[a.kind:a.kind+1]]++
			}
		}
	}
	for _, s := range []string{"r", "w", "u", "+", "-"} {
		if all[s] < 1000 {
			t.Errorf("so often each was done: %v", all)
		}
	}
}

// P19.1: words that look like anything, with any entries, and lists of any places, in memories of other lengths than the layout's.
func TestWild(t *testing.T) {
	pick := some(2)
	for range 6000 {
		p := lay(t, 1+pick(64), pick(9), 1+pick(5))
		owner := pick(p.threads)
		words := make([]uint64, pick(2*p.words()))
		headers := []uint64{free(owner), listed(owner), head(2, owner, 1, 1), head(2, owner, 0, 95) + markBit}
		for i := range words {
			words[i] = headers[pick(1+pick(4))]
			if pick(12) == 0 {
				size := uint64(pick(100))
				words[i] = []uint64{
					uint64(pick(8192)), uint64(pick(p.words())), -uint64(pick(9)), head(3, pick(64), size, size),
					head(2, pick(64), size, size) + uint64(pick(2)*markBit), listed(pick(64)), free(pick(64)), 1 << pick(64),
				}[pick(8)]
			}
		}
		for block := range p.blocks {
			if at := p.entry(block); at < len(words) {
				words[at] = []uint64{
					uint64(pick(8192)), small(pick(4), owner), small(pick(4), owner), small(pick(4), pick(64)), large(1+pick(3), owner),
					spent(1+pick(3), owner), emptied(owner), emptied(pick(64)),
				}[pick(8)]
			}
		}
		var r rows
		for class := range r {
			for range pick(20) {
				if at := 1 + pick(p.words()+20); !r.has(at) {
					r[class] = append(r[class], at)
				}
			}
		}
		given{p: p, owner: owner, words: words, free: r, walks: pick(2) == 0}.play(t)
	}
}

// P19.1: where others write between the touches, each one goes by what is there then.
func TestOthersWrite(t *testing.T) {
	pick := some(3)
	for range 3000 {
		h := lays(t, pick)
		owner, seed, rare := pick(h.p.threads), uint64(pick(1<<30)), 1+pick(20)
		g := given{p: h.p, owner: owner, words: h.words, free: h.free[owner], walks: pick(2) == 0}
		g.others = func(n int, words []uint64) {
			// What is written hangs on how many touches there were alone, so that the model finds the same.
			if pick := some(seed + uint64(n)*977); pick(rare) == 0 {
				at := h.p.entry(pick(h.p.blocks))
				if pick(2) == 0 {
					at = h.p.start(pick(h.p.blocks)) + pick(32)
				}
				words[at] = []uint64{
					small(pick(4), owner), small(pick(4), pick(9)), large(1+pick(3), owner), emptied(owner), spent(1+pick(3), owner),
					listed(owner), free(owner), head(2, owner, 0, 0), head(2, owner, 0, 1) + markBit, head(3, pick(9), 0, 0), 1 << 40, 0,
				}[pick(12)]
				words[0] ^= 1 << pick(64)
			}
		}
		g.play(t)
	}
}

// P19.2: an owner makes objects, marks and sweeps, over and over: just those are left that it has, as they were, and what is gone is made into others.
func TestMakeMarkSweep(t *testing.T) {
	pick := some(4)
	for range 150 {
		p := lay(t, 2, 0, 1+pick(20))
		m, free := make(plain, p.words()), list.New()
		give.Begin(m, p.l)
		owner, live := uint8(pick(2)), map[int][]uint64{}
		k := alloc.Maker{M: m, L: p.l, Owner: owner, Free: free}
		for range 12 {
			for range pick(60) {
				size := pick(9 + pick(2)*pick(87))
				at, e := k.Make(0, size)
				if e != api.OK {
					continue
				}
				if live[at] != nil {
					t.Fatalf("two objects at %d", at)
				}
				for i := range size {
					m[at+1+i] = 1<<50 + uint64(pick(1<<30))
				}
				live[at] = slices.Clone(m[at : at+1+size])
			}
			// Some are kept: none, a third, or two thirds of them.
			var has []int
			least := pick(3)
			for at := range m {
				if live[at] != nil && pick(3) < least {
					has = append(has, at)
				}
			}
			if e := (mark.Marker{M: m, L: p.l, Owner: owner, Room: 1}).Mark(has); e != api.OK {
				t.Fatal(e)
			}
			for at := range live {
				if !slices.Contains(has, at) {
					delete(live, at)
				}
			}
			g := given{p: p, owner: int(owner), words: slices.Clone(m), free: rowsOf(free), walks: pick(3) == 0}
			if e := Sweep(m, p.l, owner, free, g.walks); e != api.OK {
				t.Fatal(e)
			}
			g.follows(t, m, rowsOf(free))
			g.only(t, m, live)
		}
	}
}

// only holds that in an owner's blocks just those objects are that it has, as they were.
func (g given) only(t *testing.T, words []uint64, live map[int][]uint64) {
	t.Helper()
	left := len(live)
	for block := range g.p.blocks {
		cells := []int{}
		for class := range 4 {
			if words[g.p.entry(block)] == small(class, g.owner) {
				cells = g.p.cells(block, class)
			}
		}
		if words[g.p.entry(block)]%8 == 2 {
			cells = []int{g.p.start(block)}
		}
		for _, at := range cells {
			if kindOf(words[at]) < 2 {
				continue
			}
			if o := live[at]; o == nil || !slices.Equal(words[at:at+len(o)], o) {
				t.Fatalf("of %v, at %d: %v", live, at, words[at:])
			}
			left--
		}
	}
	if left != 0 {
		t.Fatalf("%d of %v are not there", left, live)
	}
}
