package answer

import (
	"slices"
	"testing"

	"demesne/access"
	"demesne/api"
)

// heap is a heap that is laid into an arena, block by block, with a list of each owner.
type heap struct {
	pick  func(below int) int
	p     plan
	words []uint64
	free  []rows
	most  int   // who has most of it
	all   []int // where headers lie, of objects and of what is none
}

// lays is a heap of any objects, of any owners, of which none is marked.
func lays(t *testing.T, pick func(below int) int) *heap {
	p := lay(t, 1+pick(5), pick(3), 1+pick(5)*pick(6))
	h := &heap{pick: pick, p: p, words: make([]uint64, p.words()), free: make([]rows, p.threads), most: pick(p.threads)}
	for i := range h.words {
		h.words[i] = []uint64{0, head(2, pick(4), 0, 0), 1 << 40, uint64(pick(p.words()))}[pick(4)]
	}
	h.words[0], h.words[1], h.words[2] = 0, uint64(pick(8)), uint64(8*pick(1000)+3)
	for block := 0; block < p.blocks; {
		block += h.block(block)
	}
	far := 1 + pick(6)*pick(20)
	for n, at := range h.all {
		for i := 1; i <= refsOf(h.words[at]); i++ {
			h.words[at+i] = 0
			// Most of them lead to what lies ahead, so that what overflows is found late.
			if to := n - pick(far); pick(6) > 0 && to >= 0 {
				h.words[at+i] = uint64(h.all[to])
			} else if pick(4) > 0 {
				h.words[at+i] = uint64(h.all[pick(len(h.all))])
			}
		}
	}
	return h
}

// block lays a block, or several, and answers how many.
func (h *heap) block(block int) int {
	p, owner, entry := h.p, h.most, &h.words[h.p.entry(block)]
	if h.pick(3) == 0 {
		owner = h.pick(p.threads)
	}
	class, run := max(h.pick(4), h.pick(4)), 1+h.pick(min(3, p.blocks-block))
	tails := func() int {
		for i := 1; i < run; i++ {
			h.words[p.entry(block+i)] = tail
		}
		return run
	}
	switch h.pick(12) {
	case 0:
		*entry = 0
		h.words[0] |= 1 << block
	case 1:
		*entry = emptied(owner)
	case 2:
		*entry = spent(run, owner)
		return tails()
	case 3, 4:
		*entry = large(run, owner)
		h.cell(p.start(block), owner, 9+h.pick(32*run-9))
		return tails()
	default:
		*entry = small(class, owner)
		least := h.pick(8) * h.pick(3)
		for _, at := range p.cells(block, *entry) {
			h.cell(at, owner, h.pick(cellWords()[class]))
			if h.pick(16) < least {
				h.words[at] = listed(owner)
			}
			if h.words[at] == listed(owner) && h.pick(4) > 0 {
				h.free[owner][class] = append(h.free[owner][class], at)
			}
		}
	}
	return 1
}

// cell lays a header of an owner, mostly that of a Local object of a size.
func (h *heap) cell(at, owner, size int) {
	refs := uint64(size)
	if h.pick(2) == 0 {
		refs = uint64(h.pick(size + 1))
	}
	w := head(2, owner, refs, uint64(size))
	switch h.pick(12) {
	case 0:
		w = free(owner)
	case 1:
		w = listed(owner)
	case 2, 3, 4:
		w += 1 + colourBit*uint64(h.pick(4))
	}
	h.words[at] = w
	h.all = append(h.all, at)
}

// thread is one with roots that lead anywhere, mostly to objects.
func (h *heap) thread(id int) given {
	pick := h.pick
	root := func() int {
		if len(h.all) == 0 || pick(5) == 0 {
			return []int{0, h.p.words()}[pick(2)]
		}
		return h.all[len(h.all)-1-pick(1+pick(len(h.all)))]
	}
	g := given{
		p: h.p, id: id, words: h.words, free: h.free[id], room: 1 + pick(1+pick(api.MaxMark)),
		status: uint8(pick(3)), colour: uint8(pick(2)), flag: pick(4) == 0,
	}
	for range 1 + pick(api.MaxSlots) {
		g.slots = append(g.slots, root())
	}
	for range pick(2) * pick(api.MaxStack+1) {
		g.stack = append(g.stack, root())
	}
	return g
}

// P20.2, P20.3: heaps of any objects, of several threads, of whom each collects, and answers, one behind the other: just what its roots reach is left, and nothing that they lead to is white.
func TestHeaps(t *testing.T) {
	pick, all := some(1), map[string]int{}
	for range 2000 {
		h := lays(t, pick)
		for id := range h.p.threads {
			g := h.thread(id)
			for range 2 {
				answers := pick(2) == 0
				m, th := g.play(t, answers)
				g.follows(t, m, th, answers)
				for _, a := range m.acts {
					if !h.p.mine(m.words, id, a) && !h.p.mine(g.words, id, a) {
						t.Fatalf("thread %d, of %v: at %d %d was written as %d", id, g.words, a.at, a.was, a.is)
					}
					all["rwu."[a.kind:a.kind+1]]++
				}
				if th.Flag && !g.flag {
					all["up"]++
				}
				// What it answered, or took back, others find; and so does it.
				g.words, g.free, g.status, g.colour, g.flag = m.words, rowsOf(th.Free), th.Status, th.Colour, th.Flag
				h.words = g.words
			}
		}
	}
	for _, s := range []string{"r", "w", "u", ".", "up"} {
		if all[s] < 1000 {
			t.Errorf("so often each was done: %v", all)
		}
	}
}

// P20.3: whatever the room is, from 1 to MaxMark, the same is left.
func TestRooms(t *testing.T) {
	pick, least := some(2), 0
	for range 60 {
		h := lays(t, pick)
		g := h.thread(h.most)
		for _, answers := range []bool{true, false} {
			g.room = api.MaxMark
			whole, end := g.play(t, answers)
			for room := range api.MaxMark {
				g.room = 1 + room
				m, th := g.play(t, answers)
				g.follows(t, m, th, answers)
				if !slices.Equal(m.words, whole.words) || stateOf(th) != stateOf(end) {
					t.Fatalf("room %d: left %v, %v; want %v, %v", g.room, m.words, stateOf(th), whole.words, stateOf(end))
				}
				if len(m.acts) != len(whole.acts) {
					least = max(least, g.room)
				}
			}
		}
	}
	if least < 3 {
		t.Errorf("no more than the room %d overflowed", least)
	}
}

// P20.2: words that look like anything, with any entries, requests and phases, in memories of other lengths than the layout's.
func TestWild(t *testing.T) {
	pick := some(3)
	for range 4000 {
		p := lay(t, 1+pick(64), pick(9), 1+pick(4))
		g := given{p: p, id: pick(p.threads), room: 1 + pick(64), status: uint8(pick(4)), colour: uint8(pick(2)), flag: pick(2) == 0}
		g.words = make([]uint64, pick(2*p.words()))
		for i := range g.words {
			size := uint64(pick(6) * pick(6))
			g.words[i] = []uint64{
				uint64(pick(p.words())), uint64(p.start(0) + pick(32)), head(2, g.id, uint64(pick(int(size)+1)), size),
				head(2, g.id, size, size) + uint64(pick(2)*markBit), head(3, pick(64), size, size) + colourBit*uint64(pick(4)),
				listed(pick(64)), free(pick(64)), uint64(pick(8192)), -uint64(pick(9)),
			}[pick(9)]
		}
		for block := range p.blocks {
			if at := p.entry(block); at < len(g.words) {
				g.words[at] = []uint64{g.words[at], small(pick(4), g.id), small(pick(4), pick(64)), large(1+pick(3), g.id), spent(1+pick(3), g.id), emptied(g.id)}[pick(6)]
			}
		}
		for range 1 + pick(api.MaxSlots) {
			g.slots = append(g.slots, pick(p.words()+9))
		}
		for class := range g.free {
			for range pick(9) {
				if at := 1 + pick(p.words()+20); !g.free.has(at) {
					g.free[class] = append(g.free[class], at)
				}
			}
		}
		g.play(t, pick(4) > 0)
	}
}

// P20.2: where others write between the touches, each one goes by what is there then: also by another phase, or another request.
func TestOthersWrite(t *testing.T) {
	pick := some(4)
	for range 3000 {
		h := lays(t, pick)
		g := h.thread(pick(h.p.threads))
		seed, rare := uint64(pick(1<<30)), 1+pick(20)
		g.others = func(n int, words plain) {
			// What is written hangs on how many touches there were alone, so that the model finds the same.
			if pick := some(seed + uint64(n)*977); pick(rare) == 0 {
				at := []int{1, 2, h.p.answer(g.id), h.p.entry(pick(h.p.blocks)), h.p.start(pick(h.p.blocks)) + pick(32)}[pick(5)]
				words[at] = []uint64{
					uint64(pick(64)), small(pick(4), g.id), large(1+pick(3), g.id), emptied(g.id), listed(g.id), free(g.id), head(2, g.id, 0, 0),
					head(3, pick(9), 0, 0) + colourBit*uint64(pick(4)), uint64(pick(h.p.words())), 0,
				}[pick(10)]
				words[0] ^= 1 << pick(64)
			}
		}
		g.play(t, pick(3) > 0)
	}
}

// P20.2: by hand: what the phase, or the request, is later does not matter; nor does what was in the answer's word.
func TestReadOnce(t *testing.T) {
	x := byHand(t, 1, []int{0}, nil, 0, map[int]uint64{10: local(0, 0), 4: 1 << 50})
	for phase := range uint64(7) {
		for later := range uint64(7) {
			g := x.in(access.Run, 0, false, phase, 43)
			g.others = func(n int, words plain) {
				if n > 0 {
					words[1], words[2] = later, 8*later+4
				}
			}
			m, _ := g.play(t, false)
			if w := m.words[8]; (w == emptied(handID)) != (phase > 2) {
				t.Errorf("phases %d, %d: the entry %d", phase, later, w)
			}
			if m, th := g.play(t, true); m.words[4] != 10 || m.words[8] != 0 || th.Colour != 1 {
				t.Errorf("phases %d, %d: the answer %d, the entry %d", phase, later, m.words[4], m.words[8])
			}
		}
	}
}
