package sweep

import (
	"testing"

	"demesne/api"
	"demesne/list"
)

// counts is a memory that counts its touches.
type counts struct {
	plain
	reads, writes, updates int
}

func (m *counts) Read(at int) uint64 {
	m.reads++
	return m.plain.Read(at)
}

func (m *counts) Write(at int, v uint64) {
	m.writes++
	m.plain.Write(at, v)
}

func (m *counts) Update(at int, f func(v uint64) uint64) uint64 {
	m.updates++
	return m.plain.Update(at, f)
}

// one is an arena of one block, whose first cell, or whose large object, has a header that is looked at; the other cells have Global objects.
type one struct {
	p     plan
	entry uint64
	m     counts
}

// newOne is one whose block has that entry.
func newOne(t *testing.T, entry uint64) *one {
	o := &one{p: lay(t, 64, 0, 1), entry: entry}
	o.m.plain = o.p.filled(0)
	for i := 0; i < 32; i++ {
		o.m.plain[o.p.start(0)+i] = 3
	}
	return o
}

// sweeps sweeps for an owner where the header's word is w, and holds what the header is then, whether it is on the list of a class, and how often it was touched.
func (o *one) sweeps(t *testing.T, owner int, w, want uint64, class, writes int) {
	t.Helper()
	at, cells, l := o.p.start(0), 1, list.New()
	if o.entry%8 == 1 {
		cells = 32 / cellWords()[o.entry/8%4]
	}
	o.m.plain[at], o.m.plain[o.p.entry(0)] = w, o.entry
	o.m.reads, o.m.writes, o.m.updates = 0, 0, 0
	e := Sweep(&o.m, o.p.l, uint8(owner), l, true)
	var r rows
	if class >= 0 {
		r[class] = []int{at}
	}
	if e != api.OK || o.m.plain[at] != want || !rowsOf(l).alike(r) || o.m.reads != 1+cells || o.m.writes != writes || o.m.updates != 0 {
		t.Fatalf("owner %d, the entry %d, the header %d: %d, %d behind it, the list %v, %+v; want %d, %v, %d writes",
			owner, o.entry, w, e, o.m.plain[at], rowsOf(l), o.m, want, r, writes)
	}
}

// P19.1, P19.2: every Local header, of the owner and of other ones, marked and not, in a cell and at the beginning of blocks.
func TestEveryLocal(t *testing.T) {
	for owner := range 64 {
		cell, block := newOne(t, small(3, owner)), newOne(t, large(2, owner))
		for size := range uint64(96) {
			for refs := range size + 1 {
				w, other := head(2, owner, refs, size), head(2, (owner+1+int(size)%63)%64, refs, size)
				cell.sweeps(t, owner, w, listed(owner), 3, 1)
				block.sweeps(t, owner, w, free(owner), -1, 2)
				if is := block.m.plain[block.p.entry(0)]; is != spent(2, owner) {
					t.Fatalf("owner %d, %d references of %d fields: the entry %d", owner, refs, size, is)
				}
				for _, o := range []*one{cell, block} {
					o.sweeps(t, owner, w+markBit, w, -1, 1)
					o.sweeps(t, owner, other, other, -1, 0)
					o.sweeps(t, owner, other+markBit, other+markBit, -1, 0)
				}
			}
		}
	}
}

// P19.1, P19.2: what is no Local object's header: in a cell what is Free, of whatever owner, is Listed then; all else stays, and what lies at the beginning of blocks, too.
func TestEveryOther(t *testing.T) {
	for _, owner := range []int{0, 1, 31, 32, 63} {
		cell, block := newOne(t, small(1, owner)), newOne(t, large(3, owner))
		look := func(w uint64) {
			switch kindOf(w) {
			case 2:
				return
			case 0:
				cell.sweeps(t, owner, w, listed(owner), 1, 1)
			default:
				cell.sweeps(t, owner, w, w, -1, 0)
			}
			block.sweeps(t, owner, w, w, -1, 0)
		}
		for low := range uint64(32) {
			for w := range uint64(1 << 14) {
				look(low + uint64(owner)*32 + w<<11)
			}
		}
		for w := range uint64(1 << 13) {
			look(w)
		}
		for at := 25; at < 64; at++ {
			for _, w := range []uint64{free(owner), listed(owner), head(2, owner, 0, 0), head(2, owner, 0, 0) + markBit, 3, head(3, owner, 95, 95)} {
				look(w | 1<<at)
			}
		}
		look(1<<64 - 1)
	}
}

// P19.1: whatever word a block's entry is: what is done with it goes by that, and with other owners' ones nothing is.
func TestEveryEntry(t *testing.T) {
	p := lay(t, 64, 0, 4)
	for _, owner := range []int{0, 1, 62, 63} {
		words := p.filled(0)
		for i := range 64 {
			words[p.start(1)+i] = head(2, owner, 0, 0)
		}
		look := func(w uint64, walks bool) string {
			words[p.entry(1)] = w
			g := given{p: p, owner: owner, words: words, walks: walks}
			m, is := g.play(t)
			g.follows(t, m.words, is)
			// How often it was read, written and updated.
			var n [5]byte
			for _, a := range m.acts {
				n[a.kind]++
			}
			return string([]byte{n[read] + 'A', n[write] + 'A', n[update] + 'A'})
		}
		for _, x := range []struct {
			walks bool
			want  map[string]int
		}{
			// Of a Small one 16, 10, 6 or 3 headers are read, and written; then its entry, once or twice. Of a Head its header, and its entry, once or, as many as there are blocks, more.
			{true, map[string]int{"URA": 1, "OLA": 1, "KHA": 1, "HEA": 1, "FCA": 3}},
			{false, map[string]int{"USB": 1, "OMB": 1, "KIB": 1, "HFB": 1, "FDB": 1, "FEB": 1, "FFB": 1, "EBB": 2, "ECB": 1, "EDB": 1}},
		} {
			is := map[string]int{}
			for w := range uint64(1 << 13) {
				is[look(w, x.walks)]++
			}
			delete(is, "EAA")
			if len(is) != len(x.want) {
				t.Errorf("owner %d, walks %v: %v; want %v", owner, x.walks, is, x.want)
			}
			for s, n := range x.want {
				if is[s] != n {
					t.Errorf("owner %d, walks %v: %v; want %v", owner, x.walks, is, x.want)
				}
			}
			for bit := 13; bit < 64; bit++ {
				for _, w := range []uint64{0, small(0, owner), small(3, owner), large(1, owner), emptied(owner), spent(3, owner)} {
					if s := look(w|1<<bit, x.walks); s != "EAA" {
						t.Errorf("owner %d, the entry %d: %s", owner, w|1<<bit, s)
					}
				}
			}
		}
	}
}

// rowsBelow are all rows of so many numbers below an end.
func rowsBelow(end, n int) func(yield func(row []int) bool) {
	return func(yield func(row []int) bool) {
		row := make([]int, n)
		for yield(row) {
			i := 0
			for ; i < n; i++ {
				if row[i]++; row[i] < end {
					break
				}
				row[i] = 0
			}
			if i == n {
				return
			}
		}
	}
}

// P19.1, P19.2: blocks of each class with all rows of cells: the fewer cells, the more kinds of them.
func TestRowsOfCells(t *testing.T) {
	p := lay(t, 3, 0, 1)
	on := func(w uint64) bool { return w == listed(2) }
	for class, kinds := range [][]uint64{
		{head(2, 2, 0, 1), listed(2)},
		{head(2, 2, 1, 2) + markBit, free(1), listed(2)},
		{head(2, 2, 0, 0) + markBit, head(2, 2, 3, 3), free(2), head(3, 2, 1, 1), listed(2)},
		{head(2, 2, 8, 8) + markBit, head(2, 2, 0, 8), free(2), free(0), head(3, 1, 1, 1), head(2, 1, 0, 0), head(2, 1, 0, 0) + markBit, 1 << 40, listed(2), listed(1)},
	} {
		cells, words, n := p.cells(0, class), p.filled(0), 0
		words[p.entry(0)] = small(class, 2)
		for row := range rowsBelow(len(kinds), len(cells)) {
			g := given{p: p, owner: 2, words: words}
			for i, k := range row {
				words[cells[i]] = kinds[k]
				if on(kinds[k]) && (i+n)%3 > 0 {
					g.free[class] = append(g.free[class], cells[i])
				}
			}
			g.walks = n%2 == 0
			m, is := g.play(t)
			g.follows(t, m.words, is)
			n++
		}
	}
}

// kind lays a block, or several, from one on, and its cells that are Listed into rows; it answers how many blocks.
type kind func(words []uint64, block int, r *rows) int

// kind is a block of that entry, and Tails up to so many.
func (p plan) kind(n int, w uint64) kind {
	return func(words []uint64, block int, r *rows) int {
		words[p.entry(block)] = w
		for b := block + 1; b < block+n && b < p.blocks; b++ {
			words[p.entry(b)] = tail
		}
		return n
	}
}

// open is a block that is free.
func (p plan) open() kind {
	return func(words []uint64, block int, r *rows) int {
		words[0] |= 1 << block
		return p.kind(1, 0)(words, block, r)
	}
}

// run is a large object of so many blocks, with that header.
func (p plan) run(n, owner int, header uint64) kind {
	return func(words []uint64, block int, r *rows) int {
		words[p.start(block)] = header
		return p.kind(n, large(n, owner))(words, block, r)
	}
}

// small is a block of cells, with these headers by turns.
func (p plan) small(class, owner int, headers ...uint64) kind {
	return func(words []uint64, block int, r *rows) int {
		for i, at := range p.cells(block, class) {
			words[at] = headers[i%len(headers)]
			if words[at] == listed(owner) {
				r[class] = append(r[class], at)
			}
		}
		return p.kind(1, small(class, owner))(words, block, r)
	}
}

// kinds are what blocks may be like at first.
func kinds(p plan, owner, other int) []kind {
	goes, stays := head(2, owner, 1, 1), head(2, owner, 1, 1)+markBit
	return []kind{
		p.open(),
		p.kind(1, 0),
		p.kind(1, emptied(owner)),
		p.kind(1, emptied(other)),
		p.kind(1, spent(1, owner)),
		p.kind(2, spent(2, owner)),
		p.kind(3, spent(3, other)),
		p.run(1, owner, goes),
		p.run(2, owner, goes),
		p.run(2, owner, stays),
		p.run(3, owner, head(3, owner, 1, 70)),
		p.run(2, other, goes),
		p.small(3, owner, goes, listed(owner)),
		p.small(3, owner, goes, stays, listed(owner)),
		p.small(3, owner, head(3, owner, 2, 2), goes, free(owner)),
		p.small(3, other, goes, listed(other), free(other)),
		p.small(2, owner, listed(owner)),
	}
}

// P19.1, P19.2: rows of up to four blocks, of all kinds each; and such in which what belongs to a run is something else.
func TestRowsOfBlocks(t *testing.T) {
	for blocks := 1; blocks <= 4; blocks++ {
		p := lay(t, 2, 0, blocks)
		kinds := kinds(p, 1, 0)
		for row := range rowsBelow(len(kinds), blocks) {
			for _, walks := range []bool{true, false} {
				g := given{p: p, owner: 1, words: p.filled(0), walks: walks}
				whole := true
				for b := 0; b < blocks; {
					n := kinds[row[b]](g.words, b, &g.free)
					b += n
					whole = whole && b <= blocks
				}
				if m, is := g.play(t); whole {
					g.follows(t, m.words, is)
				}
				if blocks > 3 {
					continue
				}
				// Now each block is laid by itself, whatever is behind it.
				g.words, g.free = p.filled(0), rows{}
				for b := range blocks {
					kinds[row[blocks-1-b]](g.words, blocks-1-b, &g.free)
				}
				g.play(t)
			}
		}
	}
}

// P19.1, P19.2: each owner of 64, and each block of 64.
func TestOwnersAndBlocks(t *testing.T) {
	p := lay(t, 64, 0, 59)
	for owner := range 64 {
		for _, walks := range []bool{true, false} {
			g := given{p: p, owner: owner, words: p.filled(0), walks: walks}
			kinds := kinds(p, owner, (owner+1)%64)
			for b, k := 0, owner; b < p.blocks-2; k++ {
				b += kinds[k%len(kinds)](g.words, b, &g.free)
			}
			m, is := g.play(t)
			g.follows(t, m.words, is)
		}
	}
	p = lay(t, 1, 0, 64)
	for b := range 64 {
		for _, w := range []uint64{small(0, 0), small(1, 0), small(2, 0), small(3, 0), large(1, 0), large(2, 0), large(3, 0), emptied(0), spent(1, 0), spent(2, 0), spent(3, 0)} {
			g := given{p: p, words: make([]uint64, p.words())}
			for i := range 32 {
				g.words[p.start(b)+i] = head(2, 0, 0, 0)
			}
			g.words[0] = 1<<64 - 1
			for i := range blocksOf(w) {
				g.words[0] &^= 1 << (b + i)
			}
			g.words[p.entry(b)] = w
			m, is := g.play(t)
			if b+blocksOf(w) > 64 {
				continue
			}
			g.follows(t, m.words, is)
			if m.words[0] != 1<<64-1 || m.words[p.entry(b)] != 0 {
				t.Errorf("the block %d, the entry %d: the map %b, the entry %d", b, w, m.words[0], m.words[p.entry(b)])
			}
		}
	}
}

// blocksOf is how many blocks an entry tells of.
func blocksOf(w uint64) int {
	if w%8 == 1 || w%8 == 4 {
		return 1
	}
	return int(w / 32 % 4)
}
