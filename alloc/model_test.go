package alloc

import (
	"math"
	"slices"
	"testing"

	"demesne/api"
)

// model makes objects as the chapter says, by the numbers of words alone.
type model struct {
	m     api.Mem
	p     plan
	owner uint64
	walks bool
	free  rows
	hold  func(at int)
}

// make makes an object whose size and references may be.
func (o *model) make(refs, size int) (int, api.Errno) {
	c, run, block, at := classOf(size), (size+32)/32, -1, -1
	if c >= 0 {
		at = o.cell(c)
	} else if block = o.run(run); block >= 0 {
		at = o.p.start(block)
	}
	if at < 0 {
		return 0, api.ErrMem
	}
	o.hold(at)
	for i := range size {
		o.m.Write(at+1+i, 0)
	}
	if c < 0 {
		for b := block + 1; b < block+run; b++ {
			o.m.Write(o.p.entry(b), 3)
		}
	}
	o.m.Write(at, 2+32*o.owner+2048*uint64(refs)+262144*uint64(size))
	if c < 0 {
		o.m.Write(o.p.entry(block), 2+32*uint64(run)+128*o.owner)
	}
	return at, api.OK
}

// cell takes a cell of a class, or answers -1.
func (o *model) cell(c int) int {
	words := rooms()[c] + 1
	small := 1 + 8*uint64(c) + 128*o.owner
	if len(o.free[c]) == 0 {
		for b := range o.p.blocks {
			if o.m.Read(o.p.entry(b)) != small {
				continue
			}
			for at := o.p.start(b); at+words <= o.p.start(b)+32; at += words {
				// A Free header's word is 32 times its owner, of 64.
				if w := o.m.Read(at); w%32 == 0 && w < 2048 {
					o.m.Write(at, 1+32*o.owner)
					o.put(c, at)
				}
			}
		}
	}
	if len(o.free[c]) == 0 && !o.walks {
		o.back()
	}
	if len(o.free[c]) == 0 {
		o.carve(c, o.claim(1), small)
	}
	if len(o.free[c]) == 0 {
		return -1
	}
	at := o.free[c][0]
	o.free[c] = o.free[c][1:]
	return at
}

// carve cuts a block, if there is one, into cells of a class.
func (o *model) carve(c, block int, small uint64) {
	if block < 0 {
		return
	}
	var cells []int
	for at := o.p.start(block); at+rooms()[c]+1 <= o.p.start(block)+32; at += rooms()[c] + 1 {
		o.m.Write(at, 1+32*o.owner)
		cells = append(cells, at)
	}
	o.m.Write(o.p.entry(block), small)
	for _, at := range slices.Backward(cells) {
		o.put(c, at)
	}
}

// put puts a place onto the list, if it is not there.
func (o *model) put(c, at int) {
	if !slices.ContainsFunc(o.free[:], func(row []int) bool { return slices.Contains(row, at) }) {
		o.free[c] = append([]int{at}, o.free[c]...)
	}
}

// run claims a run, or answers -1.
func (o *model) run(run int) int {
	block := o.claim(run)
	if block < 0 && !o.walks {
		o.back()
		block = o.claim(run)
	}
	return block
}

// claim claims a run that is free now, or answers -1.
func (o *model) claim(run int) int {
	at := -1
	o.m.Update(0, func(w uint64) uint64 {
		if at = first(w, run); at < 0 {
			return w
		}
		return w &^ the(at, run)
	})
	return at
}

// back gives the owner's blocks that wait back.
func (o *model) back() {
	for b := range o.p.blocks {
		run, w := 0, o.m.Read(o.p.entry(b))
		switch w {
		case 4 + 128*o.owner:
			run = 1
		case 5 + 32 + 128*o.owner, 5 + 64 + 128*o.owner, 5 + 96 + 128*o.owner:
			run = int(w / 32 % 4)
		}
		if run == 0 || b+run > o.p.blocks {
			continue
		}
		for i := b + run - 1; i >= b; i-- {
			o.m.Write(o.p.entry(i), 0)
		}
		o.m.Update(0, func(w uint64) uint64 {
			if w&the(b, run) != 0 {
				return w
			}
			return w | the(b, run)
		})
	}
}

// pair is a maker and its model, that do the same, each over words of its own.
type pair struct {
	p    plan
	b    *bench
	o    *model
	m    *tape
	held []hold
	live []object
}

// object is one that was made.
type object struct{ at, refs, size int }

// newPair is one of an owner, over the same words, with the same list.
func newPair(p plan, owner int, walks bool, words []uint64, r rows) *pair {
	x := &pair{p: p, b: newBench(p, owner, walks, words, r), m: newTape(words...)}
	x.o = &model{m: x.m, p: p, owner: uint64(owner), walks: walks}
	for c, row := range r {
		x.o.free[c] = slices.Clone(row)
	}
	x.o.hold = func(at int) { x.held = append(x.held, hold{at, len(x.m.marks)}) }
	return x
}

// walks says of both whether the collector walks.
func (x *pair) walks(is bool) { x.b.k.Walks, x.o.walks = is, is }

// others change the words of both ahead of each touch.
func (x *pair) others(do func(n int, words []uint64)) {
	for _, m := range []*tape{x.b.m, x.m} {
		m.others = func(words []uint64) { do(len(m.marks), words) }
	}
}

// make makes an object with both, and holds what was answered, touched and held against the model.
func (x *pair) make(t *testing.T, refs, size int) api.Errno {
	t.Helper()
	from := len(x.m.marks)
	want, e := x.o.make(refs, size)
	x.b.gives(t, refs, size, want, e)
	if !slices.Equal(x.b.m.marks[min(from, len(x.b.m.marks)):], x.m.marks[from:]) {
		t.Fatalf("Make(%d, %d) touched %v; want %v", refs, size, x.b.m.marks[from:], x.m.marks[from:])
	}
	if !slices.Equal(x.b.m.words, x.m.words) {
		t.Fatalf("behind Make(%d, %d) the words are %v; want %v", refs, size, x.b.m.words, x.m.words)
	}
	if !slices.Equal(x.b.held, x.held) {
		t.Fatalf("Make(%d, %d) held %v; want %v", refs, size, x.b.held, x.held)
	}
	x.b.has(t, x.o.free)
	if e == api.OK {
		x.live = append(x.live, object{want, refs, size})
	} else {
		noMemory(t, size, x.b.k, x.b.m.marks)
	}
	return e
}

// noMemory holds that out of memory was answered as P15.2 has it, by what was touched, of which the last is of the map.
func noMemory(t *testing.T, size int, k Maker, marks []mark) {
	t.Helper()
	if c := classOf(size); c >= 0 && k.Free.Len(c) > 0 {
		t.Fatalf("size %d: out of memory, with %d cells on the list", size, k.Free.Len(c))
	}
	for _, m := range slices.Backward(marks) {
		if m.at != 0 {
			continue
		}
		run := 1
		if size > 8 {
			run = (size + 32) / 32
		}
		if is := first(m.is&all(k.L.Blocks()), run); is >= 0 {
			t.Fatalf("size %d: out of memory, with a run free at %d", size, is)
		}
		return
	}
	t.Fatalf("size %d: out of memory, and the map was not touched", size)
}

// room are the words from an object's on to the end of its cell, or its run.
func (y object) room() int {
	if c := classOf(y.size); c >= 0 {
		return rooms()[c] + 1
	}
	return (y.size + 32) / 32 * 32
}

// apart holds that objects lie apart, each in a cell, or a run, of the layout's blocks.
func apart(t *testing.T, p plan, live []object) {
	t.Helper()
	of := make([]int, p.words()+96)
	for i, y := range live {
		off := (y.at - p.start(0)) % 32
		if y.at < p.start(0) || y.at+y.room() > p.words() || off%y.room() != 0 || off > 0 && off+y.room() > 32 {
			t.Fatalf("%v lies in no room of %d blocks from %d on", y, p.blocks, p.start(0))
		}
		for at := y.at; at < y.at+y.room(); at++ {
			if of[at] != 0 {
				t.Fatalf("%v and %v do not lie apart", live[of[at]-1], y)
			}
			of[at] = i + 1
		}
	}
}

// made holds that a maker's objects lie apart, with their headers, and fields of 0.
func (x *pair) made(t *testing.T) {
	t.Helper()
	apart(t, x.p, x.live)
	for _, y := range x.live {
		if w := x.b.m.words[y.at]; w != 2+32*x.o.owner+2048*uint64(y.refs)+262144*uint64(y.size) {
			t.Fatalf("the header of %v is %d", y, w)
		}
		for i := y.at + 1; i <= y.at+y.size; i++ {
			if x.b.m.words[i] != 0 {
				t.Fatalf("a field of %v is %d", y, x.b.m.words[i])
			}
		}
	}
}

// P15.1, P15.2: each size with all numbers of references, of the first and the last thread.
func TestAllSizes(t *testing.T) {
	for _, p := range []plan{lay(t, 1, 0, 3), lay(t, 64, 8, 4)} {
		for size := range 96 {
			for refs := range size + 1 {
				if size > 9 && refs > 2 && refs < size-2 && refs%16 != 15 && refs%16 != 0 && p.threads > 1 {
					continue
				}
				x := newPair(p, p.threads-1, refs%2 == 0, p.filled(all(p.blocks)), rows{})
				if e := x.make(t, refs, size); e != api.OK {
					t.Fatalf("Make(%d, %d): %d", refs, size, e)
				}
				x.made(t)
			}
		}
	}
}

// P15.1: each owner.
func TestOwners(t *testing.T) {
	p := lay(t, 64, 0, 3)
	for owner := range 64 {
		x := newPair(p, owner, false, p.filled(7), rows{})
		for _, size := range []int{1, 64, 1, 9} {
			x.make(t, 1, size)
		}
		x.made(t)
		if len(x.live) != 3 {
			t.Fatalf("the owner %d: %v", owner, x.live)
		}
	}
}

// P15.1, P15.2: till memory is out there are as many objects of a size as go in.
func TestUntilOutOfMemory(t *testing.T) {
	for _, blocks := range []int{1, 2, 3, 4, 7, 64} {
		p := lay(t, 1+blocks%3, blocks%2, blocks)
		for size := range 96 {
			if blocks == 64 && size%8 > 1 && size < 95 {
				continue
			}
			x := newPair(p, p.threads-1, size%2 == 0, p.filled(all(blocks)), rows{})
			n := 0
			for x.make(t, size/2, size) == api.OK {
				n++
			}
			want := blocks / ((size + 32) / 32)
			if c := classOf(size); c >= 0 {
				want = blocks * (32 / (rooms()[c] + 1))
			}
			if n != want {
				t.Fatalf("%d objects of the size %d in %d blocks; want %d", n, size, blocks, want)
			}
			x.made(t)
		}
	}
}

// P15.1: what is looked into, and what is given back, goes by the entry: all its words.
func TestEntries(t *testing.T) {
	p := lay(t, 64, 0, 3)
	words := slices.Concat(p.filled(0)[:p.start(0)], make([]uint64, 96))
	for _, owner := range []int{0, 5, 63} {
		for w := range uint64(1<<13 + 64) {
			if w > 256 && (w>>7)&63 != uint64(owner) && w%128 > 8 && w < 1<<13 {
				continue
			}
			words[p.entry(1)] = w
			for _, size := range []int{1, 2, 3, 8, 9, 64} {
				x := newPair(p, owner, w%3 == 0, words, rows{})
				x.make(t, 0, size)
				x.walks(!x.o.walks)
				x.make(t, 0, size)
			}
		}
		for bit := 13; bit < 64; bit++ {
			for kind := range uint64(6) {
				words[p.entry(1)] = 1<<bit + kind + 128*uint64(owner)
				x := newPair(p, owner, false, words, rows{})
				x.make(t, 0, 1)
				x.make(t, 0, 9)
			}
		}
	}
}

// P15.1: only what a Free header says is free: all words of headers, and such as are none's.
func TestHeaders(t *testing.T) {
	p := lay(t, 2, 0, 1)
	for c := range 4 {
		words := p.filled(0)
		words[p.entry(0)] = 1 + 8*uint64(c) + 128
		cells := 32 / (rooms()[c] + 1)
		look := func(cell int, w uint64) {
			words[p.start(0)+cell*(rooms()[c]+1)] = w
			x := newPair(p, 1, true, words, rows{})
			x.make(t, 0, rooms()[c])
			words[p.start(0)+cell*(rooms()[c]+1)] = 33
		}
		for w := range uint64(1 << 13) {
			look(int(w)%cells, w)
		}
		for bit := range 64 {
			for _, w := range []uint64{1 << bit, 1<<bit | 32, 1<<bit | 1<<25, 1<<bit | 1<<63, 1<<bit | 1<<11} {
				look(bit%cells, w)
			}
		}
		look(0, 1<<64-1)
	}
}

// P15.1: also what is no cell's place comes from the list, as the first one; nothing is looked at there.
func TestListFirst(t *testing.T) {
	p := lay(t, 1, 1, 2)
	for _, at := range []int{p.start(0), p.start(0) + 1, p.start(1) + 31, p.words(), p.words() + 1, math.MaxInt - 9, math.MaxInt - 6} {
		words := p.filled(3)
		words[p.entry(1)] = 1
		x := newPair(p, 0, false, words, rows{{at, 9}, {20}, {at + 5}, {}})
		x.make(t, 1, 1)
		if x.live[0].at != at {
			t.Errorf("%v; want %d", x.live, at)
		}
		x.make(t, 2, 4)
	}
}

// P15.1: a cell that is found, or carved, but is on the list already, of another class, is not put there twice.
func TestListedElsewhere(t *testing.T) {
	p := lay(t, 1, 0, 2)
	words := p.filled(2)
	words[p.entry(0)] = 1 + 8*3
	words[p.start(0)], words[p.start(0)+9], words[p.start(0)+18] = 0, 0, 1
	for _, at := range []int{0, 9, 18, 32, 41, 50} {
		x := newPair(p, 0, false, words, rows{nil, {p.start(0) + at}})
		for x.make(t, 0, 8) == api.OK {
		}
	}
}

// P15.1: a map that tells of blocks that the layout has not: they are none of its, and no word elsewhere is touched.
func TestBlocksThatThereAreNot(t *testing.T) {
	for _, blocks := range []int{1, 2, 3, 5, 62, 63} {
		p := lay(t, 2, 1, blocks)
		for _, free := range []uint64{1 << 63, 1<<64 - 1, 7 << blocks, 7 << (blocks - 1), 7 << 61, 6 << (blocks - 1), 1 << blocks} {
			for _, size := range []int{0, 8, 9, 31, 32, 63, 64, 95} {
				for _, walks := range []bool{true, false} {
					words := make([]uint64, p.words())
					words[0] = free
					b := newBench(p, 1, walks, words, rows{})
					var live []object
					for range 8 {
						at, e := b.k.Make(0, size)
						if e == api.OK {
							live = append(live, object{at, 0, size})
						} else {
							noMemory(t, size, b.k, b.m.marks)
						}
					}
					apart(t, p, live)
					for _, m := range b.m.marks {
						if m.at < 0 || m.at > 0 && m.at < p.entry(0) || m.at >= p.words() {
							t.Fatalf("touched %v", m)
						}
					}
				}
			}
		}
	}
}

// P15.1: a memory that has fewer words than the layout: those that there are not are 0, and it ends.
func TestShortMemory(t *testing.T) {
	p := lay(t, 1, 0, 3)
	for _, n := range []int{0, 1, 2, 4, 5, 7, 8, 20, 40, 70, p.words() - 1} {
		for _, size := range []int{0, 1, 8, 9, 95} {
			words := p.filled(7)[:n]
			x := newPair(p, 0, n%2 == 0, words, rows{})
			for range 9 {
				x.make(t, 0, size)
			}
		}
	}
}

// kinds are what a block may be like at first, each with its cells, if it is to have some.
func kinds(p plan, owner, other uint64) []func(words []uint64, block int) {
	entry := func(w uint64) func(words []uint64, block int) {
		return func(words []uint64, block int) { words[p.entry(block)] = w }
	}
	small := func(c int, owner uint64, headers ...uint64) func(words []uint64, block int) {
		return func(words []uint64, block int) {
			words[p.entry(block)] = 1 + 8*uint64(c) + 128*owner
			for i := range 32 / (rooms()[c] + 1) {
				words[p.start(block)+i*(rooms()[c]+1)] = headers[i%len(headers)]
			}
		}
	}
	return []func(words []uint64, block int){
		func(words []uint64, block int) { words[p.entry(block)], words[0] = 0, words[0]|1<<block },
		entry(0),
		entry(3),
		entry(2 + 32 + 128*owner),
		entry(4 + 128*owner),
		entry(4 + 128*other),
		entry(5 + 32 + 128*owner),
		entry(5 + 64 + 128*owner),
		entry(5 + 96 + 128*other),
		small(3, owner, 0),
		small(3, owner, 32*other, 3, 1+32*owner),
		small(3, owner, 2+32*owner, 1+32*owner, 3),
		small(3, other, 0),
		small(2, owner, 0),
	}
}

// P15.1: rows of up to three blocks, of all kinds each, also such as do not go together.
func TestRowsOfBlocks(t *testing.T) {
	for blocks := 1; blocks <= 3; blocks++ {
		p := lay(t, 2, 0, blocks)
		kinds := kinds(p, 1, 0)
		n := 1
		for range blocks {
			n *= len(kinds)
		}
		for i := range n {
			words := p.filled(0)
			for b, k := 0, i; b < blocks; b, k = b+1, k/len(kinds) {
				kinds[k%len(kinds)](words, b)
			}
			for _, walks := range []bool{true, false} {
				for _, sizes := range [][]int{{8, 5, 8}, {31, 9}, {40, 8}, {95, 32}} {
					x := newPair(p, 1, walks, words, rows{})
					for _, size := range sizes {
						x.make(t, size/2, size)
					}
				}
			}
		}
	}
}

// P15.1, P15.2: any arenas, and any rows of objects, while the collector walks now and then.
func TestAnyRows(t *testing.T) {
	pick := some(15)
	for range 400 {
		p := lay(t, 2+pick(3), pick(3), 1+pick(12))
		owner := pick(p.threads)
		kinds := kinds(p, uint64(owner), uint64((owner+1)%p.threads))
		words := p.filled(0)
		for b := 0; b < p.blocks; b++ {
			kinds[pick(len(kinds))*pick(2)](words, b)
			// The blocks behind the first one of a run are its own.
			if w := words[p.entry(b)]; w%8 == 5 && b+int(w/32%4) <= p.blocks {
				for range int(w/32%4) - 1 {
					b++
					words[p.entry(b)] = 3 - 3*uint64(pick(2))
				}
			}
		}
		x := newPair(p, owner, false, words, rows{})
		for range 60 {
			if pick(8) == 0 {
				x.walks(pick(2) == 0)
			}
			size := pick(12)
			if pick(5) == 0 {
				size = pick(96)
			}
			x.make(t, pick(size+1), size)
		}
		x.made(t)
	}
}

// P15.1: it goes by the words as they are at each touch, whatever others write ahead of it.
func TestOthersWrite(t *testing.T) {
	pick := some(16)
	for i := range 3000 {
		p := lay(t, 2, 0, 1+pick(4))
		kinds := kinds(p, 1, 0)
		words := p.filled(0)
		for b := range p.blocks {
			kinds[pick(len(kinds))](words, b)
		}
		x := newPair(p, 1, pick(2) == 0, words, rows{})
		x.others(func(n int, words []uint64) {
			at := some(uint64(i*1000 + n))
			if at(3) > 0 {
				return
			}
			// All but the map, of which all that others may do is to claim what is free, or to give theirs back.
			switch block := at(p.blocks); at(4) {
			case 0:
				words[p.start(block)+9*at(3)] = uint64(at(4) + 32*at(2))
			case 1:
				words[p.entry(block)] = uint64(at(6) + 8*at(4) + 32*at(4) + 128*at(2))
			default:
				words[0] ^= 1 << block
			}
		})
		for range 4 {
			x.make(t, 0, []int{8, 8, 8, 9, 40, 95, 1}[pick(7)])
		}
	}
}
