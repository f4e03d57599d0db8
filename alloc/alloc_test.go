package alloc

import (
	"math"
	"slices"
	"testing"

	"demesne/api"
	"demesne/arena"
	"demesne/give"
	"demesne/layout"
	"demesne/list"
)

// The kinds of touches.
const (
	read = iota
	write
	update
)

// mark is a touch that was done: of what kind, where, what the word was, and what it is.
type mark struct {
	kind, at int
	was, is  uint64
}

// tape is a memory that keeps what was done to it. Ahead of each touch others may change its words.
type tape struct {
	words  []uint64
	marks  []mark
	others func(words []uint64)
}

func newTape(words ...uint64) *tape { return &tape{words: slices.Clone(words)} }

func (m *tape) Read(at int) uint64 {
	return m.touch(read, at, func(v uint64) uint64 { return v })
}

func (m *tape) Write(at int, v uint64) {
	m.touch(write, at, func(uint64) uint64 { return v })
}

func (m *tape) Update(at int, f func(v uint64) uint64) uint64 {
	return m.touch(update, at, f)
}

func (m *tape) touch(kind, at int, f func(v uint64) uint64) uint64 {
	if m.others != nil {
		m.others(m.words)
	}
	if at < 0 || at >= len(m.words) {
		m.marks = append(m.marks, mark{kind: kind, at: at})
		return 0
	}
	was := m.words[at]
	m.words[at] = f(was)
	m.marks = append(m.marks, mark{kind, at, was, m.words[at]})
	return was
}

// plan is how many there are of each thing in an arena, and the layout of that.
type plan struct {
	threads, globals, blocks int
	l                        layout.Layout
}

// lay lays an arena out in which so many blocks go in, and no word is left.
func lay(t *testing.T, threads, globals, blocks int) plan {
	t.Helper()
	l, e := layout.New(3+threads+globals+33*blocks, threads, globals)
	if e != api.OK || l.Blocks() != blocks {
		t.Fatalf("a layout of %d threads, %d global roots: %d blocks, %d; want %d", threads, globals, l.Blocks(), e, blocks)
	}
	return plan{threads, globals, blocks, l}
}

// entry is the place of a block's entry, counted by hand.
func (p plan) entry(block int) int { return 3 + p.threads + p.globals + block }

// start is the place of a block's first word, counted by hand.
func (p plan) start(block int) int { return 3 + p.threads + p.globals + p.blocks + 32*block }

// words are how many words all of it has.
func (p plan) words() int { return 3 + p.threads + p.globals + 33*p.blocks }

// filled are words that are all unlike, none of them 0, and none of them a header's or an entry's, with a map ahead.
func (p plan) filled(bits uint64) []uint64 {
	words := make([]uint64, p.words())
	for i := range words {
		words[i] = 1<<40 + uint64(i)
	}
	words[0] = bits
	return words
}

// rooms are for how many fields cells of each class have room.
func rooms() [4]int { return [4]int{1, 2, 4, 8} }

// classOf is the class of an object of so many fields, or -1.
func classOf(size int) int {
	return slices.IndexFunc([]int{1, 2, 4, 8}, func(room int) bool { return size <= room })
}

// all is the map in which so many blocks are free.
func all(blocks int) uint64 {
	var w uint64
	for i := range blocks {
		w |= 1 << i
	}
	return w
}

// the is a run's blocks in a map.
func the(block, run int) uint64 { return all(run) << block }

// first is the first block of the first run that is free in a map, looked for block by block; or -1.
func first(w uint64, run int) int {
	free := 0
	for at := range 64 {
		if free++; w>>at&1 == 0 {
			free = 0
		}
		if free == run {
			return at + 1 - run
		}
	}
	return -1
}

// some answers what tells any numbers, the same ones each time.
func some(seed uint64) func(below int) int {
	next := seed
	return func(below int) int {
		next = next*6364136223846793005 + 1442695040888963407
		return int(next >> 33 % uint64(below))
	}
}

// hold is what Hold was told: a place, and behind how many touches.
type hold struct{ at, behind int }

// rows are the places of a list, by classes, the first one first.
type rows [4][]int

// alike tells whether rows have the same places in the same order.
func (r rows) alike(o rows) bool {
	return slices.EqualFunc(r[:], o[:], slices.Equal[[]int])
}

// listing makes a list of rows.
func listing(r rows) *list.List {
	l := list.New()
	for c, row := range r {
		for _, at := range slices.Backward(row) {
			l.Push(c, at)
		}
	}
	return l
}

// rowsOf are the places that a list has.
func rowsOf(l *list.List) rows {
	return rows{l.All(0), l.All(1), l.All(2), l.All(3)}
}

// bench is a maker at work: its memory keeps what is done to it, and what is held is kept, too.
type bench struct {
	m    *tape
	k    Maker
	held []hold
}

// newBench is one of an owner, over words, with a list.
func newBench(p plan, owner int, walks bool, words []uint64, r rows) *bench {
	b := &bench{m: newTape(words...)}
	b.k = Maker{M: b.m, L: p.l, Owner: uint8(owner), Free: listing(r), Walks: walks}
	b.k.Hold = func(at int) { b.held = append(b.held, hold{at, len(b.m.marks)}) }
	return b
}

// begun is a maker over an arena of which all blocks are free, and all other words are something.
func begun(p plan, owner int) *bench {
	return newBench(p, owner, false, p.filled(all(p.blocks)), rows{})
}

// gives makes an object, and holds the answer against what it should be.
func (b *bench) gives(t *testing.T, refs, size, at int, e api.Errno) {
	t.Helper()
	if is, ie := b.k.Make(refs, size); is != at || ie != e {
		t.Fatalf("Make(%d, %d) = %d, %d; want %d, %d", refs, size, is, ie, at, e)
	}
}

// did holds what was done since it was asked last: the touches, and what was held.
func (b *bench) did(t *testing.T, marks []mark, held ...hold) {
	t.Helper()
	if !slices.Equal(b.m.marks, marks) || !slices.Equal(b.held, held) {
		t.Fatalf("touched %v, held %v; want %v, held %v", b.m.marks, b.held, marks, held)
	}
	b.m.marks, b.held = nil, nil
}

// has holds the list against what it should be.
func (b *bench) has(t *testing.T, want rows) {
	t.Helper()
	if is := rowsOf(b.k.Free); !is.alike(want) {
		t.Fatalf("the list has %v; want %v", is, want)
	}
}

// The chapter's example: a layout of 1 block, begun; the owner 0.
func TestExample(t *testing.T) {
	l, e := layout.New(37, 1, 0)
	m, _ := arena.New(37)
	if e != api.OK || l.Blocks() != 1 {
		t.Fatalf("a layout of %d blocks, %d", l.Blocks(), e)
	}
	give.Begin(m, l)
	k := Maker{M: m, L: l, Free: list.New()}
	for i := range 16 {
		if at, e := k.Make(1, 1); at != 5+2*i || e != api.OK {
			t.Errorf("the object %d is at %d, %d; want %d", i, at, e, 5+2*i)
		}
	}
	for range 2 {
		if at, e := k.Make(1, 1); at != 0 || e != api.ErrMem {
			t.Errorf("behind the last cell: %d, %d", at, e)
		}
	}
	for i := range 16 {
		if h, f := m.Read(5+2*i), m.Read(6+2*i); h != 2+2048+262144 || f != 0 {
			t.Errorf("the object %d: %d, %d", i, h, f)
		}
	}
	if m.Read(0) != 0 || m.Read(4) != 1 {
		t.Errorf("the map %d, the entry %d", m.Read(0), m.Read(4))
	}
}

// P15.1: by hand: a block of one class of two threads, the owner 1: carved, touch by touch, then cells of the list.
func TestCarveByHand(t *testing.T) {
	p := lay(t, 2, 1, 1) // the entry lies at 6, the block from 7 on
	b := begun(p, 1)
	was := func(at int) uint64 { return 1<<40 + uint64(at) }
	b.gives(t, 1, 3, 7, api.OK)
	// Cells of the class 2 have 5 words; Listed of the owner 1 is 33, Small of that class and owner 145.
	b.did(t, []mark{
		{read, 6, was(6), was(6)}, {read, 6, was(6), was(6)}, {update, 0, 1, 0},
		{write, 7, was(7), 33}, {write, 12, was(12), 33}, {write, 17, was(17), 33},
		{write, 22, was(22), 33}, {write, 27, was(27), 33}, {write, 32, was(32), 33},
		{write, 6, was(6), 145},
		{write, 8, was(8), 0}, {write, 9, was(9), 0}, {write, 10, was(10), 0},
		{write, 7, 33, 2 + 32 + 2048 + 3*262144},
	}, hold{7, 10})
	b.has(t, rows{2: {12, 17, 22, 27, 32}})
	b.gives(t, 4, 4, 12, api.OK)
	b.did(t, []mark{
		{write, 13, was(13), 0}, {write, 14, was(14), 0}, {write, 15, was(15), 0}, {write, 16, was(16), 0},
		{write, 12, 33, 2 + 32 + 4*2048 + 4*262144},
	}, hold{12, 0})
	b.has(t, rows{2: {17, 22, 27, 32}})
	// Of another class there is none: no block is free.
	b.gives(t, 0, 0, 0, api.ErrMem)
	b.did(t, []mark{{read, 6, 145, 145}, {read, 6, 145, 145}, {update, 0, 0, 0}})
	b.has(t, rows{2: {17, 22, 27, 32}})
}

// P15.1: by hand: an object without fields has a header alone.
func TestNoFieldsByHand(t *testing.T) {
	p := lay(t, 1, 0, 1)
	b := newBench(p, 0, false, p.filled(0), rows{0: {9, 5}})
	b.gives(t, 0, 0, 9, api.OK)
	b.did(t, []mark{{write, 9, 1<<40 + 9, 2}}, hold{9, 0})
	b.has(t, rows{0: {5}})
}

// P15.1: by hand: what is free is found in blocks of the class and owner, all of them, and the one found last is taken.
func TestFoundByHand(t *testing.T) {
	p := lay(t, 2, 0, 4) // the entries lie from 5 on, the blocks at 9, 41, 73 and 105
	words := p.filled(all(0))
	words[5] = 1 + 3*8       // Small, the class 3, the owner 0
	words[6] = 1 + 3*8 + 128 // of the owner 1
	words[7] = 1 + 2*8       // of the class 2
	words[8] = 1 + 3*8
	words[9], words[18], words[27] = 1, 96, 2 // Listed, Free (of the owner 3), Local
	words[41], words[50], words[59] = 0, 0, 0
	words[73], words[78] = 0, 0
	words[105], words[114], words[123] = 0, 3, 32
	b := newBench(p, 0, false, words, rows{0: {73}})
	b.gives(t, 0, 5, 123, api.OK)
	b.did(t, []mark{
		{read, 5, 25, 25}, {read, 9, 1, 1}, {read, 18, 96, 96}, {write, 18, 96, 1}, {read, 27, 2, 2},
		{read, 6, 153, 153}, {read, 7, 17, 17},
		{read, 8, 25, 25}, {read, 105, 0, 0}, {write, 105, 0, 1}, {read, 114, 3, 3}, {read, 123, 32, 32}, {write, 123, 32, 1},
		{write, 124, words[124], 0}, {write, 125, words[125], 0}, {write, 126, words[126], 0},
		{write, 127, words[127], 0}, {write, 128, words[128], 0},
		{write, 123, 1, 2 + 5*262144},
	}, hold{123, 13})
	b.has(t, rows{0: {73}, 3: {105, 18}})
	b.gives(t, 0, 8, 105, api.OK)
	b.m.marks, b.held = nil, nil
	b.gives(t, 8, 8, 18, api.OK)
	b.has(t, rows{0: {73}})
}

// P15.1: by hand: nothing is found, and the collector does not walk: what waits of the owner is given back, and the first free block is carved; if it walks, that is left.
func TestWaitingByHand(t *testing.T) {
	p := lay(t, 2, 0, 4) // the entries lie from 5 on, the blocks at 9, 41, 73 and 105
	words := p.filled(0)
	words[5] = 4              // Emptied, of the owner 0
	words[6] = 4 + 128        // of the owner 1
	words[7] = 5 + 2*32 + 128 // Spent, 2 blocks, of the owner 1
	words[8] = 3              // Tail
	looks := []mark{{read, 5, 4, 4}, {read, 6, 132, 132}, {read, 7, 197, 197}, {read, 8, 3, 3}}

	b := newBench(p, 1, false, words, rows{})
	b.gives(t, 0, 8, 41, api.OK)
	marks := slices.Clone(looks)
	marks = append(marks, looks[:2]...)
	marks = append(marks, mark{write, 6, 132, 0}, mark{update, 0, 0, 2})
	marks = append(marks, looks[2], mark{write, 8, 3, 0}, mark{write, 7, 197, 0}, mark{update, 0, 2, 14}, mark{read, 8, 0, 0})
	marks = append(marks, mark{update, 0, 14, 12},
		mark{write, 41, words[41], 33}, mark{write, 50, words[50], 33}, mark{write, 59, words[59], 33}, mark{write, 6, 0, 153})
	behind := len(marks)
	for i := 42; i < 50; i++ {
		marks = append(marks, mark{write, i, words[i], 0})
	}
	marks = append(marks, mark{write, 41, 33, 34 + 8*262144})
	b.did(t, marks, hold{41, behind})
	b.has(t, rows{3: {50, 59}})

	b = newBench(p, 1, true, words, rows{})
	b.gives(t, 0, 8, 0, api.ErrMem)
	b.did(t, append(slices.Clone(looks), mark{update, 0, 0, 0}))
	b.has(t, rows{})
}

// P15.1: by hand: runs of 1 to 3 blocks.
func TestRunsByHand(t *testing.T) {
	p := lay(t, 3, 2, 6) // the entries lie from 8 on, the blocks at 14, 46, 78, 110, 142 and 174
	b := begun(p, 2)
	words := p.filled(0)
	fields := func(at, size int) []mark {
		var l []mark
		for i := at + 1; i <= at+size; i++ {
			l = append(l, mark{write, i, words[i], 0})
		}
		return l
	}
	b.gives(t, 95, 95, 14, api.OK)
	marks := append([]mark{{update, 0, 63, 56}}, fields(14, 95)...)
	b.did(t, append(marks,
		mark{write, 9, words[9], 3}, mark{write, 10, words[10], 3},
		mark{write, 14, words[14], 2 + 64 + 95*2048 + 95*262144}, mark{write, 8, words[8], 2 + 96 + 256}), hold{14, 1})
	b.gives(t, 0, 9, 110, api.OK)
	marks = append([]mark{{update, 0, 56, 48}}, fields(110, 9)...)
	b.did(t, append(marks,
		mark{write, 110, words[110], 2 + 64 + 9*262144}, mark{write, 11, words[11], 2 + 32 + 256}), hold{110, 1})
	// Of three blocks no run is left, and nothing waits.
	b.gives(t, 0, 64, 0, api.ErrMem)
	marks = []mark{{update, 0, 48, 48}}
	for i, w := range []uint64{354, 3, 3, 290, words[12], words[13]} {
		marks = append(marks, mark{read, 8 + i, w, w})
	}
	b.did(t, append(marks, mark{update, 0, 48, 48}))
	b.k.Walks = true
	b.gives(t, 0, 64, 0, api.ErrMem)
	b.did(t, []mark{{update, 0, 48, 48}})
	b.gives(t, 1, 63, 142, api.OK)
	marks = append([]mark{{update, 0, 48, 0}}, fields(142, 63)...)
	b.did(t, append(marks, mark{write, 13, words[13], 3},
		mark{write, 142, words[142], 2 + 64 + 2048 + 63*262144}, mark{write, 12, words[12], 2 + 64 + 256}), hold{142, 1})
	b.has(t, rows{})
}

// P15.1: by hand: a run is claimed once more out of what waited; and what was given back stays so beside an error.
func TestRunOfWaitingByHand(t *testing.T) {
	p := lay(t, 1, 0, 3) // the entries at 4, 5 and 6, the blocks at 7, 39 and 71
	words := p.filled(2)
	words[4], words[5], words[6] = 4, 0, 5+32
	b := newBench(p, 0, true, words, rows{})
	b.gives(t, 0, 32, 0, api.ErrMem)
	b.did(t, []mark{{update, 0, 2, 2}})
	b.k.Walks = false
	b.gives(t, 0, 64, 7, api.OK)
	b.m.marks = b.m.marks[:10]
	b.did(t, []mark{
		{update, 0, 2, 2},
		{read, 4, 4, 4}, {write, 4, 4, 0}, {update, 0, 2, 3},
		{read, 5, 0, 0},
		{read, 6, 37, 37}, {write, 6, 37, 0}, {update, 0, 3, 7},
		{update, 0, 7, 0}, {write, 8, words[8], 0},
	}, hold{7, 9})

	words[0], words[5] = 0, 1 // Small: it does not wait
	b = newBench(p, 0, false, words, rows{})
	b.gives(t, 0, 32, 0, api.ErrMem)
	b.did(t, []mark{
		{update, 0, 0, 0},
		{read, 4, 4, 4}, {write, 4, 4, 0}, {update, 0, 0, 1},
		{read, 5, 1, 1},
		{read, 6, 37, 37}, {write, 6, 37, 0}, {update, 0, 1, 5},
		{update, 0, 5, 5},
	})
	b.gives(t, 0, 31, 7, api.OK)
}

// P15.1: what was wrong is told in the chapter's order, ahead of any touch; nothing is held, and the list stays.
func TestErrors(t *testing.T) {
	p := lay(t, 3, 1, 2)
	type wrong struct {
		refs, size int
	}
	sizes := []wrong{
		{-1, 1}, {-1, 0}, {-1, -1}, {0, -1}, {-2, -1}, {math.MinInt, 0}, {math.MinInt, math.MaxInt}, {math.MinInt, math.MinInt},
		{1, 0}, {2, 1}, {9, 8}, {96, 95}, {256, 1}, {257, 1}, {1 << 32, 0}, {math.MaxInt, 95}, {math.MaxInt, 0},
		{0, 96}, {96, 96}, {1, 97}, {0, 127}, {0, 128}, {0, 255}, {0, 256}, {1, 257}, {0, 256 + 95}, {0, 1 << 32}, {0, math.MaxInt},
		{math.MaxInt, math.MaxInt}, {0, math.MinInt}, {0, -256}, {0, math.MinInt + 1}, {-255, 1}, {-256, 0},
	}
	good := []wrong{{0, 0}, {1, 1}, {0, 8}, {9, 9}, {95, 95}}
	for _, memory := range []bool{true, false} {
		for _, free := range []bool{true, false} {
			for _, owner := range []int{0, 1, 2, 3, 4, 63, 64, 128, 255} {
				for i, x := range append(slices.Clone(good), sizes...) {
					b := begun(p, owner)
					b.m.words[0] = 0 // there is no memory left: that would come behind all other errors
					b.k.Free = listing(rows{{50}, {60}, nil, {70}})
					want := api.OK
					switch {
					case !memory || !free:
						want = api.ErrNil
					case owner > 2 || i >= len(good):
						want = api.ErrArg
					default:
						continue
					}
					if !memory {
						b.k.M = nil
					}
					if !free {
						b.k.Free = nil
					}
					for _, walks := range []bool{true, false} {
						b.k.Walks = walks
						b.gives(t, x.refs, x.size, 0, want)
						b.did(t, nil)
						if free {
							b.has(t, rows{{50}, {60}, nil, {70}})
						}
					}
				}
			}
		}
	}
}

// P15.1: a maker, or a layout, of which nothing was said.
func TestZero(t *testing.T) {
	p := lay(t, 1, 0, 1)
	for _, x := range [][2]int{{0, 0}, {1, 1}, {0, 9}, {95, 95}, {2, 1}} {
		if at, e := (Maker{}).Make(x[0], x[1]); at != 0 || e != api.ErrNil {
			t.Errorf("a zero maker: %d, %d", at, e)
		}
		if at, e := (Maker{L: p.l, Owner: 3}).Make(x[0], x[1]); at != 0 || e != api.ErrNil {
			t.Errorf("without memory and list: %d, %d", at, e)
		}
		b := begun(p, 0)
		b.k.L = layout.Layout{}
		b.gives(t, x[0], x[1], 0, api.ErrArg)
		b.did(t, nil)
	}
}

// P15.1: of several errors the first one: out of memory comes last, and is not told of what may not be.
func TestOutOfMemoryLast(t *testing.T) {
	p := lay(t, 1, 0, 1)
	b := begun(p, 0)
	b.m.words[0] = 0
	b.k.Walks = true
	b.gives(t, 0, 96, 0, api.ErrArg)
	b.gives(t, 10, 9, 0, api.ErrArg)
	b.did(t, nil)
	b.gives(t, 0, 95, 0, api.ErrMem)
	b.gives(t, 0, 9, 0, api.ErrMem)
	b.did(t, []mark{{update, 0, 0, 0}, {update, 0, 0, 0}})
	b.gives(t, 8, 8, 0, api.ErrMem)
	b.did(t, []mark{{read, 4, 1<<40 + 4, 1<<40 + 4}, {update, 0, 0, 0}})
}

// P15.1: Hold is told the place that Make answers, once, and nothing beside an error; without it all is as it is else.
func TestHold(t *testing.T) {
	p := lay(t, 1, 0, 4)
	for size := range 96 {
		for _, walks := range []bool{true, false} {
			a, b := begun(p, 0), begun(p, 0)
			a.k.Walks, b.k.Walks, b.k.Hold = walks, walks, nil
			for e := api.OK; e == api.OK; {
				a.held = nil
				var at, bt int
				var be api.Errno
				at, e = a.k.Make(0, size)
				bt, be = b.k.Make(0, size)
				if at != bt || e != be || !slices.Equal(a.m.marks, b.m.marks) || !rowsOf(a.k.Free).alike(rowsOf(b.k.Free)) {
					t.Fatalf("Make(0, %d) = %d, %d; without Hold %d, %d", size, at, e, bt, be)
				}
				if e == api.OK && (len(a.held) != 1 || a.held[0].at != at) || e != api.OK && len(a.held) != 0 {
					t.Fatalf("Make(0, %d) = %d, %d: held %v", size, at, e, a.held)
				}
			}
		}
	}
}

// P15.1: as soon as it is taken: when Hold is told, the place is on the list no more, the blocks are free no more, and what comes behind is not done.
func TestHoldAtOnce(t *testing.T) {
	p := lay(t, 1, 0, 3)
	for size := range 96 {
		b := begun(p, 0)
		told := 0
		b.k.Hold = func(at int) {
			told++
			if b.k.Free.Has(at) || b.m.words[0] == 7 {
				t.Errorf("size %d: held, but not taken", size)
			}
			for i := 1; i <= size; i++ {
				if b.m.words[at+i] != 1<<40+uint64(at+i) {
					t.Errorf("size %d: held behind the touch of the field %d", size, i-1)
				}
			}
			if w := b.m.words[at]; size > 8 && w != 1<<40+uint64(at) || size <= 8 && w != 1 {
				t.Errorf("size %d: held behind the touch of the header, %d", size, w)
			}
		}
		if _, e := b.k.Make(size, size); e != api.OK || told != 1 {
			t.Errorf("size %d: %d, told %d times", size, e, told)
		}
	}
}
