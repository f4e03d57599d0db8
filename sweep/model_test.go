package sweep

import (
	"slices"
	"strconv"
	"testing"

	"demesne/api"
	"demesne/layout"
	"demesne/list"
)

// The bits of a header's word, as the layer word tells them.
const (
	colourBit = 4
	greyBit   = 8
	markBit   = 16
)

// kindOf tells by the bits alone, without the layer word, of what kind a header is whose word it is, from Free's 0 on; or -1, if it is none's.
func kindOf(w uint64) int {
	kind, refs, size := w&3, w>>11&127, w>>18
	switch {
	case kind <= 1 && w&^(3|63*32) == 0:
		return int(kind)
	case refs > size || size > 95:
		return -1
	case kind == 2 && w&(colourBit|greyBit) == 0, kind == 3 && w&markBit == 0:
		return int(kind)
	}
	return -1
}

// owns tells whether a word is the header's of a Local object of an owner.
func owns(owner int, w uint64) bool { return kindOf(w) == 2 && int(w>>5&63) == owner }

// goes tells whether a word is the header's of what an owner takes back, in a block of its own: of its Local object that is not marked.
func goes(owner int, w uint64) bool { return owns(owner, w) && w&markBit == 0 }

// stays tells whether a word is the header's of a Local object of an owner that is marked.
func stays(owner int, w uint64) bool { return owns(owner, w) && w&markBit != 0 }

// head is the word of a header without colour, grey or marked.
func head(kind uint64, owner int, refs, size uint64) uint64 {
	return kind + 32*uint64(owner) + refs<<11 + size<<18
}

// free, listed: the words of headers without an object.
func free(owner int) uint64   { return 32 * uint64(owner) }
func listed(owner int) uint64 { return 1 + 32*uint64(owner) }

// small, large, emptied, spent: the words of entries.
func small(class, owner int) uint64 { return 1 + 8*uint64(class) + 128*uint64(owner) }
func large(run, owner int) uint64   { return 2 + 32*uint64(run) + 128*uint64(owner) }
func emptied(owner int) uint64      { return 4 + 128*uint64(owner) }
func spent(run, owner int) uint64   { return 5 + 32*uint64(run) + 128*uint64(owner) }

// tail is the word of an entry of a large object's blocks but the first one.
const tail = 3

// cellWords are how many words cells of each class have.
func cellWords() [4]int { return [4]int{2, 3, 5, 9} }

// The kinds of acts: touches, and what is seen of a list ahead of the next touch, or in the end.
const (
	read = iota
	write
	update
	came // a place is on the list, that was not there
	went // a place is on the list no more
)

// act is a touch that was done: of what kind, where, what the word was, and what it is; or what is seen of a list, where is is the class.
type act struct {
	kind, at int
	was, is  uint64
}

// texts are acts as text, one behind the other: of what was written what it is, too.
func texts(l []act) string {
	var b []byte
	for i, a := range l {
		if i > 0 {
			b = append(b, ' ')
		}
		b = strconv.AppendInt(append(b, "rwu+-"[a.kind]), int64(a.at), 10)
		if a.kind == write || a.kind == update {
			b = strconv.AppendUint(append(b, '='), a.is, 10)
		}
	}
	return string(b)
}

// plain is a memory.
type plain []uint64

func (m plain) Read(at int) uint64 {
	return m.Update(at, func(v uint64) uint64 { return v })
}

func (m plain) Write(at int, v uint64) {
	m.Update(at, func(uint64) uint64 { return v })
}

func (m plain) Update(at int, f func(v uint64) uint64) uint64 {
	if at < 0 || at >= len(m) {
		return 0
	}
	was := m[at]
	m[at] = f(was)
	return was
}

// tape is a memory that keeps what was done to it, and what is seen of a list ahead of each touch, if there is one. Ahead of that others may change its words.
type tape struct {
	words  plain
	acts   []act
	list   *list.List
	seen   rows
	others func(n int, words []uint64)
	n      int // how many touches there were
}

// newTape is one over words of its own, and a list, or none.
func newTape(words []uint64, l *list.List) *tape {
	return &tape{words: slices.Clone(words), list: l, seen: rowsOf(l)}
}

func (m *tape) Read(at int) uint64 {
	return m.touch(read, at, func(v uint64) uint64 { return v })
}

func (m *tape) Write(at int, v uint64) {
	m.touch(write, at, func(uint64) uint64 { return v })
}

func (m *tape) Update(at int, f func(v uint64) uint64) uint64 {
	return m.touch(update, at, f)
}

func (m *tape) touch(kind, at int, f func(v uint64) uint64) uint64 {
	m.look()
	if m.others != nil {
		m.others(m.n, m.words)
	}
	m.n++
	was := m.words.Update(at, f)
	m.acts = append(m.acts, act{kind, at, was, m.words.Read(at)})
	return was
}

// look keeps what is on the list no more, and what came there, since it was looked at last.
func (m *tape) look() {
	if m.list == nil {
		return
	}
	now := rowsOf(m.list)
	for c, row := range now {
		m.without(went, c, m.seen[c], row)
		m.without(came, c, row, m.seen[c])
	}
	m.seen = now
}

// without keeps those places of one row that another one has not, rising.
func (m *tape) without(kind, class int, row, other []int) {
	if slices.Equal(row, other) {
		return
	}
	for _, at := range slices.Sorted(slices.Values(row)) {
		if !slices.Contains(other, at) {
			m.acts = append(m.acts, act{kind: kind, at: at, is: uint64(class)})
		}
	}
}

// rows are the places of a list, by classes, the first one first.
type rows [4][]int

// alike tells whether rows have the same places in the same order.
func (r rows) alike(o rows) bool { return slices.EqualFunc(r[:], o[:], slices.Equal[[]int]) }

// has tells whether a place is there, of any class.
func (r rows) has(at int) bool {
	return slices.ContainsFunc(r[:], func(row []int) bool { return slices.Contains(row, at) })
}

// listing makes a list of rows.
func listing(r rows) *list.List {
	l := list.New()
	for c, row := range r {
		for _, at := range slices.Backward(row) {
			l.Push(c, at)
		}
	}
	return l
}

// rowsOf are the places that a list has.
func rowsOf(l *list.List) rows { return rows{l.All(0), l.All(1), l.All(2), l.All(3)} }

// plan is how many there are of each thing in an arena, and the layout of that.
type plan struct {
	threads, globals, blocks int
	l                        layout.Layout
}

// lay lays an arena out in which so many blocks go in, and no word is left.
func lay(t *testing.T, threads, globals, blocks int) plan {
	t.Helper()
	l, e := layout.New(3+threads+globals+33*blocks, threads, globals)
	if e != api.OK || l.Blocks() != blocks {
		t.Fatalf("a layout of %d threads, %d global roots: %d blocks, %d; want %d", threads, globals, l.Blocks(), e, blocks)
	}
	return plan{threads, globals, blocks, l}
}

// entry is the place of a block's entry, counted by hand.
func (p plan) entry(block int) int { return 3 + p.threads + p.globals + block }

// start is the place of a block's first word, counted by hand.
func (p plan) start(block int) int { return 3 + p.threads + p.globals + p.blocks + 32*block }

// words are how many words all of it has.
func (p plan) words() int { return 3 + p.threads + p.globals + 33*p.blocks }

// filled are words that are all unlike, none of them 0, and none of them a header's or an entry's, with a map ahead.
func (p plan) filled(bits uint64) []uint64 {
	words := make([]uint64, p.words())
	for i := range words {
		words[i] = 1<<40 + uint64(i)
	}
	words[0] = bits
	return words
}

// cells are where the cells of a class begin in a block.
func (p plan) cells(block, class int) []int {
	var l []int
	for i := 0; i+cellWords()[class] <= 32; i += cellWords()[class] {
		l = append(l, p.start(block)+i)
	}
	return l
}

// model sweeps as the chapter says, by the numbers of words alone.
type model struct {
	m     api.Mem
	p     plan
	owner int
	free  *list.List
	walks bool
}

// sweep sweeps all blocks.
func (o *model) sweep() {
	for block := range o.p.blocks {
		w := o.m.Read(o.p.entry(block))
		for class := range 4 {
			if w == small(class, o.owner) {
				o.cells(block, class)
			}
		}
		for run := 1; run <= 3; run++ {
			if w == large(run, o.owner) {
				o.run(block, run)
			}
			if w == spent(run, o.owner) {
				o.back(block, run)
			}
		}
		if w == emptied(o.owner) {
			o.back(block, 1)
		}
	}
}

func (o *model) cells(block, class int) {
	left := 0
	for _, at := range o.p.cells(block, class) {
		switch w := o.m.Read(at); {
		case kindOf(w) == 0 || goes(o.owner, w):
			o.m.Write(at, listed(o.owner))
			o.free.Push(class, at)
		case stays(o.owner, w):
			o.m.Write(at, w-markBit)
			left++
		case kindOf(w) != 1:
			left++
		}
	}
	if left > 0 {
		return
	}
	o.m.Write(o.p.entry(block), emptied(o.owner))
	o.free.Drop(o.p.start(block), o.p.start(block)+32)
	o.back(block, 1)
}

func (o *model) run(block, run int) {
	at := o.p.start(block)
	switch w := o.m.Read(at); {
	case goes(o.owner, w):
		o.m.Write(at, free(o.owner))
		o.m.Write(o.p.entry(block), spent(run, o.owner))
		o.back(block, run)
	case stays(o.owner, w):
		o.m.Write(at, w-markBit)
	}
}

func (o *model) back(block, run int) {
	if o.walks || block+run > o.p.blocks {
		return
	}
	for b := block + run - 1; b >= block; b-- {
		o.m.Write(o.p.entry(b), 0)
	}
	bits := uint64(1<<run-1) << block
	o.m.Update(0, func(w uint64) uint64 {
		// Where one of them is free already, none is given (4).
		if w&bits != 0 {
			return w
		}
		return w | bits
	})
}

// given is what a sweep is given.
type given struct {
	p      plan
	owner  int
	words  []uint64
	free   rows
	walks  bool
	others func(n int, words []uint64) // what others write ahead of each touch
}

// play sweeps, and holds each touch, the list ahead of it, and all words behind, against the model. It answers what was done, and what the list has then.
func (g given) play(t *testing.T) (*tape, rows) {
	t.Helper()
	l, k := listing(g.free), listing(g.free)
	m, want := newTape(g.words, l), newTape(g.words, k)
	m.others, want.others = g.others, g.others
	o := &model{m: want, p: g.p, owner: g.owner, free: k, walks: g.walks}
	o.sweep()
	want.look()
	if e := Sweep(m, g.p.l, uint8(g.owner), l, g.walks); e != api.OK {
		t.Fatalf("owner %d, of %v: %d", g.owner, g.words, e)
	}
	m.look()
	if !slices.Equal(m.acts, want.acts) {
		t.Fatalf("owner %d, of %v, the list %v, walks %v: %s; want %s", g.owner, g.words, g.free, g.walks, texts(m.acts), texts(want.acts))
	}
	is := rowsOf(l)
	if !slices.Equal(m.words, want.words) || !is.alike(rowsOf(k)) {
		t.Fatalf("owner %d, of %v, the list %v, walks %v: left %v, %v; want %v, %v", g.owner, g.words, g.free, g.walks, m.words, is, want.words, rowsOf(k))
	}
	return m, is
}

// follows holds what follows of a sweep while nobody else did anything, by a plain look at the words behind it.
func (g given) follows(t *testing.T, words []uint64, free rows) {
	t.Helper()
	want := slices.Clone(g.words)
	for block := range g.p.blocks {
		g.settle(t, block, words, want)
	}
	for at, w := range words {
		if w != want[at] {
			t.Fatalf("owner %d, of %v, walks %v: the word %d is %d; want %d", g.owner, g.words, g.walks, at, w, want[at])
		}
	}
	if lists(g.p, g.owner, g.words, g.free) && !lists(g.p, g.owner, words, free) {
		t.Fatalf("owner %d, of %v, the list %v: the list is %v", g.owner, g.words, g.free, free)
	}
	for at := g.p.start(0); at < g.p.words(); at++ {
		entry := g.p.entry((at - g.p.start(0)) / 32)
		on := g.free.has(at) || words[at] != g.words[at] && words[at] == listed(g.owner)
		if g.words[entry]%8 == 1 && words[entry] != g.words[entry] {
			on = false
		}
		if on != free.has(at) {
			t.Fatalf("owner %d, of %v, the list %v: the list is %v; of %d that should be %v", g.owner, g.words, g.free, free, at, on)
		}
	}
}

// settle lays into want what the words of a block, its entry, and the map are to be behind a sweep.
func (g given) settle(t *testing.T, block int, words, want []uint64) {
	t.Helper()
	w, run, left := g.words[g.p.entry(block)], 0, 0
	for class := range 4 {
		if w != small(class, g.owner) {
			continue
		}
		for _, at := range g.p.cells(block, class) {
			is := g.words[at]
			if owns(g.owner, is) {
				want[at] = is &^ markBit
			}
			if kindOf(is) == 0 || goes(g.owner, is) {
				want[at] = listed(g.owner)
			}
			if kindOf(want[at]) != 1 {
				left++
			}
		}
		if left == 0 {
			want[g.p.entry(block)], run = emptied(g.owner), 1
		}
	}
	for n := 1; n <= 3; n++ {
		at := g.p.start(block)
		if is := g.words[at]; w == large(n, g.owner) && owns(g.owner, is) {
			want[at] = is &^ markBit
			if goes(g.owner, is) {
				want[at], want[g.p.entry(block)], run = free(g.owner), spent(n, g.owner), n
			}
		}
		if w == spent(n, g.owner) {
			run = n
		}
	}
	if w == emptied(g.owner) {
		run = 1
	}
	for i := range run {
		if !g.walks {
			want[g.p.entry(block+i)] = 0
			want[0] |= 1 << (block + i)
		}
	}
}

// lists tells whether a list has just Listed cells of an owner's Small blocks, each once.
func lists(p plan, owner int, words []uint64, r rows) bool {
	all := slices.Concat(r[:]...)
	slices.Sort(all)
	if len(slices.Compact(all)) != len(slices.Concat(r[:]...)) {
		return false
	}
	for class, row := range r {
		for _, at := range row {
			block := (at - p.start(0)) / 32
			if at < p.start(0) || block >= p.blocks || words[p.entry(block)] != small(class, owner) ||
				!slices.Contains(p.cells(block, class), at) || words[at] != listed(owner) {
				return false
			}
		}
	}
	return true
}

// some answers what tells any numbers, the same ones each time.
func some(seed uint64) func(below int) int {
	next := seed
	return func(below int) int {
		next = next*6364136223846793005 + 1442695040888963407
		return int(next >> 33 % uint64(below))
	}
}
