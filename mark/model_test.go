package mark

import (
	"slices"
	"strconv"
	"testing"

	"demesne/api"
	"demesne/layout"
)

// The bits of a header's word, as the layer word tells them.
const (
	colourBit = 4
	greyBit   = 8
	markBit   = 16
)

// kindOf tells by the bits alone, without the layer word, of what kind a header is whose word it is, from Free's 0 on; or -1, if it is none's.
func kindOf(w uint64) int {
	kind, refs, size := w&3, w>>11&127, w>>18
	switch {
	case kind <= 1 && w&^(3|63*32) == 0:
		return int(kind)
	case refs > size || size > 95:
		return -1
	case kind == 2 && w&(colourBit|greyBit) == 0, kind == 3 && w&markBit == 0:
		return int(kind)
	}
	return -1
}

// refsOf is how many references an object has, if it is one whose header's word it is; else 0.
func refsOf(w uint64) int {
	if kindOf(w) < 2 {
		return 0
	}
	return int(w >> 11 & 127)
}

// owns tells whether a word is the header's of a Local object of an owner.
func owns(owner int, w uint64) bool { return kindOf(w) == 2 && int(w>>5&63) == owner }

// head is the word of a header without colour, grey or marked.
func head(kind uint64, owner int, refs, size uint64) uint64 {
	return kind + 32*uint64(owner) + refs<<11 + size<<18
}

// small, large: the words of entries.
func small(class, owner int) uint64 { return 1 + 8*uint64(class) + 128*uint64(owner) }
func large(run, owner int) uint64   { return 2 + 32*uint64(run) + 128*uint64(owner) }

// The kinds of touches; told is none, but that Global was told.
const (
	read = iota
	write
	update
	told
)

// act is a touch that was done: of what kind, where, what the word was, and what it is; or that Global was told a place.
type act struct {
	kind, at int
	was, is  uint64
}

// texts are acts as text, one behind the other, without the words.
func texts(l []act) string {
	var b []byte
	for i, a := range l {
		if i > 0 {
			b = append(b, ' ')
		}
		b = strconv.AppendInt(append(b, "rwug"[a.kind]), int64(a.at), 10)
	}
	return string(b)
}

// plain is a memory.
type plain []uint64

func (m plain) Read(at int) uint64 {
	return m.Update(at, func(v uint64) uint64 { return v })
}

func (m plain) Write(at int, v uint64) {
	m.Update(at, func(uint64) uint64 { return v })
}

func (m plain) Update(at int, f func(v uint64) uint64) uint64 {
	if at < 0 || at >= len(m) {
		return 0
	}
	was := m[at]
	m[at] = f(was)
	return was
}

// tape is a memory that keeps what was done to it, and what was told.
type tape struct {
	words plain
	acts  []act
}

// newTape is one over words of its own.
func newTape(words []uint64) *tape { return &tape{words: slices.Clone(words)} }

func (m *tape) Read(at int) uint64 {
	return m.touch(read, at, func(v uint64) uint64 { return v })
}

func (m *tape) Write(at int, v uint64) {
	m.touch(write, at, func(uint64) uint64 { return v })
}

func (m *tape) Update(at int, f func(v uint64) uint64) uint64 {
	return m.touch(update, at, f)
}

func (m *tape) touch(kind, at int, f func(v uint64) uint64) uint64 {
	was := m.words.Update(at, f)
	m.acts = append(m.acts, act{kind, at, was, m.words.Read(at)})
	return was
}

// tell keeps that a place was told.
func (m *tape) tell(at int) { m.acts = append(m.acts, act{kind: told, at: at}) }

// plan is how many there are of each thing in an arena, and the layout of that.
type plan struct {
	threads, globals, blocks int
	l                        layout.Layout
}

// lay lays an arena out in which so many blocks go in, and no word is left.
func lay(t *testing.T, threads, globals, blocks int) plan {
	t.Helper()
	l, e := layout.New(3+threads+globals+33*blocks, threads, globals)
	if e != api.OK || l.Blocks() != blocks {
		t.Fatalf("a layout of %d threads, %d global roots: %d blocks, %d; want %d", threads, globals, l.Blocks(), e, blocks)
	}
	return plan{threads, globals, blocks, l}
}

// entry is the place of a block's entry, counted by hand.
func (p plan) entry(block int) int { return 3 + p.threads + p.globals + block }

// start is the place of a block's first word, counted by hand.
func (p plan) start(block int) int { return 3 + p.threads + p.globals + p.blocks + 32*block }

// words are how many words all of it has.
func (p plan) words() int { return 3 + p.threads + p.globals + 33*p.blocks }

// cells are where the headers of a block lie that are looked at for an owner, by the block's entry.
func (p plan) cells(block int, entry uint64, owner int) []int {
	var l []int
	at := p.start(block)
	for class, words := range []int{2, 3, 5, 9} {
		for i := 0; entry == small(class, owner) && i+words <= 32; i += words {
			l = append(l, at+i)
		}
	}
	for run := 1; run <= 3; run++ {
		if entry == large(run, owner) {
			l = append(l, at)
		}
	}
	return l
}

// model marks as the chapter says, by the numbers of words alone.
type model struct {
	m     api.Mem
	p     plan
	owner int
	room  int
	tell  func(at int)
	stack []int
	over  bool
	times int // how often all blocks were gone through
}

// mark marks from places.
func (o *model) mark(from []int) {
	for _, at := range from {
		o.treat(at)
		o.drain()
	}
	for o.over {
		o.over = false
		o.times++
		for block := range o.p.blocks {
			for _, at := range o.p.cells(block, o.m.Read(o.p.entry(block)), o.owner) {
				if w := o.m.Read(at); owns(o.owner, w) && w&markBit != 0 {
					o.look(at, w)
					o.drain()
				}
			}
		}
	}
}

func (o *model) treat(at int) {
	if at == 0 {
		return
	}
	w := o.m.Read(at)
	if kindOf(w) == 3 && o.tell != nil {
		o.tell(at)
	}
	if !owns(o.owner, w) || w&markBit != 0 {
		return
	}
	o.m.Write(at, w|markBit)
	if len(o.stack) == o.room {
		o.over = true
		return
	}
	o.stack = append(o.stack, at)
}

func (o *model) look(at int, w uint64) {
	for i := 1; i <= refsOf(w); i++ {
		o.treat(int(o.m.Read(at + i)))
	}
}

func (o *model) drain() {
	for n := len(o.stack); n > 0; n = len(o.stack) {
		at := o.stack[n-1]
		o.stack = o.stack[:n-1]
		o.look(at, o.m.Read(at))
	}
}

// given is what a marker is given.
type given struct {
	p     plan
	owner int
	room  int
	words []uint64
	from  []int
}

// marker is one over a memory, that tells there what it is told.
func (g given) marker(m *tape) Marker {
	return Marker{M: m, L: g.p.l, Owner: uint8(g.owner), Room: g.room, Global: m.tell}
}

// model is the marker's.
func (g given) model(m *tape) *model {
	return &model{m: m, p: g.p, owner: g.owner, room: g.room, tell: m.tell}
}

// play marks, and holds each touch, all that is told, and all words behind, against the model. It answers what was done, and how often all blocks were gone through.
func (g given) play(t *testing.T) (*tape, int) {
	t.Helper()
	m, want := newTape(g.words), newTape(g.words)
	o := g.model(want)
	o.mark(g.from)
	g.marks(t, m, want, g.marker(m))
	return m, o.times
}

// marks has a marker mark, and holds its memory against the one of the model.
func (g given) marks(t *testing.T, m, want *tape, k Marker) {
	t.Helper()
	from := slices.Clone(g.from)
	if e := k.Mark(from); e != api.OK {
		t.Fatalf("Mark(%v), owner %d, room %d: %d", g.from, g.owner, g.room, e)
	}
	if !slices.Equal(m.acts, want.acts) {
		t.Fatalf("Mark(%v), owner %d, room %d, of %v: %s; want %s", g.from, g.owner, g.room, g.words, texts(m.acts), texts(want.acts))
	}
	if !slices.Equal(m.words, want.words) || !slices.Equal(from, g.from) {
		t.Fatalf("Mark(%v), owner %d, room %d: left %v, and the places %v; want %v", g.from, g.owner, g.room, m.words, from, want.words)
	}
}

// reached are the places of the owner's Local objects that these places, or they, lead to, found by looking again and again for one more; and of the Global ones.
func (g given) reached() (own, shared map[int]bool) {
	own, shared = map[int]bool{}, map[int]bool{}
	words := plain(g.words)
	meet := func(at int) {
		if w := words.Read(at); at != 0 && owns(g.owner, w) {
			own[at] = true
		} else if at != 0 && kindOf(w) == 3 {
			shared[at] = true
		}
	}
	for _, at := range g.from {
		meet(at)
	}
	for n := -1; n != len(own); {
		n = len(own)
		for at, w := range words {
			for i := 1; own[at] && i <= refsOf(w); i++ {
				meet(int(words.Read(at + i)))
			}
		}
	}
	return own, shared
}

// follows holds what follows of a marking, on words on which none of the owner's objects was marked.
func (g given) follows(t *testing.T, m *tape) {
	t.Helper()
	own, shared := g.reached()
	want, left := slices.Clone(g.words), len(shared)
	for at := range own {
		want[at] |= markBit
	}
	if !slices.Equal(m.words, want) {
		t.Fatalf("Mark(%v), owner %d, room %d, of %v: left %v; want %v", g.from, g.owner, g.room, g.words, m.words, want)
	}
	for _, a := range m.acts {
		is, ok := shared[a.at]
		if a.kind == told && !ok {
			t.Fatalf("Mark(%v), owner %d, room %d, of %v: told %d; want %v", g.from, g.owner, g.room, g.words, a.at, shared)
		}
		if a.kind == told && is {
			shared[a.at], left = false, left-1
		}
	}
	if left > 0 {
		t.Fatalf("Mark(%v), owner %d, room %d, of %v: %d are not told of %v", g.from, g.owner, g.room, g.words, left, shared)
	}
}

// some answers what tells any numbers, the same ones each time.
func some(seed uint64) func(below int) int {
	next := seed
	return func(below int) int {
		next = next*6364136223846793005 + 1442695040888963407
		return int(next >> 33 % uint64(below))
	}
}
