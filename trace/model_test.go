package trace

import (
	"slices"
	"strconv"
	"testing"

	"demesne/api"
	"demesne/layout"
	"demesne/table"
)

// The bits of a header's word, as the layer word tells them.
const (
	colourBit = 4
	greyBit   = 8
	markBit   = 16
)

// kindOf tells by the bits alone, without the layer word, of what kind a header is whose word it is, from Free's 0 on; or -1, if it is none's.
func kindOf(w uint64) int {
	kind, refs, size := w&3, w>>11&127, w>>18
	switch {
	case kind <= 1 && w&^(3|63*32) == 0:
		return int(kind)
	case refs > size || size > 95:
		return -1
	case kind == 2 && w&(colourBit|greyBit) == 0, kind == 3 && w&markBit == 0:
		return int(kind)
	}
	return -1
}

// refsOf is how many references an object has, if it is one whose header's word it is; else 0.
func refsOf(w uint64) int {
	if kindOf(w) < 2 {
		return 0
	}
	return int(w >> 11 & 127)
}

// What a header's word tells, as the layer shade counts.
const (
	none = iota
	white
	grey
	black
)

// tells is what a word tells in a cycle of a colour, by the bits alone.
func tells(w uint64, colour uint8) int {
	switch {
	case colour > 1 || kindOf(w) != 3:
		return none
	case w/colourBit%2 != uint64(colour):
		return white
	case w&greyBit != 0:
		return grey
	}
	return black
}

// shaded, blackened: what a word is behind the shading of its object, and behind its blackening.
func shaded(w uint64, colour uint8) uint64 {
	if tells(w, colour) != white {
		return w
	}
	return w ^ colourBit | greyBit
}

func blackened(w uint64) uint64 {
	if kindOf(w) != 3 {
		return w
	}
	return w &^ greyBit
}

// head is the word of a header without colour, grey or marked.
func head(kind uint64, owner int, refs, size uint64) uint64 {
	return kind + 32*uint64(owner) + refs<<11 + size<<18
}

// global is the word of a Global object's header of any owner, that tells that in a cycle of a colour.
func global(tell int, colour uint8, refs, size uint64) uint64 {
	w := head(3, int(5*refs+size)%64, refs, size) + colourBit*uint64(colour)
	switch tell {
	case white:
		return w ^ colourBit
	case grey:
		return w + greyBit
	}
	return w
}

// small, large: the words of entries.
func small(class, owner int) uint64 { return 1 + 8*uint64(class) + 128*uint64(owner) }
func large(run, owner int) uint64   { return 2 + 32*uint64(run) + 128*uint64(owner) }

// The kinds of touches; told is none, but that the walk told of a header.
const (
	read = iota
	write
	update
	told
)

// act is a touch that was done: of what kind, where, what the word was, and what it is; or what was told: the place, the block, that one's entry as a word, and the header's word.
type act struct {
	kind, at int
	was, is  uint64
	block    int
}

// texts are acts as text, one behind the other: of each its kind and its place alone.
func texts(l []act) string {
	var b []byte
	for i, a := range l {
		if i > 0 {
			b = append(b, ' ')
		}
		b = strconv.AppendInt(append(b, "rwut"[a.kind]), int64(a.at), 10)
	}
	return string(b)
}

// plain is a memory.
type plain []uint64

func (m plain) Read(at int) uint64 {
	return m.Update(at, func(v uint64) uint64 { return v })
}

func (m plain) Write(at int, v uint64) {
	m.Update(at, func(uint64) uint64 { return v })
}

func (m plain) Update(at int, f func(v uint64) uint64) uint64 {
	if at < 0 || at >= len(m) {
		return 0
	}
	was := m[at]
	m[at] = f(was)
	return was
}

// tape is a memory that keeps what was done to it, and what was told.
type tape struct {
	words plain
	acts  []act
}

// newTape is one over words of its own.
func newTape(words []uint64) *tape { return &tape{words: slices.Clone(words)} }

func (m *tape) Read(at int) uint64 {
	return m.touch(read, at, func(v uint64) uint64 { return v })
}

func (m *tape) Write(at int, v uint64) {
	m.touch(write, at, func(uint64) uint64 { return v })
}

func (m *tape) Update(at int, f func(v uint64) uint64) uint64 {
	return m.touch(update, at, f)
}

func (m *tape) touch(kind, at int, f func(v uint64) uint64) uint64 {
	was := m.words.Update(at, f)
	m.acts = append(m.acts, act{kind: kind, at: at, was: was, is: m.words.Read(at)})
	return was
}

// tell keeps what was told, with the entry as a word.
func (m *tape) tell(at, block int, entry, w uint64) {
	m.acts = append(m.acts, act{kind: told, at: at, was: entry, is: w, block: block})
}

// asWord is the word of an entry, whatever it is.
func asWord(e table.Entry) uint64 {
	return uint64(e.Kind) + 8*uint64(e.Class) + 32*uint64(e.Run) + 128*uint64(e.Owner)
}

// plan is how many there are of each thing in an arena, and the layout of that.
type plan struct {
	threads, globals, blocks int
	l                        layout.Layout
}

// lay lays an arena out in which so many blocks go in, and no word is left.
func lay(t *testing.T, threads, globals, blocks int) plan {
	t.Helper()
	l, e := layout.New(3+threads+globals+33*blocks, threads, globals)
	if e != api.OK || l.Blocks() != blocks {
		t.Fatalf("a layout of %d threads, %d global roots: %d blocks, %d; want %d", threads, globals, l.Blocks(), e, blocks)
	}
	return plan{threads, globals, blocks, l}
}

// root, entry, start: the places of a global root, a block's entry and its first word, counted by hand.
func (p plan) root(g int) int      { return 3 + p.threads + g }
func (p plan) entry(block int) int { return 3 + p.threads + p.globals + block }
func (p plan) start(block int) int { return 3 + p.threads + p.globals + p.blocks + 32*block }

// words are how many words all of it has.
func (p plan) words() int { return 3 + p.threads + p.globals + 33*p.blocks }

// cells are where the headers of a block lie, by the word of its entry.
func (p plan) cells(block int, entry uint64) []int {
	var l []int
	at, owner := p.start(block), int(entry>>7)
	if owner > 63 {
		return nil
	}
	for class, words := range []int{2, 3, 5, 9} {
		for i := 0; entry == small(class, owner) && i+words <= 32; i += words {
			l = append(l, at+i)
		}
	}
	for run := 1; run <= 3; run++ {
		if entry == large(run, owner) {
			l = append(l, at)
		}
	}
	return l
}

// model walks, shades global roots and passes as the chapter says, by the numbers of words alone.
type model struct {
	m      api.Mem
	p      plan
	colour uint8
}

func (o model) walk(do func(at, block int, entry, w uint64)) {
	for block := range o.p.blocks {
		entry := o.m.Read(o.p.entry(block))
		for _, at := range o.p.cells(block, entry) {
			do(at, block, entry, o.m.Read(at))
		}
	}
}

func (o model) shade(at uint64) {
	if at == 0 || o.colour > 1 || tells(o.m.Read(int(at)), o.colour) != white {
		return
	}
	o.m.Update(int(at), func(w uint64) uint64 { return shaded(w, o.colour) })
}

func (o model) roots() {
	for g := range o.p.globals {
		o.shade(o.m.Read(o.p.root(g)))
	}
}

func (o model) pass() bool {
	met := false
	o.walk(func(at, block int, entry, w uint64) {
		if tells(w, o.colour) != grey {
			return
		}
		met = true
		for i := range refsOf(w) {
			o.shade(o.m.Read(at + 1 + i))
		}
		o.m.Update(at, blackened)
	})
	return met
}

// The calls.
const (
	walks = iota
	rooting
	passing
)

// call is one of the calls, by the program, over a memory, and behind it tell is what is told; and whether there was a grey object.
func call(which int, m api.Mem, p plan, colour uint8, tell func(at, block int, entry, w uint64)) bool {
	switch which {
	case walks:
		Walk(m, p.l, func(at, block int, e table.Entry, w uint64) { tell(at, block, asWord(e), w) })
	case rooting:
		Roots(m, p.l, colour)
	case passing:
		return Pass(m, p.l, colour)
	}
	return false
}

// by is the same call, by the model.
func by(which int, m api.Mem, p plan, colour uint8, tell func(at, block int, entry, w uint64)) bool {
	o := model{m, p, colour}
	switch which {
	case walks:
		o.walk(tell)
	case rooting:
		o.roots()
	case passing:
		return o.pass()
	}
	return false
}

// given is what a call is given.
type given struct {
	p      plan
	colour uint8
	words  []uint64
}

// play does a call, and holds each touch, what is told in between, what is left, and the answer against the model.
func (g given) play(t *testing.T, which int) (*tape, bool) {
	t.Helper()
	m, want := newTape(g.words), newTape(g.words)
	is := call(which, m, g.p, g.colour, m.tell)
	met := by(which, want, g.p, g.colour, want.tell)
	if is != met || !slices.Equal(m.acts, want.acts) {
		t.Fatalf("the call %d, colour %d, of %v: %v, %s; want %v, %s", which, g.colour, g.words, is, texts(m.acts), met, texts(want.acts))
	}
	if !slices.Equal(m.words, want.words) {
		t.Fatalf("the call %d, colour %d, of %v: left %v; want %v", which, g.colour, g.words, m.words, want.words)
	}
	return m, is
}

// objects are the places of all objects that a walk meets, rising.
func (g given) objects() []int {
	var l []int
	for block := range g.p.blocks {
		for _, at := range g.p.cells(block, plain(g.words).Read(g.p.entry(block))) {
			if kindOf(g.words[at]) >= 2 {
				l = append(l, at)
			}
		}
	}
	return l
}

// end is what words are when passes are over: what is grey, or is reached from there by white objects, is black; found by looking again and again for one more.
func (g given) end() []uint64 {
	l, found := g.objects(), map[int]bool{}
	for _, at := range l {
		found[at] = tells(g.words[at], g.colour) == grey
	}
	for more := true; more; {
		more = false
		for _, at := range l {
			for i := 1; found[at] && i <= refsOf(g.words[at]); i++ {
				to := int(g.words[at+i])
				if !found[to] && to != 0 && tells(g.words[to], g.colour) == white {
					found[to], more = true, true
				}
			}
		}
	}
	words := slices.Clone(g.words)
	for at := range found {
		if found[at] {
			words[at] = words[at]&^(colourBit|greyBit) | colourBit*uint64(g.colour)
		}
	}
	return words
}

// follows passes till nothing is grey, each pass against the model, holds what is left then against what follows, and answers how many passes met something grey.
func (g given) follows(t *testing.T) int {
	t.Helper()
	l, want, first := g.objects(), g.end(), g.words
	n := 0
	for {
		m, met := g.play(t, passing)
		g.words = m.words
		if !met {
			break
		}
		if n++; n > len(l) {
			t.Fatalf("colour %d, of %v: grey in more passes than there are objects, %d", g.colour, first, len(l))
		}
	}
	if !slices.Equal(g.words, want) {
		t.Fatalf("colour %d, of %v: left %v; want %v", g.colour, first, g.words, want)
	}
	for _, at := range l {
		if tells(g.words[at], g.colour) == grey {
			t.Fatalf("colour %d, of %v: %d is grey still", g.colour, first, at)
		}
		for i := 1; tells(g.words[at], g.colour) == black && tells(first[at], g.colour) != black && i <= refsOf(g.words[at]); i++ {
			if to := int(g.words[at+i]); to != 0 && tells(g.words[to], g.colour) == white {
				t.Fatalf("colour %d, of %v: the black one at %d leads to the white one at %d", g.colour, first, at, to)
			}
		}
	}
	return n
}

// some answers what picks numbers, below another one, that look as if by chance.
func some(seed uint64) func(below int) int {
	next := seed
	return func(below int) int {
		next = next*6364136223846793005 + 1442695040888963407
		return int(next >> 33 % uint64(below))
	}
}
