package answer

import (
	"slices"
	"strconv"
	"strings"
	"testing"

	"demesne/access"
	"demesne/api"
	"demesne/layout"
	"demesne/list"
	"demesne/mark"
	"demesne/shade"
	"demesne/sweep"
)

// The bits of a header's word, as the layer word tells them.
const (
	colourBit = 4
	greyBit   = 8
	markBit   = 16
)

// kindOfHeader tells by the bits alone, without the layer word, of what kind a header is whose word it is, from Free's 0 on; or -1, if it is none's.
func kindOfHeader(w uint64) int {
	kind, refs, size := w&3, w>>11&127, w>>18
	switch {
	case kind <= 1 && w&^(3|63*32) == 0:
		return int(kind)
	case refs > size || size > 95:
		return -1
	case kind == 2 && w&(colourBit|greyBit) == 0, kind == 3 && w&markBit == 0:
		return int(kind)
	}
	return -1
}

// refsOf is how many references an object has, if it is one whose header's word it is; else 0.
func refsOf(w uint64) int {
	if kindOfHeader(w) < 2 {
		return 0
	}
	return int(w >> 11 & 127)
}

// owns tells whether a word is the header's of a Local object of an owner.
func owns(owner int, w uint64) bool { return kindOfHeader(w) == 2 && int(w>>5&63) == owner }

// white, black tell what a word is in the cycle of a colour, if it is a Global object's header.
func white(w uint64, colour uint8) bool {
	return kindOfHeader(w) == 3 && uint8(w>>2&1) != colour
}
func black(w uint64, colour uint8) bool {
	return kindOfHeader(w) == 3 && uint8(w>>2&1) == colour && w&greyBit == 0
}

// head is the word of a header without colour, grey or marked.
func head(kind uint64, owner int, refs, size uint64) uint64 {
	return kind + 32*uint64(owner) + refs<<11 + size<<18
}

// free, listed: the words of headers without an object.
func free(owner int) uint64   { return 32 * uint64(owner) }
func listed(owner int) uint64 { return 1 + 32*uint64(owner) }

// small, large, emptied, spent: the words of entries.
func small(class, owner int) uint64 { return 1 + 8*uint64(class) + 128*uint64(owner) }
func large(run, owner int) uint64   { return 2 + 32*uint64(run) + 128*uint64(owner) }
func emptied(owner int) uint64      { return 4 + 128*uint64(owner) }
func spent(run, owner int) uint64   { return 5 + 32*uint64(run) + 128*uint64(owner) }

// tail is the word of an entry of a large object's blocks but the first one.
const tail = 3

// cellWords are how many words cells of each class have.
func cellWords() [4]int { return [4]int{2, 3, 5, 9} }

// The kinds of acts: touches; and the point, which is none.
const (
	read = iota
	write
	update
	point
)

// act is a touch that was done: of what kind, where, what the word was, and what it is; and what the thread had ahead of it, or at the point.
type act struct {
	kind, at int
	was, is  uint64
	state
}

// state is what a thread has by itself, as text: its status, colour and flag, and all else.
type state struct{ brief, own string }

// texts are acts as text, one behind the other; with what the thread was, where that is another than it was told last.
func texts(l []act, end state) string {
	var s []string
	last := ""
	for _, a := range append(slices.Clone(l), act{kind: -1, state: end}) {
		if a.brief != last {
			s, last = append(s, a.brief), a.brief
		}
		switch a.kind {
		case -1:
		case point:
			s = append(s, ".")
		default:
			s = append(s, "rwu"[a.kind:a.kind+1]+strconv.Itoa(a.at))
		}
	}
	return strings.Join(s, " ")
}

// briefly is R, P, or S, by the status, the colour, and a mark of exclamation, if the flag is up.
func briefly(status, colour uint8, flag bool) string {
	brief := strconv.Itoa(int(status))
	if status < 3 {
		brief = "RPS"[status : status+1]
	}
	brief += strconv.Itoa(int(colour))
	if flag {
		brief += "!"
	}
	return brief
}

// stateOf is what a thread has.
func stateOf(th *access.Thread) state {
	var own []byte
	r := rowsOf(th.Free)
	for _, l := range [][]int{slotsOf(th), th.Roots.Stack(), th.Held, th.Work, r[0], r[1], r[2], r[3]} {
		for _, n := range l {
			own = strconv.AppendInt(append(own, ' '), int64(n), 10)
		}
		own = append(own, '/')
	}
	return state{briefly(th.Status, th.Colour, th.Flag), string(own)}
}

// slotsOf are the references of a thread's slots.
func slotsOf(th *access.Thread) []int {
	var slots []int
	for i := range th.Roots.Slots() {
		at, _ := th.Roots.Get(i)
		slots = append(slots, at)
	}
	return slots
}

// plain is a memory.
type plain []uint64

func (m plain) Read(at int) uint64 {
	return m.Update(at, func(v uint64) uint64 { return v })
}

func (m plain) Write(at int, v uint64) {
	m.Update(at, func(uint64) uint64 { return v })
}

func (m plain) Update(at int, f func(v uint64) uint64) uint64 {
	if at < 0 || at >= len(m) {
		return 0
	}
	was := m[at]
	m[at] = f(was)
	return was
}

// tape is a memory that keeps what was done to it, and what a thread had ahead of each touch, if there is one. Ahead of that others may change its words.
type tape struct {
	words  plain
	acts   []act
	state  func() state
	others func(n int, words plain)
}

// newTape is one over words of its own.
func newTape(words []uint64) *tape { return &tape{words: slices.Clone(words)} }

func (m *tape) Read(at int) uint64 {
	return m.touch(read, at, func(v uint64) uint64 { return v })
}

func (m *tape) Write(at int, v uint64) {
	m.touch(write, at, func(uint64) uint64 { return v })
}

func (m *tape) Update(at int, f func(v uint64) uint64) uint64 {
	return m.touch(update, at, f)
}

func (m *tape) touch(kind, at int, f func(v uint64) uint64) uint64 {
	a := act{kind: kind, at: at}
	if m.state != nil {
		a.state = m.state()
	}
	if m.others != nil {
		m.others(len(m.acts), m.words)
	}
	a.was = m.words.Update(at, f)
	a.is = m.words.Read(at)
	m.acts = append(m.acts, a)
	return a.was
}

// point keeps that the point was told.
func (m *tape) point() {
	a := act{kind: point}
	if m.state != nil {
		a.state = m.state()
	}
	m.acts = append(m.acts, a)
}

// rows are the places of a list, by classes, the first one first.
type rows [4][]int

// alike tells whether rows have the same places in the same order.
func (r rows) alike(o rows) bool { return slices.EqualFunc(r[:], o[:], slices.Equal[[]int]) }

// has tells whether a place is there, of any class.
func (r rows) has(at int) bool {
	return slices.ContainsFunc(r[:], func(row []int) bool { return slices.Contains(row, at) })
}

// rowsOf are the places that a list has.
func rowsOf(l *list.List) rows { return rows{l.All(0), l.All(1), l.All(2), l.All(3)} }

// plan is how many there are of each thing in an arena, and the layout of that.
type plan struct {
	threads, globals, blocks int
	l                        layout.Layout
}

// lay lays an arena out in which so many blocks go in, and no word is left.
func lay(t *testing.T, threads, globals, blocks int) plan {
	t.Helper()
	l, e := layout.New(3+threads+globals+33*blocks, threads, globals)
	if e != api.OK || l.Blocks() != blocks {
		t.Fatalf("a layout of %d threads, %d global roots: %d blocks, %d; want %d", threads, globals, l.Blocks(), e, blocks)
	}
	return plan{threads, globals, blocks, l}
}

// answer, global, entry, start: the places of a thread's answer, a global root, a block's entry and its first word, counted by hand.
func (p plan) answer(id int) int   { return 3 + id }
func (p plan) global(g int) int    { return 3 + p.threads + g }
func (p plan) entry(block int) int { return 3 + p.threads + p.globals + block }
func (p plan) start(block int) int { return 3 + p.threads + p.globals + p.blocks + 32*block }

// words are how many words all of it has.
func (p plan) words() int { return 3 + p.threads + p.globals + 33*p.blocks }

// cells are where the headers of a block lie, by the block's entry, whoever is its owner.
func (p plan) cells(block int, entry uint64) []int {
	if entry%8 == 2 {
		return []int{p.start(block)}
	}
	var l []int
	for class, words := range cellWords() {
		for i := 0; entry%8 == 1 && entry/8%4 == uint64(class) && i+words <= 32; i += words {
			l = append(l, p.start(block)+i)
		}
	}
	return l
}

// model answers, and collects, as the chapter says, by the numbers of words; marking, sweeping and shading are those of their layers.
type model struct {
	th   *access.Thread
	room int
}

// collect collects, and has the point told.
func (o model) collect() {
	phase := o.th.M.Read(1)
	o.take(phase > 2, nil)
	if o.th.Point != nil {
		o.th.Point()
	}
}

// take marks from the roots, and sweeps.
func (o model) take(walks bool, tell func(at int)) {
	th := o.th
	from := slices.DeleteFunc(append(slotsOf(th), th.Roots.Stack()...), func(at int) bool { return at == 0 })
	mark.Marker{M: th.M, L: th.L, Owner: th.ID, Room: o.room, Global: tell}.Mark(from)
	sweep.Sweep(th.M, th.L, th.ID, th.Free, walks)
}

// answer answers.
func (o model) answer() {
	th := o.th
	request := th.M.Read(2)
	kind, at, is := request%8, 3+int(th.ID), request/8*2
	if kind == 1 || kind == 2 {
		th.Status = uint8(kind)
		th.M.Write(at, is)
	}
	if kind == 3 {
		other := th.Colour ^ 1
		o.take(false, func(at int) { th.Flag = shade.Shade(th.M, at, other) || th.Flag })
		th.M.Write(at, is)
		th.Status, th.Colour = 0, other
	}
	if kind == 4 && th.Flag {
		is++
	}
	if kind == 4 {
		th.M.Write(at, is)
		th.Flag = false
	}
}

// given is a thread, as it is ahead of a call, and the room that is handed in.
type given struct {
	p              plan
	id             int
	words          []uint64
	slots, stack   []int
	free           rows
	status, colour uint8
	flag           bool
	room           int
	others         func(n int, words plain) // what others write ahead of each touch
}

// thread makes the thread, over a memory that keeps what it does.
func (g given) thread(t *testing.T, m *tape) *access.Thread {
	t.Helper()
	th, e := access.New(m, g.p.l, uint8(g.id), len(g.slots))
	if e != api.OK {
		t.Fatalf("a thread %d of %d slots: %d", g.id, len(g.slots), e)
	}
	for _, at := range g.stack {
		th.Roots.Set(0, at)
		th.Roots.Push(0)
	}
	for slot, at := range g.slots {
		th.Roots.Set(slot, at)
	}
	for class, row := range g.free {
		for _, at := range slices.Backward(row) {
			th.Free.Push(class, at)
		}
	}
	th.Status, th.Colour, th.Flag = g.status, g.colour, g.flag
	m.state = func() state { return stateOf(th) }
	m.others = g.others
	th.Point = m.point
	return th
}

// play collects, or answers, and holds each touch, what the thread had ahead of it, and all that is left, against the model.
func (g given) play(t *testing.T, answers bool) (*tape, *access.Thread) {
	t.Helper()
	m, want := newTape(g.words), newTape(g.words)
	th, o := g.thread(t, m), model{g.thread(t, want), g.room}
	e, name := api.OK, "Collect"
	if answers {
		o.answer()
		e, name = Answer(th, g.room), "Answer"
	} else {
		o.collect()
		e = Collect(th, g.room)
	}
	if e != api.OK {
		t.Fatalf("%s, thread %d, room %d: %d", name, g.id, g.room, e)
	}
	is, end := stateOf(th), stateOf(o.th)
	if !slices.Equal(m.acts, want.acts) || is != end {
		t.Fatalf("%s, thread %d, of %v, the roots %v, %v, room %d: %s, then %v; want %s, then %v",
			name, g.id, g.words, g.slots, g.stack, g.room, texts(m.acts, is), is, texts(want.acts, end), end)
	}
	if !slices.Equal(m.words, want.words) {
		t.Fatalf("%s, thread %d, of %v, the roots %v, %v, room %d: left %v; want %v", name, g.id, g.words, g.slots, g.stack, g.room, m.words, want.words)
	}
	return m, th
}

// reached are the places of a thread's Local objects that places, or they, lead to, found by looking again and again for one more; and of the Global ones.
func reached(words plain, id int, from []int) (own, shared map[int]bool) {
	own, shared = map[int]bool{}, map[int]bool{}
	meet := func(at int) {
		if w := words.Read(at); at != 0 && owns(id, w) {
			own[at] = true
		} else if at != 0 && kindOfHeader(w) == 3 {
			shared[at] = true
		}
	}
	for _, at := range from {
		meet(at)
	}
	for n := -1; n != len(own); {
		n = len(own)
		for at, w := range words {
			for i := 1; own[at] && i <= refsOf(w); i++ {
				meet(int(words.Read(at + i)))
			}
		}
	}
	return own, shared
}

// settle lays into words what a sweep of a thread's blocks leaves there, if just these of its Local objects are reached; and answers which blocks are given back, or wait.
func (p plan) settle(words plain, id int, own map[int]bool, walks bool) (gone map[int]bool) {
	gone = map[int]bool{}
	for block := range p.blocks {
		entry, run := p.entry(block), 0
		was := words[entry]
		if was>>7 != uint64(id) {
			continue
		}
		left := 0
		for _, at := range p.cells(block, was) {
			isOwn := owns(id, words[at])
			switch {
			case isOwn && own[at]:
				left++
			case was%8 == 2 && isOwn:
				words[at] = free(id)
			case was%8 == 1 && (isOwn || kindOfHeader(words[at]) == 0):
				words[at] = listed(id)
			case was%8 == 2 || kindOfHeader(words[at]) != 1:
				left++
			}
		}
		switch was % 8 {
		case 1, 2:
			if left == 0 {
				run, words[entry] = 1, emptied(id)
			}
			if left == 0 && was%8 == 2 {
				run = int(was >> 5 & 3)
				words[entry] = spent(run, id)
			}
		case 4:
			run = 1
		case 5:
			run = int(was >> 5 & 3)
		}
		for i := range run {
			gone[block+i] = true
			if !walks {
				words[p.entry(block+i)] = 0
				words[0] |= 1 << (block + i)
			}
		}
	}
	return gone
}

// from are the thread's references.
func (g given) from() []int { return slices.Concat(g.slots, g.stack) }

// follows holds what follows of a Collect, or an answer to AskSnap, while nobody else did anything, and nothing was marked ahead, by a plain look at the words behind it.
func (g given) follows(t *testing.T, m *tape, th *access.Thread, answered bool) {
	t.Helper()
	own, shared := reached(g.words, g.id, g.from())
	want := plain(slices.Clone(g.words))
	gone := g.p.settle(want, g.id, own, !answered && g.words[1] > 2)
	brief := briefly(g.status, g.colour, g.flag)
	if answered {
		colour := 1 - g.colour
		want[g.p.answer(g.id)] = g.words[2] >> 3 << 1
		flag := g.flag
		for at := range shared {
			flag = flag || !black(want[at], colour)
			if white(want[at], colour) {
				want[at] = want[at]&^colourBit | uint64(colour)<<2 | greyBit
			}
			if white(m.words[at], colour) {
				t.Fatalf("thread %d, of %v: the object at %d is white in the colour %d", g.id, g.words, at, colour)
			}
		}
		brief = briefly(0, colour, flag)
	}
	if !slices.Equal(m.words, want) {
		t.Fatalf("thread %d, of %v, the roots %v, %v, room %d, reached %v: left %v; want %v", g.id, g.words, g.slots, g.stack, g.room, own, m.words, want)
	}
	if is := stateOf(th); is.brief != brief || !slices.Equal(slotsOf(th), g.slots) || !slices.Equal(th.Roots.Stack(), g.stack) || len(th.Held)+len(th.Work) != 0 {
		t.Fatalf("thread %d, of %v: it has %v; want %s, the roots %v, %v", g.id, g.words, is, brief, g.slots, g.stack)
	}
	g.lists(t, m.words, rowsOf(th.Free), gone)
	own, now := reached(m.words, g.id, g.from())
	for at := range own {
		if block := (at - g.p.start(0)) / 32; at >= g.p.start(0) && gone[block] {
			t.Fatalf("thread %d, of %v: the block %d is gone, of the object at %d", g.id, g.words, block, at)
		}
	}
	for at := range shared {
		if !now[at] {
			t.Fatalf("thread %d, of %v: the Global object at %d is not reached", g.id, g.words, at)
		}
	}
}

// lists holds that the list has what it had, and what is Listed by now, but for what lies in blocks that are gone, each once.
func (g given) lists(t *testing.T, words plain, r rows, gone map[int]bool) {
	t.Helper()
	all := slices.Concat(r[:]...)
	slices.Sort(all)
	if n := len(all); len(slices.Compact(all)) != n {
		t.Fatalf("thread %d, of %v: the list is %v", g.id, g.words, r)
	}
	for at := g.p.start(0); at < g.p.words(); at++ {
		on := g.free.has(at) || words[at] != g.words[at] && words[at] == listed(g.id)
		if gone[(at-g.p.start(0))/32] {
			on = false
		}
		if on != r.has(at) {
			t.Fatalf("thread %d, of %v, the list %v: the list is %v; of %d that should be %v", g.id, g.words, g.free, r, at, on)
		}
	}
}

// mine tells whether a touch of a thread that collects, or answers, may change what it changed: its own headers, metadata, its answer, and the colour of what is shared.
func (p plan) mine(words plain, id int, a act) bool {
	if a.kind == point || a.was == a.is {
		return true
	}
	switch {
	case a.at == 0 || a.at == p.answer(id):
		return true
	case a.at < p.entry(0):
		return false
	case a.at < p.start(0):
		return a.was>>7 == uint64(id) || a.was == tail
	case kindOfHeader(a.was) == 3:
		return (a.was^a.is)&^(colourBit|greyBit) == 0
	}
	block := (a.at - p.start(0)) / 32
	entry := words.Read(p.entry(block))
	return entry>>7 == uint64(id) && (owns(id, a.was) || kindOfHeader(a.was) == 0) && slices.Contains(p.cells(block, entry), a.at)
}

// some answers what tells any numbers, the same ones each time.
func some(seed uint64) func(below int) int {
	next := seed
	return func(below int) int {
		next = next*6364136223846793005 + 1442695040888963407
		return int(next >> 33 % uint64(below))
	}
}
