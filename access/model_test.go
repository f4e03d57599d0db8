package access

import (
	"slices"
	"strconv"
	"strings"
	"testing"

	"demesne/alloc"
	"demesne/api"
	"demesne/layout"
	"demesne/list"
	"demesne/publish"
	"demesne/script"
	"demesne/shade"
)

// The bits of a header's word, as the layer word tells them.
const (
	colourBit = 4
	greyBit   = 8
	markBit   = 16
)

// kindOf tells by the bits alone, without the layer word, of what kind a header is whose word it is, from Free's 0 on; or -1, if it is none's.
func kindOf(w uint64) int {
	kind, refs, size := w&3, w>>11&127, w>>18
	switch {
	case kind <= 1 && w&^(3|63*32) == 0:
		return int(kind)
	case refs > size || size > 95:
		return -1
	case kind == 2 && w&(colourBit|greyBit) == 0, kind == 3 && w&markBit == 0:
		return int(kind)
	}
	return -1
}

// fieldsOf are how many references, and how many data, an object has, if it is one whose header's word it is.
func fieldsOf(w uint64) (refs, data int) {
	if kindOf(w) < 2 {
		return 0, 0
	}
	refs = int(w >> 11 & 127)
	return refs, int(w>>18&127) - refs
}

// head is the word of a header without colour, grey or marked, of the owner 0.
func head(kind, refs, size uint64) uint64 { return kind + refs<<11 + size<<18 }

// The kinds of marks: touches; and the point, which is none.
const (
	read = iota
	write
	update
	point
)

// mark is a touch that was done: of what kind, where, what the word was, and what it is; and what the thread had ahead of it, or at the point.
type mark struct {
	kind, at int
	was, is  uint64
	state
}

// state is what a thread has by itself, as text: what an operation has, and all else.
type state struct{ brief, own string }

// text is a mark as text, without the words.
func (k mark) text() string {
	if k.kind == point {
		return "."
	}
	return k.brief + "rwu"[k.kind:k.kind+1] + strconv.Itoa(k.at)
}

// texts are marks as text, one behind the other.
func texts(l []mark) string {
	var s []string
	for _, k := range l {
		s = append(s, k.text())
	}
	return strings.Join(s, " ")
}

// briefly tells what is held in round brackets, a worklist in square ones, and a flag that is up as a mark of exclamation; but nothing of what is not there.
func briefly(held, work []int, flag bool) string {
	var b []byte
	if len(held) > 0 {
		b = append(numbers(append(b, '('), held), ')')
	}
	if len(work) > 0 {
		b = append(numbers(append(b, '['), work), ']')
	}
	if flag {
		b = append(b, '!')
	}
	return string(b)
}

// numbers are numbers as text, behind another one.
func numbers(b []byte, l []int) []byte {
	for i, n := range l {
		if i > 0 {
			b = append(b, ' ')
		}
		b = strconv.AppendInt(b, int64(n), 10)
	}
	return b
}

// plain is a memory.
type plain []uint64

func (m plain) Read(at int) uint64 {
	return m.Update(at, func(v uint64) uint64 { return v })
}

func (m plain) Write(at int, v uint64) {
	m.Update(at, func(uint64) uint64 { return v })
}

func (m plain) Update(at int, f func(v uint64) uint64) uint64 {
	if at < 0 || at >= len(m) {
		return 0
	}
	was := m[at]
	m[at] = f(was)
	return was
}

// tape is a memory that keeps what was done to it. Ahead of each touch others may change its words; behind it, but still in it, it may be looked at.
type tape struct {
	words  plain
	marks  []mark
	state  func() state
	others func(words plain)
	behind func()
}

// newTape is one over words of its own.
func newTape(words ...uint64) *tape { return &tape{words: slices.Clone(words)} }

func (m *tape) Read(at int) uint64 {
	return m.touch(read, at, func(v uint64) uint64 { return v })
}

func (m *tape) Write(at int, v uint64) {
	m.touch(write, at, func(uint64) uint64 { return v })
}

func (m *tape) Update(at int, f func(v uint64) uint64) uint64 {
	return m.touch(update, at, f)
}

func (m *tape) touch(kind, at int, f func(v uint64) uint64) uint64 {
	k := mark{kind: kind, at: at}
	if m.state != nil {
		k.state = m.state()
	}
	if m.others != nil {
		m.others(m.words)
	}
	k.was = m.words.Update(at, f)
	k.is = m.words.Read(at)
	m.marks = append(m.marks, k)
	if m.behind != nil {
		m.behind()
	}
	return k.was
}

// point keeps that the point was told.
func (m *tape) point() {
	k := mark{kind: point}
	if m.state != nil {
		k.state = m.state()
	}
	m.marks = append(m.marks, k)
}

// plan is how many there are of each thing in an arena, and the layout of that.
type plan struct {
	threads, globals, blocks int
	l                        layout.Layout
}

// lay lays an arena out in which so many blocks go in, and no word is left.
func lay(t *testing.T, threads, globals, blocks int) plan {
	t.Helper()
	l, e := layout.New(3+threads+globals+33*blocks, threads, globals)
	if e != api.OK || l.Blocks() != blocks {
		t.Fatalf("a layout of %d threads, %d global roots: %d blocks, %d; want %d", threads, globals, l.Blocks(), e, blocks)
	}
	return plan{threads, globals, blocks, l}
}

// global is the place of a global root, counted by hand.
func (p plan) global(g int) int { return 3 + p.threads + g }

// start is the place of a block's first word, counted by hand.
func (p plan) start(block int) int { return 3 + p.threads + p.globals + p.blocks + 32*block }

// words are those of an arena of which all blocks are free.
func (p plan) words() plain {
	words := make(plain, 3+p.threads+p.globals+33*p.blocks)
	for i := range p.blocks {
		words[0] |= 1 << i
	}
	return words
}

// some answers what tells any numbers, the same ones each time.
func some(seed uint64) func(below int) int {
	next := seed
	return func(below int) int {
		next = next*6364136223846793005 + 1442695040888963407
		return int(next >> 33 % uint64(below))
	}
}

// model does operations as the chapter says, by the numbers of words.
type model struct {
	m              api.Mem
	p              plan
	id             int
	slots, stack   []int
	free           *list.List
	status, colour uint8
	flag           bool
	work, held     []int
	point          func()
}

// state is what it has.
func (o *model) state() state { return told(o.slots, o.stack, o.free, o.held, o.work, o.flag) }

// stateOf is what a thread has.
func stateOf(th *Thread) state {
	return told(slotsOf(th), th.Roots.Stack(), th.Free, th.Held, th.Work, th.Flag)
}

// slotsOf are the references of a thread's slots.
func slotsOf(th *Thread) []int {
	var slots []int
	for i := range th.Roots.Slots() {
		at, _ := th.Roots.Get(i)
		slots = append(slots, at)
	}
	return slots
}

// told is a state of these.
func told(slots, stack []int, free *list.List, held, work []int, flag bool) state {
	var own []byte
	for _, l := range [][]int{slots, stack, free.All(0), free.All(1), free.All(2), free.All(3)} {
		own = append(numbers(own, l), '/')
	}
	return state{briefly(held, work, flag), string(own)}
}

// form is what the arguments of an operation are: s a slot, o one whose object is wanted, g a global root, r the number of a reference of that object, d that of a datum, n a number.
func form(do uint8) string {
	if do < 1 || do > 11 {
		return ""
	}
	return []string{"snn", "sor", "ors", "od", "odn", "sg", "gs", "ss", "s", "s", "s"}[do-1]
}

// argument is the argument that is of that kind, if there is one.
func argument(op script.Op, kind string) int {
	return [4]int{0, int(op.A), int(op.B), int(op.C)}[strings.Index(form(op.Do), kind)+1]
}

// has tells where the field lies that an operation wants, of an object at a place whose header's word that is; or -1.
func has(op script.Op, at int, w uint64) int {
	refs, data := fieldsOf(w)
	if strings.Contains(form(op.Do), "d") {
		if i := argument(op, "d"); i < data {
			return at + 1 + refs + i
		}
	} else if i := argument(op, "r"); i < refs {
		return at + 1 + i
	}
	return -1
}

// wrong is why an operation may not be handed to it.
func (o *model) wrong(op script.Op, peek func(at int) uint64) api.Errno {
	form, wants := form(op.Do), -1
	if form == "" {
		return api.ErrForm
	}
	for i, n := range []int{int(op.A), int(op.B), int(op.C)}[:len(form)] {
		switch form[i] {
		case 'o':
			wants = n
			fallthrough
		case 's':
			if n >= len(o.slots) {
				return api.ErrArg
			}
		case 'g':
			if n >= o.p.globals {
				return api.ErrArg
			}
		}
	}
	switch {
	case o.id >= o.p.threads, op.Do == 1 && (op.B > op.C || op.C > 95):
		return api.ErrArg
	case wants >= 0 && o.slots[wants] == 0, op.Do == 11 && len(o.stack) == 0:
		return api.ErrNone
	case wants >= 0 && peek != nil && has(op, 0, peek(o.slots[wants])) < 0:
		return api.ErrArg
	case op.Do == 10 && len(o.stack) == 16:
		return api.ErrFull
	}
	return api.OK
}

// do does an operation.
func (o *model) do(op script.Op) Result {
	if e := o.wrong(op, nil); e != api.OK {
		return Result{E: e}
	}
	a, b := int(op.A), int(op.B)
	switch op.Do {
	case 1:
		return o.alloc(a, b, int(op.C))
	case 6:
		return o.load(a, o.p.global(b))
	case 7:
		phase := o.m.Read(1)
		o.share(o.p.global(a), o.slots[b], phase)
		return Result{}
	case 8:
		o.slots[a] = o.slots[b]
	case 9:
		o.slots[a] = 0
	case 10:
		o.stack = append(o.stack, o.slots[a])
	case 11:
		top := len(o.stack) - 1
		o.slots[a], o.stack = o.stack[top], o.stack[:top]
	default:
		return o.field(op)
	}
	o.point()
	return Result{}
}

// alloc makes an object.
func (o *model) alloc(dst, refs, size int) Result {
	phase := o.m.Read(1)
	k := alloc.Maker{M: o.m, L: o.p.l, Owner: uint8(o.id), Free: o.free, Walks: phase > 2}
	k.Hold = func(at int) { o.held = []int{at} }
	at, e := k.Make(refs, size)
	if o.held = nil; e == api.OK {
		o.slots[dst] = at
	}
	o.point()
	return Result{e, at, 0}
}

// load gives a slot what a word has, if it may be a reference.
func (o *model) load(dst, at int) Result {
	to := int(o.m.Read(at))
	if to < 0 {
		return Result{E: api.ErrArg}
	}
	o.slots[dst] = to
	o.point()
	return Result{At: to}
}

// field does one that wants a field.
func (o *model) field(op script.Op) Result {
	var phase uint64
	if op.Do == 3 {
		phase = o.m.Read(1)
	}
	from := o.slots[argument(op, "o")]
	w := o.m.Read(from)
	at := has(op, from, w)
	switch {
	case at < 0:
		return Result{E: api.ErrArg}
	case op.Do == 2:
		return o.load(int(op.A), at)
	case op.Do == 3 && kindOf(w) == 3:
		o.share(at, o.slots[op.C], phase)
		return Result{}
	case op.Do == 3:
		o.m.Write(at, uint64(o.slots[op.C]))
	case op.Do == 4:
		v := o.m.Read(at)
		o.point()
		return Result{V: v}
	case op.Do == 5:
		o.m.Write(at, uint64(op.C))
	}
	o.point()
	return Result{}
}

// share writes a reference into a shared word.
func (o *model) share(at, to int, phase uint64) {
	if to != 0 {
		if kindOf(o.m.Read(to)) == 2 {
			publish.Publish(o.m, to, o.colour, &o.work)
		}
		if o.status == 2 {
			o.shade(to, o.colour^1)
		}
	}
	was := int(o.m.Update(at, func(w uint64) uint64 {
		if o.held = nil; w != 0 {
			o.held = []int{int(w)}
		}
		return uint64(to)
	}))
	o.point()
	if was != 0 && o.status == 2 {
		o.shade(was, o.colour^1)
	}
	if was != 0 && o.status == 0 && (phase == 3 || phase == 4 || phase == 5) {
		o.shade(was, o.colour)
	}
	o.held = nil
}

// shade shades an object.
func (o *model) shade(at int, colour uint8) {
	o.flag = shade.Shade(o.m, at, colour) || o.flag
}

// pair is a thread and its model, that do the same, each over words of its own.
type pair struct {
	p        plan
	th       *Thread
	o        *model
	is, want *tape
}

// newPair is one over the same words.
func newPair(t *testing.T, p plan, words plain, id uint8, slots int) *pair {
	t.Helper()
	x := &pair{p: p, is: newTape(words...), want: newTape(words...)}
	th, e := New(x.is, p.l, id, slots)
	if e != api.OK {
		t.Fatalf("a thread: %d", e)
	}
	x.th, th.Point = th, x.is.point
	x.o = &model{m: x.want, p: p, id: int(id), slots: make([]int, slots), free: list.New(), point: x.want.point}
	x.is.state = func() state { return stateOf(x.th) }
	x.want.state = x.o.state
	return x
}

// has gives the slots of both references, in order.
func (x *pair) has(slots ...int) *pair {
	for i, at := range slots {
		x.th.Roots.Set(i, at)
		x.o.slots[i] = at
	}
	return x
}

// in puts both into a status and a colour, with a flag.
func (x *pair) in(status, colour uint8, flag bool) *pair {
	x.th.Status, x.th.Colour, x.th.Flag = status, colour, flag
	x.o.status, x.o.colour, x.o.flag = status, colour, flag
	return x
}

// write writes a word of both, as others do.
func (x *pair) write(at int, v uint64) *pair {
	x.is.words.Write(at, v)
	x.want.words.Write(at, v)
	return x
}

// do does an operation with both, and holds all that came of it against the model.
func (x *pair) do(t *testing.T, op script.Op) Result {
	t.Helper()
	from := len(x.want.marks)
	ahead := stateOf(x.th)
	r, want := x.th.Do(op), x.o.do(op)
	if r != want {
		t.Fatalf("Do(%v) = %v; want %v", op, r, want)
	}
	if is, want := x.is.marks[from:], x.want.marks[from:]; !slices.Equal(is, want) {
		t.Fatalf("Do(%v), with %v: %v; want %v", op, ahead, is, want)
	}
	if is, want := stateOf(x.th), x.o.state(); is != want || x.th.Status != x.o.status || x.th.Colour != x.o.colour {
		t.Fatalf("behind Do(%v) the thread has %v, status %d, colour %d; want %v, %d, %d", op, is, x.th.Status, x.th.Colour, want, x.o.status, x.o.colour)
	}
	if !slices.Equal(x.is.words, x.want.words) {
		t.Fatalf("behind Do(%v) the words are %v; want %v", op, x.is.words, x.want.words)
	}
	return r
}

// check asks whether an operation may be, with and without peek, and holds the answers against the model, and that nothing came of it.
func (x *pair) check(t *testing.T, op script.Op) {
	t.Helper()
	n, ahead := len(x.is.marks), stateOf(x.th)
	var asked, wants []int
	e := x.th.Check(op, func(at int) uint64 {
		asked = append(asked, at)
		return x.is.words.Read(at)
	})
	want := x.o.wrong(op, func(at int) uint64 {
		wants = append(wants, at)
		return x.want.words.Read(at)
	})
	if e != want || !slices.Equal(asked, wants) {
		t.Fatalf("Check(%v), of %v: %d, asked of %v; want %d, %v", op, ahead, e, asked, want, wants)
	}
	if e, want := x.th.Check(op, nil), x.o.wrong(op, nil); e != want {
		t.Fatalf("Check(%v), of %v, without peek: %d; want %d", op, ahead, e, want)
	}
	if len(x.is.marks) != n || stateOf(x.th) != ahead || !slices.Equal(x.is.words, x.want.words) {
		t.Fatalf("Check(%v): touched %v, and the thread has %v; had %v", op, x.is.marks[n:], stateOf(x.th), ahead)
	}
}
