package graph

import (
	"fmt"
	"math"
	"slices"
	"testing"

	"demesne/api"
)

// The limits that the chapter names, and the stack's of the chapter of the roots.
const (
	maxThreads = 64
	maxSlots   = 8
	maxStack   = 16
	maxGlobals = 8
	maxFields  = 95
)

// heap is what a graph and its model do alike.
type heap interface {
	Alloc(t, dst, refs, size int) (int, api.Errno)
	Load(t, dst, src, i int) (int, api.Errno)
	Store(t, obj, i, val int) api.Errno
	Read(t, src, i int) (uint64, api.Errno)
	Write(t, obj, i int, v uint64) api.Errno
	Get(t, dst, global int) (int, api.Errno)
	Put(t, global, val int) api.Errno
	Move(t, dst, src int) api.Errno
	Clear(t, dst int) api.Errno
	Push(t, slot int) api.Errno
	Pop(t, slot int) api.Errno
	Slot(t, slot int) (int, api.Errno)
	Reach() []int
	Object(n int) ([]int, []uint64, api.Errno)
	Own(t int) ([]int, []int, api.Errno)
	Globals() []int
}

var _, _ heap = (*Graph)(nil), (*model)(nil)

// model is a graph as the chapter tells it: what a thread has, and what was made, the object 1 at 0.
type model struct {
	slots, stacks [][]int
	globals       []int
	refs          [][]int
	data          [][]uint64
}

func modelOf(threads, slots, globals int) *model {
	m := &model{globals: make([]int, globals), stacks: make([][]int, threads)}
	for range threads {
		m.slots = append(m.slots, make([]int, slots))
	}
	return m
}

// lacks tells whether there is no such thread, or not all of the slots.
func (m *model) lacks(t int, slots ...int) bool {
	if t < 0 || t >= len(m.slots) {
		return true
	}
	for _, slot := range slots {
		if slot < 0 || slot >= len(m.slots[t]) {
			return true
		}
	}
	return false
}

func (m *model) Alloc(t, dst, refs, size int) (int, api.Errno) {
	if m.lacks(t, dst) || refs < 0 || size < refs || size > maxFields {
		return 0, api.ErrArg
	}
	m.refs = append(m.refs, make([]int, refs))
	m.data = append(m.data, make([]uint64, size-refs))
	m.slots[t][dst] = len(m.refs)
	return len(m.refs), api.OK
}

func (m *model) Load(t, dst, src, i int) (int, api.Errno) {
	if m.lacks(t, dst, src) {
		return 0, api.ErrArg
	}
	obj := m.slots[t][src]
	if obj == 0 {
		return 0, api.ErrNone
	}
	if i < 0 || i >= len(m.refs[obj-1]) {
		return 0, api.ErrArg
	}
	m.slots[t][dst] = m.refs[obj-1][i]
	return m.slots[t][dst], api.OK
}

func (m *model) Store(t, obj, i, val int) api.Errno {
	if m.lacks(t, obj, val) {
		return api.ErrArg
	}
	n := m.slots[t][obj]
	if n == 0 {
		return api.ErrNone
	}
	if i < 0 || i >= len(m.refs[n-1]) {
		return api.ErrArg
	}
	m.refs[n-1][i] = m.slots[t][val]
	return api.OK
}

func (m *model) Read(t, src, i int) (uint64, api.Errno) {
	if m.lacks(t, src) {
		return 0, api.ErrArg
	}
	n := m.slots[t][src]
	if n == 0 {
		return 0, api.ErrNone
	}
	if i < 0 || i >= len(m.data[n-1]) {
		return 0, api.ErrArg
	}
	return m.data[n-1][i], api.OK
}

func (m *model) Write(t, obj, i int, v uint64) api.Errno {
	if _, e := m.Read(t, obj, i); e != api.OK {
		return e
	}
	m.data[m.slots[t][obj]-1][i] = v
	return api.OK
}

func (m *model) Get(t, dst, global int) (int, api.Errno) {
	if m.lacks(t, dst) || global < 0 || global >= len(m.globals) {
		return 0, api.ErrArg
	}
	m.slots[t][dst] = m.globals[global]
	return m.globals[global], api.OK
}

func (m *model) Put(t, global, val int) api.Errno {
	if m.lacks(t, val) || global < 0 || global >= len(m.globals) {
		return api.ErrArg
	}
	m.globals[global] = m.slots[t][val]
	return api.OK
}

func (m *model) Move(t, dst, src int) api.Errno {
	if m.lacks(t, dst, src) {
		return api.ErrArg
	}
	m.slots[t][dst] = m.slots[t][src]
	return api.OK
}

func (m *model) Clear(t, dst int) api.Errno {
	if m.lacks(t, dst) {
		return api.ErrArg
	}
	m.slots[t][dst] = 0
	return api.OK
}

func (m *model) Push(t, slot int) api.Errno {
	if m.lacks(t, slot) {
		return api.ErrArg
	}
	if len(m.stacks[t]) == maxStack {
		return api.ErrFull
	}
	m.stacks[t] = append(m.stacks[t], m.slots[t][slot])
	return api.OK
}

func (m *model) Pop(t, slot int) api.Errno {
	if m.lacks(t, slot) {
		return api.ErrArg
	}
	depth := len(m.stacks[t])
	if depth == 0 {
		return api.ErrNone
	}
	m.slots[t][slot] = m.stacks[t][depth-1]
	m.stacks[t] = m.stacks[t][:depth-1]
	return api.OK
}

func (m *model) Slot(t, slot int) (int, api.Errno) {
	if m.lacks(t, slot) {
		return 0, api.ErrArg
	}
	return m.slots[t][slot], api.OK
}

// Reach goes through all objects again and again, until no reached one leads to another one.
func (m *model) Reach() []int {
	in := make([]bool, len(m.refs)+1)
	for _, row := range append(append([][]int{m.globals}, m.slots...), m.stacks...) {
		for _, n := range row {
			in[n] = true
		}
	}
	for more := true; more; {
		more = false
		for n, refs := range m.refs {
			for _, to := range refs {
				if in[n+1] && !in[to] {
					in[to], more = true, true
				}
			}
		}
	}
	var reached []int
	for n := 1; n < len(in); n++ {
		if in[n] {
			reached = append(reached, n)
		}
	}
	return reached
}

func (m *model) Object(n int) ([]int, []uint64, api.Errno) {
	if n < 1 || n > len(m.refs) {
		return nil, nil, api.ErrNone
	}
	return m.refs[n-1], m.data[n-1], api.OK
}

func (m *model) Own(t int) ([]int, []int, api.Errno) {
	if m.lacks(t) {
		return nil, nil, api.ErrArg
	}
	return m.slots[t], m.stacks[t], api.OK
}

func (m *model) Globals() []int { return m.globals }

func (m *model) clone() *model {
	c := &model{globals: slices.Clone(m.globals)}
	c.slots, c.stacks, c.refs = rows(m.slots), rows(m.stacks), rows(m.refs)
	c.data = rows(m.data)
	return c
}

// rows are rows that are alike.
func rows[T any](from [][]T) [][]T {
	var to [][]T
	for _, row := range from {
		to = append(to, append([]T{}, row...))
	}
	return to
}

// said is what an act answers: a number, or a datum, and an error.
type said struct {
	n int
	v uint64
	e api.Errno
}

// act is one act, as what does it to a heap.
type act struct {
	name string
	on   func(h heap) said
}

func name(call string, args ...int) string { return call + fmt.Sprint(args) }

func alloc(t, dst, refs, size int) act {
	return act{name("Alloc", t, dst, refs, size), func(h heap) said { n, e := h.Alloc(t, dst, refs, size); return said{n: n, e: e} }}
}

func load(t, dst, src, i int) act {
	return act{name("Load", t, dst, src, i), func(h heap) said { n, e := h.Load(t, dst, src, i); return said{n: n, e: e} }}
}

func store(t, obj, i, val int) act {
	return act{name("Store", t, obj, i, val), func(h heap) said { return said{e: h.Store(t, obj, i, val)} }}
}

func read(t, src, i int) act {
	return act{name("Read", t, src, i), func(h heap) said { v, e := h.Read(t, src, i); return said{v: v, e: e} }}
}

func write(t, obj, i int, v uint64) act {
	return act{name("Write", t, obj, i) + fmt.Sprint(v), func(h heap) said { return said{e: h.Write(t, obj, i, v)} }}
}

func get(t, dst, global int) act {
	return act{name("Get", t, dst, global), func(h heap) said { n, e := h.Get(t, dst, global); return said{n: n, e: e} }}
}

func put(t, global, val int) act {
	return act{name("Put", t, global, val), func(h heap) said { return said{e: h.Put(t, global, val)} }}
}

func move(t, dst, src int) act {
	return act{name("Move", t, dst, src), func(h heap) said { return said{e: h.Move(t, dst, src)} }}
}

func clearSlot(t, dst int) act {
	return act{name("Clear", t, dst), func(h heap) said { return said{e: h.Clear(t, dst)} }}
}

func push(t, slot int) act {
	return act{name("Push", t, slot), func(h heap) said { return said{e: h.Push(t, slot)} }}
}

func pop(t, slot int) act {
	return act{name("Pop", t, slot), func(h heap) said { return said{e: h.Pop(t, slot)} }}
}

func slot(t, slot int) act {
	return act{name("Slot", t, slot), func(h heap) said { n, e := h.Slot(t, slot); return said{n: n, e: e} }}
}

// number, datum and fails are what an act answers; fine is what one answers that has nothing else to tell.
func number(n int) said { return said{n: n} }

func datum(v uint64) said { return said{v: v} }

func fails(e api.Errno) said { return said{e: e} }

var fine = said{}

// both is a graph, and a model of it.
type both struct {
	g *Graph
	m *model
}

func made(t *testing.T, threads, slots, globals int) both {
	t.Helper()
	g, e := New(threads, slots, globals)
	if g == nil || e != api.OK {
		t.Fatalf("New(%d, %d, %d) = %v, %d; want a graph", threads, slots, globals, g, e)
	}
	return both{g, modelOf(threads, slots, globals)}
}

// does does acts, without a look at what is there then.
func (b both) does(t *testing.T, acts ...act) said {
	t.Helper()
	var got said
	for _, a := range acts {
		got = a.on(b.g)
		if want := a.on(b.m); got != want {
			t.Fatalf("%s = %v; want %v", a.name, got, want)
		}
	}
	return got
}

// says does an act, holds what it answers against what is written out, and looks at all that is there then.
func (b both) says(t *testing.T, a act, want said) {
	t.Helper()
	if got := b.does(t, a); got != want {
		t.Fatalf("%s = %v; want %v", a.name, got, want)
	}
	b.looks(t)
}

// refuses does an act that is to answer an error, and holds that nothing has turned.
func (b both) refuses(t *testing.T, a act, e api.Errno) {
	t.Helper()
	if got := a.on(b.g); got != fails(e) {
		t.Fatalf("%s = %v; want the error %d alone", a.name, got, e)
	}
	b.looks(t)
}

// looks holds all that a graph tells without an act against its model.
func (b both) looks(t *testing.T) {
	t.Helper()
	if got, want := b.g.Globals(), b.m.globals; !slices.Equal(got, want) {
		t.Fatalf("Globals() = %v; want %v", got, want)
	}
	for n := range len(b.m.slots) + 1 {
		b.looksOwn(t, n)
	}
	for n := range len(b.m.refs) + 2 {
		b.looksObject(t, n)
	}
	if got, want := b.g.Reach(), b.m.Reach(); !slices.Equal(got, want) {
		t.Fatalf("Reach() = %v; want %v", got, want)
	}
}

func (b both) looksOwn(t *testing.T, n int) {
	t.Helper()
	slots, stack, e := b.g.Own(n)
	wantSlots, wantStack, wantE := b.m.Own(n)
	if !slices.Equal(slots, wantSlots) || !slices.Equal(stack, wantStack) || e != wantE {
		t.Fatalf("Own(%d) = %v, %v, %d; want %v, %v, %d", n, slots, stack, e, wantSlots, wantStack, wantE)
	}
	for i := range len(wantSlots) + 1 {
		b.does(t, slot(n, i))
	}
}

func (b both) looksObject(t *testing.T, n int) {
	t.Helper()
	refs, data, e := b.g.Object(n)
	wantRefs, wantData, wantE := b.m.Object(n)
	if !slices.Equal(refs, wantRefs) || !slices.Equal(data, wantData) || e != wantE {
		t.Fatalf("Object(%d) = %v, %v, %d; want %v, %v, %d", n, refs, data, e, wantRefs, wantData, wantE)
	}
}

// holdsObject, holdsOwn, holdsReach and holdsGlobals hold one answer against what is written out.
func (b both) holdsObject(t *testing.T, n int, refs []int, data []uint64) {
	t.Helper()
	if gotRefs, gotData, e := b.g.Object(n); !slices.Equal(gotRefs, refs) || !slices.Equal(gotData, data) || e != api.OK {
		t.Fatalf("Object(%d) = %v, %v, %d; want %v, %v, %d", n, gotRefs, gotData, e, refs, data, api.OK)
	}
}

func (b both) holdsOwn(t *testing.T, n int, slots, stack []int) {
	t.Helper()
	if gotSlots, gotStack, e := b.g.Own(n); !slices.Equal(gotSlots, slots) || !slices.Equal(gotStack, stack) || e != api.OK {
		t.Fatalf("Own(%d) = %v, %v, %d; want %v, %v, %d", n, gotSlots, gotStack, e, slots, stack, api.OK)
	}
}

func (b both) holdsReach(t *testing.T, want ...int) {
	t.Helper()
	if got := b.g.Reach(); !slices.Equal(got, want) {
		t.Fatalf("Reach() = %v; want %v", got, want)
	}
}

func (b both) holdsGlobals(t *testing.T, want ...int) {
	t.Helper()
	if got := b.g.Globals(); !slices.Equal(got, want) {
		t.Fatalf("Globals() = %v; want %v", got, want)
	}
}

// wild are numbers that are none of anything, of which there are some: below 0, above all ends, and such as fewer bits would take for one.
func wild() []int {
	return []int{-1, -2, -3, -7, -8, -9, -16, -63, -64, -65, -95, -96, -128, -255, -256, -257, -1 << 16, -1<<16 + 1, -1 << 32, -1<<32 + 1, -1<<32 + 2, -1<<32 + 8, math.MinInt32, math.MinInt32 + 1, math.MinInt + 8, math.MinInt + 1, math.MinInt,
		96, 97, 127, 128, 129, 255, 256, 257, 258, 264, 1 << 16, 1<<16 + 1, math.MaxInt32, math.MaxInt32 + 1, 1 << 32, 1<<32 + 1, 1<<32 + 2, 1<<32 + 8, 1 << 62, math.MaxInt - 1, math.MaxInt}
}

// none are numbers past the first so many: the next ones up to 95, and all wild ones.
func none(there int) []int {
	l := wild()
	for n := there; n <= maxFields; n++ {
		l = append(l, n)
	}
	return l
}

// few are the nearest of these, and some far ones.
func few(there int) []int {
	return []int{there, there + 1, -1, math.MinInt, math.MaxInt, 1 << 32, -1 << 32, 256}
}

// some answers numbers below an end, always the same ones.
func some(seed uint64) func(below int) int {
	return func(below int) int {
		seed = seed*6364136223846793005 + 1442695040888963407
		return int(seed >> 33 % uint64(below))
	}
}

// P10.1 to P10.4: the chapter's example.
func TestExample(t *testing.T) {
	b := made(t, 1, 2, 1)
	b.says(t, alloc(0, 0, 1, 1), number(1))
	b.says(t, alloc(0, 1, 0, 1), number(2))
	b.says(t, store(0, 0, 0, 1), fine)
	b.says(t, clearSlot(0, 1), fine)
	b.holdsReach(t, 1, 2)
	b.says(t, load(0, 1, 0, 0), number(2))
	b.says(t, clearSlot(0, 0), fine)
	b.holdsReach(t, 2)
}

// The limits are the chapter's.
func TestLimits(t *testing.T) {
	got := []int{api.MaxThreads, api.MaxSlots, api.MaxStack, api.MaxGlobals, api.MaxFields}
	if want := []int{maxThreads, maxSlots, maxStack, maxGlobals, maxFields}; !slices.Equal(got, want) {
		t.Errorf("the limits are %v; want %v", got, want)
	}
}

// P10.1: a new graph, of each count of threads, slots and global roots, has so many, which are 0, and no object.
func TestNew(t *testing.T) {
	for threads := 1; threads <= maxThreads; threads++ {
		for slots := 1; slots <= maxSlots; slots++ {
			for globals := range maxGlobals + 1 {
				b := made(t, threads, slots, globals)
				b.looks(t)
				b.holdsGlobals(t, make([]int, globals)...)
				b.holdsOwn(t, threads-1, make([]int, slots), nil)
				b.holdsReach(t)
			}
		}
	}
}

// P10.1: counts that may not be are refused, each by itself and all at once, and there is no graph.
func TestNewRefuses(t *testing.T) {
	refused := func(threads, slots, globals int) {
		t.Helper()
		if g, e := New(threads, slots, globals); g != nil || e != api.ErrArg {
			t.Fatalf("New(%d, %d, %d) = %v, %d; want none, %d", threads, slots, globals, g, e, api.ErrArg)
		}
	}
	for _, threads := range append(none(maxThreads+1), 0) {
		refused(threads, 1, 0)
		refused(threads, maxSlots, maxGlobals)
	}
	for _, slots := range append(none(maxSlots+1), 0) {
		refused(1, slots, 0)
		refused(maxThreads, slots, maxGlobals)
	}
	for _, globals := range none(maxGlobals + 1) {
		refused(1, 1, globals)
		refused(maxThreads, maxSlots, globals)
	}
	for _, wrong := range wild() {
		refused(wrong, wrong, wrong)
		refused(wrong, wrong, 0)
		refused(1, wrong, wrong)
		refused(wrong, 1, wrong)
	}
}

// P10.1: what is done to one graph is not seen in another one.
func TestGraphsShareNothing(t *testing.T) {
	a, b := made(t, 2, 2, 1), made(t, 2, 2, 1)
	a.does(t, alloc(1, 0, 2, 4), store(1, 0, 1, 0), write(1, 0, 0, 9), put(1, 0, 0), push(1, 0))
	a.looks(t)
	b.looks(t)
	b.says(t, alloc(0, 1, 1, 1), number(1))
	b.says(t, get(1, 1, 0), number(0))
	b.says(t, pop(1, 0), fails(api.ErrNone))
	a.looks(t)
	made(t, 2, 2, 1).looks(t)
}

// P10.1: numbers count from 1 on, whoever makes the objects; the slot that is named has the object, no other one turns, and all fields are 0.
func TestAlloc(t *testing.T) {
	b := made(t, 3, 2, 1)
	b.says(t, alloc(1, 0, 2, 3), number(1))
	b.holdsOwn(t, 0, []int{0, 0}, nil)
	b.holdsOwn(t, 1, []int{1, 0}, nil)
	b.holdsOwn(t, 2, []int{0, 0}, nil)
	b.holdsObject(t, 1, []int{0, 0}, []uint64{0})
	b.says(t, alloc(2, 1, 0, 2), number(2))
	b.says(t, alloc(1, 0, 1, 1), number(3))
	b.says(t, alloc(0, 0, 0, 0), number(4))
	b.holdsOwn(t, 0, []int{4, 0}, nil)
	b.holdsOwn(t, 1, []int{3, 0}, nil)
	b.holdsOwn(t, 2, []int{0, 2}, nil)
	b.holdsGlobals(t, 0)
	b.holdsObject(t, 2, nil, []uint64{0, 0})
	b.holdsObject(t, 3, []int{0}, nil)
	b.holdsObject(t, 4, nil, nil)
	b.holdsReach(t, 2, 3, 4)
}

// P10.1: objects of all counts of references and of fields: they have so many of each, which are 0, and not one more.
func TestAllocEachSize(t *testing.T) {
	b := made(t, 1, 1, 0)
	next := 0
	for size := range maxFields + 1 {
		for refs := range size + 1 {
			next++
			if got := b.does(t, alloc(0, 0, refs, size)); got != number(next) {
				t.Fatalf("Alloc of %d references and %d fields = %v; want %d", refs, size, got, next)
			}
			b.holdsObject(t, next, make([]int, refs), make([]uint64, size-refs))
			b.does(t, load(0, 0, 0, refs), read(0, 0, size-refs))
		}
	}
}

// P10.1: what was written into one object does not stand in those that are made then.
func TestAllocIsNew(t *testing.T) {
	b := made(t, 1, 2, 0)
	for round := range 9 {
		b.does(t, alloc(0, 0, 2, 4), store(0, 0, 0, 0), store(0, 0, 1, 1), write(0, 0, 0, 7), write(0, 0, 1, 8))
		b.says(t, alloc(0, 1, 2, 4), number(2*round+2))
		b.holdsObject(t, 2*round+2, []int{0, 0}, []uint64{0, 0})
	}
}

// P10.1: an object that may not be is refused, nothing turns, and no number is left out.
func TestAllocRefuses(t *testing.T) {
	b := made(t, 2, 2, 1)
	b.says(t, alloc(0, 0, 1, 2), number(1))
	for _, wrong := range none(maxFields + 1) {
		b.refuses(t, alloc(0, 0, 0, wrong), api.ErrArg)
		b.refuses(t, alloc(0, 1, wrong, maxFields), api.ErrArg)
		b.refuses(t, alloc(0, 1, wrong, wrong), api.ErrArg)
		b.refuses(t, alloc(1, 1, wrong, 0), api.ErrArg)
	}
	for size := range maxFields + 1 {
		b.refuses(t, alloc(1, 0, size+1, size), api.ErrArg)
		b.refuses(t, alloc(1, 0, -1, size), api.ErrArg)
		b.refuses(t, alloc(1, 0, math.MinInt, size), api.ErrArg)
		b.refuses(t, alloc(1, 0, math.MaxInt, size), api.ErrArg)
		b.refuses(t, alloc(1, 0, size, -1), api.ErrArg)
		b.refuses(t, alloc(1, 0, -size-1, -size), api.ErrArg)
	}
	b.says(t, alloc(1, 0, maxFields, maxFields), number(2))
}

// P10.1: numbers go on one behind the other, also behind acts that were refused.
func TestAllocBehindRefused(t *testing.T) {
	b := made(t, 2, 2, 1)
	for n := 1; n <= 20; n++ {
		b.refuses(t, alloc(0, 2, 1, 1), api.ErrArg)
		b.refuses(t, alloc(2, 0, 1, 1), api.ErrArg)
		b.refuses(t, alloc(0, 0, 2, 1), api.ErrArg)
		b.refuses(t, alloc(0, 0, 0, maxFields+1), api.ErrArg)
		b.refuses(t, load(1, 1, 1, 0), api.ErrNone)
		b.says(t, alloc(0, n%2, n%3, 3), number(n))
	}
}

// P10.2: by hand, what is stored is loaded, over several objects; objects that are not named stay as they are.
func TestStoreLoad(t *testing.T) {
	b := made(t, 1, 3, 0)
	b.does(t, alloc(0, 0, 3, 4), alloc(0, 1, 2, 2), alloc(0, 2, 1, 1))
	b.says(t, store(0, 0, 1, 1), fine)
	b.holdsObject(t, 1, []int{0, 2, 0}, []uint64{0})
	b.says(t, store(0, 1, 0, 2), fine)
	b.says(t, store(0, 2, 0, 0), fine)
	b.holdsObject(t, 2, []int{3, 0}, nil)
	b.holdsObject(t, 3, []int{1}, nil)
	b.does(t, clearSlot(0, 1), clearSlot(0, 2))
	b.says(t, load(0, 1, 0, 1), number(2))
	b.says(t, load(0, 2, 1, 0), number(3))
	b.holdsOwn(t, 0, []int{1, 2, 3}, nil)
	b.says(t, load(0, 2, 2, 0), number(1))
	b.holdsOwn(t, 0, []int{1, 2, 1}, nil)
	b.says(t, load(0, 0, 0, 2), number(0))
	b.holdsOwn(t, 0, []int{0, 2, 1}, nil)
	b.says(t, store(0, 2, 1, 0), fine)
	b.holdsObject(t, 1, []int{0, 0, 0}, []uint64{0})
	b.says(t, store(0, 2, 2, 2), fine)
	b.holdsObject(t, 1, []int{0, 0, 1}, []uint64{0})
	b.says(t, load(0, 0, 2, 2), number(1))
	b.holdsReach(t, 1, 2, 3)
}

// P10.2: each reference of an object of one, of some, and of MaxFields references is stored and loaded, the first and the last one too, and no other one turns.
func TestEachReference(t *testing.T) {
	for _, refs := range []int{1, 2, 3, 8, 9, maxFields - 1, maxFields} {
		b := made(t, 1, 3, 0)
		b.does(t, alloc(0, 0, refs, min(refs+2, maxFields)))
		for i := range refs {
			b.says(t, alloc(0, 1, 0, 0), number(i+2))
			b.does(t, store(0, 0, i, 1))
			b.looks(t)
			b.says(t, load(0, 2, 0, i), number(i+2))
		}
		b.does(t, clearSlot(0, 1), clearSlot(0, 2))
		for i := range refs {
			b.says(t, load(0, 2, 0, i), number(i+2))
			b.says(t, store(0, 0, i, 1), fine)
			b.says(t, load(0, 2, 0, i), number(0))
		}
	}
}

// P10.2: a reference that there is not is refused, of objects of each count of references, whatever data they have, and nothing turns.
func TestNoSuchReference(t *testing.T) {
	for _, refs := range []int{0, 1, 2, 7, maxFields} {
		b := made(t, 2, 3, 1)
		b.does(t, alloc(1, 0, refs, min(refs+3, maxFields)), alloc(1, 1, 1, 1))
		for _, i := range none(refs) {
			b.refuses(t, load(1, 2, 0, i), api.ErrArg)
			b.refuses(t, load(1, 0, 0, i), api.ErrArg)
			b.refuses(t, store(1, 0, i, 1), api.ErrArg)
			b.refuses(t, store(1, 0, i, 2), api.ErrArg)
		}
	}
}

// P10.2: by hand, a datum is what was written last, of its object alone; data count from 0 on, whatever references there are.
func TestReadWrite(t *testing.T) {
	b := made(t, 2, 2, 0)
	b.does(t, alloc(0, 0, 2, 5), alloc(0, 1, 0, 2), alloc(1, 0, 0, 1))
	b.says(t, read(0, 0, 2), datum(0))
	b.says(t, write(0, 0, 0, 40), fine)
	b.says(t, write(0, 0, 2, 42), fine)
	b.says(t, write(0, 1, 1, 50), fine)
	b.says(t, write(1, 0, 0, 60), fine)
	b.holdsObject(t, 1, []int{0, 0}, []uint64{40, 0, 42})
	b.holdsObject(t, 2, nil, []uint64{0, 50})
	b.holdsObject(t, 3, nil, []uint64{60})
	b.says(t, read(0, 0, 0), datum(40))
	b.says(t, read(0, 0, 1), datum(0))
	b.says(t, read(0, 0, 2), datum(42))
	b.says(t, write(0, 0, 2, 0), fine)
	b.says(t, read(0, 0, 2), datum(0))
	b.does(t, move(0, 1, 0))
	b.says(t, write(0, 1, 1, 41), fine)
	b.says(t, read(0, 0, 1), datum(41))
}

// P10.2: each datum of an object of one, of some, and of MaxFields data is written and read, the first and the last one too, and no other one turns; it may be any word.
func TestEachDatum(t *testing.T) {
	words := []uint64{1, 2, 0xff, 1 << 31, 1 << 32, 1<<53 + 1, math.MaxInt64, 1 << 63, math.MaxUint64 - 1, math.MaxUint64}
	for _, data := range []int{1, 2, 3, 8, 9, maxFields - 1, maxFields} {
		b := made(t, 1, 1, 0)
		b.does(t, alloc(0, 0, (maxFields-data)/2, (maxFields-data)/2+data))
		for i := range data {
			v := words[i%len(words)] ^ uint64(i/len(words)<<8)
			b.says(t, write(0, 0, i, v), fine)
			b.says(t, read(0, 0, i), datum(v))
		}
		for i := range data {
			b.says(t, read(0, 0, i), datum(words[i%len(words)]^uint64(i/len(words)<<8)))
		}
	}
}

// P10.2: a datum that there is not is refused, of objects of each count of data, whatever references they have, and nothing turns.
func TestNoSuchDatum(t *testing.T) {
	for _, data := range []int{0, 1, 2, 7, maxFields} {
		b := made(t, 2, 3, 1)
		refs := min(3, maxFields-data)
		b.does(t, alloc(1, 0, refs, refs+data))
		for i := range data {
			b.does(t, write(1, 0, i, 100+uint64(i)))
		}
		for _, i := range none(data) {
			b.refuses(t, read(1, 0, i), api.ErrArg)
			b.refuses(t, write(1, 0, i, 7), api.ErrArg)
			b.refuses(t, write(1, 0, i, 0), api.ErrArg)
		}
	}
}

// P10.2: a reference goes from each slot into an object and out of it to each slot, and turns that one alone.
func TestEachSlotToEach(t *testing.T) {
	for slots := 2; slots <= maxSlots; slots++ {
		for obj := range slots {
			for other := range slots {
				b := made(t, 2, slots, 1)
				for i := range slots {
					b.does(t, alloc(1, i, 2, 2))
				}
				b.says(t, store(1, obj, 1, other), fine)
				b.does(t, push(1, obj), alloc(1, other, 2, 2), pop(1, obj))
				for dst := range slots {
					if dst != obj {
						b.says(t, load(1, dst, obj, 1), number(other+1))
					}
				}
				b.says(t, load(1, obj, obj, 1), number(other+1))
			}
		}
	}
}

// P10.2, P10.3: where an object is wanted, a slot of 0 is refused, whatever is asked of it, and nothing turns.
func TestNoObject(t *testing.T) {
	b := made(t, 2, 3, 1)
	b.does(t, alloc(0, 0, 2, 4), alloc(1, 1, 2, 4), push(0, 0))
	for _, i := range append(wild(), 0, 1, 2) {
		for empty := 1; empty < 3; empty++ {
			for other := range 3 {
				b.refuses(t, load(0, other, empty, i), api.ErrNone)
				b.refuses(t, store(0, empty, i, other), api.ErrNone)
			}
			b.refuses(t, read(0, empty, i), api.ErrNone)
			b.refuses(t, write(0, empty, i, 7), api.ErrNone)
		}
	}
}

// P10.2, P10.3: a reference of 0 is stored, put, moved and pushed as any other one is.
func TestZeroIsAReference(t *testing.T) {
	b := made(t, 1, 3, 2)
	b.does(t, alloc(0, 0, 1, 1), alloc(0, 1, 0, 0), store(0, 0, 0, 1), put(0, 1, 1))
	b.says(t, store(0, 0, 0, 2), fine)
	b.holdsObject(t, 1, []int{0}, nil)
	b.says(t, put(0, 1, 2), fine)
	b.holdsGlobals(t, 0, 0)
	b.says(t, push(0, 2), fine)
	b.holdsOwn(t, 0, []int{1, 2, 0}, []int{0})
	b.says(t, pop(0, 1), fine)
	b.holdsOwn(t, 0, []int{1, 0, 0}, nil)
	b.does(t, move(0, 2, 0))
	b.says(t, move(0, 0, 1), fine)
	b.holdsOwn(t, 0, []int{0, 0, 1}, nil)
	b.says(t, load(0, 1, 2, 0), number(0))
	b.says(t, get(0, 2, 1), number(0))
	b.holdsOwn(t, 0, []int{0, 0, 0}, nil)
	b.says(t, clearSlot(0, 1), fine)
	b.holdsReach(t)
}

// P10.3: by hand, a global root has what any thread has put last, and any thread gets it; no other root turns.
func TestPutGet(t *testing.T) {
	b := made(t, 2, 2, 3)
	b.does(t, alloc(0, 1, 0, 0), alloc(1, 0, 1, 1))
	b.says(t, put(0, 2, 1), fine)
	b.holdsGlobals(t, 0, 0, 1)
	b.says(t, put(1, 0, 0), fine)
	b.holdsGlobals(t, 2, 0, 1)
	b.says(t, get(1, 1, 2), number(1))
	b.says(t, get(0, 0, 0), number(2))
	b.holdsOwn(t, 0, []int{2, 1}, nil)
	b.holdsOwn(t, 1, []int{2, 1}, nil)
	b.says(t, get(0, 1, 1), number(0))
	b.holdsOwn(t, 0, []int{2, 0}, nil)
	b.says(t, put(0, 2, 1), fine)
	b.says(t, put(1, 1, 0), fine)
	b.holdsGlobals(t, 2, 2, 0)
	b.says(t, get(1, 0, 2), number(0))
	b.says(t, store(0, 0, 0, 0), fine)
	b.says(t, get(1, 0, 1), number(2))
	b.says(t, load(1, 1, 0, 0), number(2))
}

// P10.3: each global root of each count of them is put and got, from each slot to each, by each of some threads; none more is there.
func TestEachGlobal(t *testing.T) {
	for globals := range maxGlobals + 1 {
		b := made(t, 3, 2, globals)
		for thread := range 3 {
			for global := range globals {
				for val := range 2 {
					b.does(t, alloc(thread, val, 0, 0), put(thread, global, val), get((thread+1)%3, 1-val, global))
					b.looks(t)
				}
			}
			for _, global := range none(globals) {
				b.refuses(t, put(thread, global, 1), api.ErrArg)
				b.refuses(t, get(thread, 0, global), api.ErrArg)
			}
		}
	}
}

// P10.3: each slot of each thread, of each count of slots: Slot, Move, Clear, Push and Pop turn what they name alone.
func TestEachSlot(t *testing.T) {
	for slots := 1; slots <= maxSlots; slots++ {
		b := made(t, 3, slots, 1)
		for thread := range 3 {
			for i := range slots {
				b.does(t, alloc(thread, i, 1, 1))
			}
		}
		for thread := range 3 {
			for from := range slots {
				for to := range slots {
					was := b.does(t, slot(thread, from))
					b.says(t, move(thread, to, from), fine)
					b.says(t, slot(thread, to), was)
					b.says(t, push(thread, from), fine)
					b.says(t, clearSlot(thread, from), fine)
					b.says(t, slot(thread, from), number(0))
					b.says(t, pop(thread, to), fine)
					b.does(t, alloc(thread, from, 0, 1))
				}
			}
		}
	}
}

// P10.3: by hand, Move, Clear and Slot.
func TestMoveClearSlot(t *testing.T) {
	b := made(t, 2, 3, 1)
	b.does(t, alloc(1, 0, 0, 0), alloc(1, 1, 0, 0), alloc(0, 0, 0, 0))
	b.says(t, move(1, 2, 0), fine)
	b.holdsOwn(t, 1, []int{1, 2, 1}, nil)
	b.says(t, move(1, 0, 1), fine)
	b.holdsOwn(t, 1, []int{2, 2, 1}, nil)
	b.says(t, move(1, 1, 1), fine)
	b.holdsOwn(t, 1, []int{2, 2, 1}, nil)
	b.says(t, clearSlot(1, 1), fine)
	b.says(t, clearSlot(1, 1), fine)
	b.holdsOwn(t, 1, []int{2, 0, 1}, nil)
	b.says(t, move(1, 0, 1), fine)
	b.says(t, slot(1, 0), number(0))
	b.says(t, slot(1, 2), number(1))
	b.says(t, slot(0, 0), number(3))
	b.holdsReach(t, 1, 3)
}

// P10.3: by hand, Push keeps the slot, Pop brings the reference that was pushed last, into whichever slot is named; each thread has a stack of its own.
func TestPushPop(t *testing.T) {
	b := made(t, 2, 2, 0)
	b.does(t, alloc(0, 0, 0, 0), alloc(0, 1, 0, 0), alloc(1, 0, 0, 0))
	b.says(t, push(0, 0), fine)
	b.says(t, push(0, 1), fine)
	b.says(t, push(1, 0), fine)
	b.holdsOwn(t, 0, []int{1, 2}, []int{1, 2})
	b.holdsOwn(t, 1, []int{3, 0}, []int{3})
	b.says(t, pop(0, 0), fine)
	b.holdsOwn(t, 0, []int{2, 2}, []int{1})
	b.says(t, pop(1, 1), fine)
	b.holdsOwn(t, 1, []int{3, 3}, nil)
	b.says(t, pop(1, 1), fails(api.ErrNone))
	b.says(t, pop(0, 1), fine)
	b.holdsOwn(t, 0, []int{2, 1}, nil)
	b.says(t, pop(0, 0), fails(api.ErrNone))
	b.holdsOwn(t, 0, []int{2, 1}, nil)
}

// P10.3: a stack takes MaxStack references, of 0 too, and not one more; Pop brings all of them, and then there is none.
func TestStackFull(t *testing.T) {
	for _, threads := range []int{1, 3, maxThreads} {
		b := made(t, threads, 2, 1)
		last := threads - 1
		for i := range maxStack {
			if i%5 != 2 {
				b.does(t, alloc(last, 0, 0, 0))
			}
			b.says(t, push(last, 0), fine)
			b.does(t, clearSlot(last, 0))
		}
		b.does(t, alloc(last, 0, 0, 0))
		for range 3 {
			b.refuses(t, push(last, 0), api.ErrFull)
			b.refuses(t, push(last, 1), api.ErrFull)
		}
		b.says(t, pop(last, 1), fine)
		b.says(t, push(last, 0), fine)
		b.refuses(t, push(last, 1), api.ErrFull)
		for range maxStack {
			b.says(t, pop(last, 0), fine)
		}
		for range 3 {
			b.refuses(t, pop(last, 0), api.ErrNone)
			b.refuses(t, pop(last, 1), api.ErrNone)
		}
		b.says(t, push(last, 1), fine)
		b.says(t, pop(last, 0), fine)
	}
}

// P10.1 to P10.3: each of 1, of some, and of MaxThreads threads has slots and a stack of its own.
func TestEachThread(t *testing.T) {
	for _, threads := range []int{1, 2, maxThreads} {
		b := made(t, threads, 2, 1)
		for thread := range threads {
			b.does(t, alloc(thread, thread%2, 1, 2), store(thread, thread%2, 0, thread%2), write(thread, thread%2, 0, uint64(thread)), push(thread, thread%2))
			b.looks(t)
		}
		b.does(t, put(threads-1, 0, (threads-1)%2))
		for thread := range threads {
			b.says(t, slot(thread, thread%2), number(thread+1))
			b.says(t, read(thread, thread%2, 0), datum(uint64(thread)))
			b.says(t, load(thread, 1-thread%2, thread%2, 0), number(thread+1))
			b.says(t, get(thread, thread%2, 0), number(threads))
			b.says(t, pop(thread, thread%2), fine)
			b.says(t, move(thread, 1-thread%2, thread%2), fine)
			b.says(t, clearSlot(thread, thread%2), fine)
		}
	}
}

// kinds of what an act is handed: what there is, what there is not, and, of a slot from which an object is wanted, one that is empty.
const (
	there = iota
	missing
	empty
)

// wish is what an act is handed, of which kinds, where it may be wrong; full tells that it is done when its thread's stack has no room, bare that it is done when the stack has nothing.
type wish struct {
	name       string
	make       func(p []int) act
	takes      []string
	full, bare bool
}

// wishes are all acts, with what they are handed.
func wishes() []wish {
	return []wish{
		{name: "Alloc", make: func(p []int) act { return alloc(p[0], p[1], p[2], 5) }, takes: []string{"thread", "slot", "refs"}},
		{name: "Alloc", make: func(p []int) act { return alloc(p[0], p[1], 0, p[2]) }, takes: []string{"thread", "slot", "size"}},
		{name: "Load", make: func(p []int) act { return load(p[0], p[1], p[2], p[3]) }, takes: []string{"thread", "slot", "object", "ref"}},
		{name: "Store", make: func(p []int) act { return store(p[0], p[1], p[2], p[3]) }, takes: []string{"thread", "object", "ref", "slot"}},
		{name: "Read", make: func(p []int) act { return read(p[0], p[1], p[2]) }, takes: []string{"thread", "object", "datum"}},
		{name: "Write", make: func(p []int) act { return write(p[0], p[1], p[2], 7) }, takes: []string{"thread", "object", "datum"}},
		{name: "Get", make: func(p []int) act { return get(p[0], p[1], p[2]) }, takes: []string{"thread", "slot", "global"}},
		{name: "Put", make: func(p []int) act { return put(p[0], p[1], p[2]) }, takes: []string{"thread", "global", "slot"}},
		{name: "Move", make: func(p []int) act { return move(p[0], p[1], p[2]) }, takes: []string{"thread", "slot", "slot"}},
		{name: "Clear", make: func(p []int) act { return clearSlot(p[0], p[1]) }, takes: []string{"thread", "slot"}},
		{name: "Push", make: func(p []int) act { return push(p[0], p[1]) }, takes: []string{"thread", "slot"}},
		{name: "Push", make: func(p []int) act { return push(p[0], p[1]) }, takes: []string{"thread", "slot"}, full: true},
		{name: "Pop", make: func(p []int) act { return pop(p[0], p[1]) }, takes: []string{"thread", "slot"}},
		{name: "Pop", make: func(p []int) act { return pop(p[0], p[1]) }, takes: []string{"thread", "slot"}, bare: true},
		{name: "Slot", make: func(p []int) act { return slot(p[0], p[1]) }, takes: []string{"thread", "slot"}},
	}
}

// What there is of each thing that an act takes, in the graph of ready.
func thereIs() map[string]int {
	return map[string]int{"thread": 2, "slot": 3, "object": 3, "ref": 2, "datum": 4, "global": 2, "refs": 6, "size": maxFields + 1}
}

// ready is a graph of two threads, whose slots 0 and 2 have an object of two references and four data, and whose slot 1 has none.
func ready(t *testing.T, w wish) both {
	t.Helper()
	b := made(t, 2, 3, 2)
	depth := 3
	if w.full {
		depth = maxStack
	}
	if w.bare {
		depth = 0
	}
	for thread := range 2 {
		b.does(t, alloc(thread, 0, 2, 6), alloc(thread, 2, 2, 6), store(thread, 0, 1, 2), write(thread, 0, 3, 9), put(thread, thread, 2))
		for i := range depth {
			b.does(t, push(thread, i%3))
		}
	}
	b.looks(t)
	return b
}

// expected is the error that the chapter names first for what an act is handed.
func (w wish) expected(kinds []int) api.Errno {
	hollow, unheld := false, false
	for i, kind := range kinds {
		field := w.takes[i] == "ref" || w.takes[i] == "datum"
		if kind == missing && !field {
			return api.ErrArg
		}
		hollow = hollow || kind == empty
		unheld = unheld || kind == missing
	}
	switch {
	case hollow || w.bare:
		return api.ErrNone
	case unheld:
		return api.ErrArg
	case w.full:
		return api.ErrFull
	}
	return api.OK
}

// handed are numbers of such kinds, a row for each way in which what is missing may be so.
func (w wish) handed(kinds []int) [][]int {
	ways := 1
	if slices.Contains(kinds, missing) {
		ways = len(few(0))
	}
	var all [][]int
	for way := range ways {
		var p []int
		for i, kind := range kinds {
			switch kind {
			case there:
				p = append(p, 0)
			case empty:
				p = append(p, 1)
			default:
				l := few(thereIs()[w.takes[i]])
				p = append(p, l[(way+i*3)%len(l)])
			}
		}
		all = append(all, p)
	}
	return all
}

// each goes through all rows of kinds for what an act takes.
func (w wish) each(do func(kinds []int)) {
	var further func(kinds []int)
	further = func(kinds []int) {
		if len(kinds) == len(w.takes) {
			do(kinds)
			return
		}
		further(append(slices.Clone(kinds), there))
		further(append(slices.Clone(kinds), missing))
		if w.takes[len(kinds)] == "object" {
			further(append(slices.Clone(kinds), empty))
		}
	}
	further(nil)
}

// P10.1 to P10.3: of what is wrong in one way, or in several, the error that the chapter names first is answered, all else is zero, and nothing turns; and of what is right in each way none.
func TestErrorsInOrder(t *testing.T) {
	for _, w := range wishes() {
		b := ready(t, w)
		w.each(func(kinds []int) {
			want := w.expected(kinds)
			for _, p := range w.handed(kinds) {
				if want != api.OK {
					b.refuses(t, w.make(p), want)
				} else if got := ready(t, w).does(t, w.make(p)); got.e != api.OK {
					t.Fatalf("%s%v = %v; want no error", w.name, p, got)
				}
			}
		})
	}
}

// P10.1 to P10.3: each number that names nothing is refused in each place, and nothing turns.
func TestEachWrongNumber(t *testing.T) {
	for _, w := range wishes() {
		b := ready(t, w)
		for i, what := range w.takes {
			kinds := make([]int, len(w.takes))
			kinds[i] = missing
			for _, wrong := range none(thereIs()[what]) {
				p := make([]int, len(w.takes))
				p[i] = wrong
				b.refuses(t, w.make(p), w.expected(kinds))
			}
		}
	}
}

// P10.1 to P10.6: of no graph at all each act answers ErrNil, whatever it is handed, and there is nothing.
func TestNil(t *testing.T) {
	var g *Graph
	for _, w := range wishes() {
		w.each(func(kinds []int) {
			for _, p := range w.handed(kinds) {
				if got := w.make(p).on(g); got != fails(api.ErrNil) {
					t.Fatalf("of no graph %s%v = %v; want the error %d alone", w.name, p, got, api.ErrNil)
				}
			}
		})
	}
	for _, n := range append(wild(), 0, 1, 2) {
		if refs, data, e := g.Object(n); len(refs) != 0 || len(data) != 0 || e != api.ErrNil {
			t.Fatalf("of no graph Object(%d) = %v, %v, %d", n, refs, data, e)
		}
		if slots, stack, e := g.Own(n); len(slots) != 0 || len(stack) != 0 || e != api.ErrNil {
			t.Fatalf("of no graph Own(%d) = %v, %v, %d", n, slots, stack, e)
		}
	}
	if l := g.Reach(); len(l) != 0 {
		t.Errorf("of no graph Reach() = %v", l)
	}
	if l := g.Globals(); len(l) != 0 {
		t.Errorf("of no graph Globals() = %v", l)
	}
	if c := g.Clone(); c != nil {
		t.Errorf("of no graph Clone() = %v", c)
	}
}

// P10.4: by hand, what is reached from slots, from stacks and from global roots, of each thread, over one object and over several.
func TestReach(t *testing.T) {
	b := made(t, 2, 2, 1)
	b.holdsReach(t)
	b.does(t, alloc(1, 0, 2, 2), alloc(1, 1, 1, 1), store(1, 0, 1, 1), alloc(1, 1, 0, 1), push(1, 1), clearSlot(1, 1))
	b.holdsReach(t, 1, 2, 3)
	b.does(t, alloc(0, 1, 1, 1), alloc(0, 0, 1, 1), store(0, 0, 0, 1), put(0, 0, 0))
	b.holdsReach(t, 1, 2, 3, 4, 5)
	b.does(t, clearSlot(0, 0), clearSlot(0, 1))
	b.holdsReach(t, 1, 2, 3, 4, 5)
	b.does(t, pop(1, 1), clearSlot(1, 1))
	b.holdsReach(t, 1, 2, 4, 5)
	b.does(t, load(1, 0, 0, 1))
	b.holdsReach(t, 2, 4, 5)
	b.does(t, get(1, 1, 0), store(1, 1, 0, 0))
	b.holdsReach(t, 2, 5)
	b.does(t, clearSlot(1, 1), put(1, 0, 1))
	b.holdsReach(t, 2)
	b.does(t, clearSlot(1, 0))
	b.holdsReach(t)
	b.looks(t)
}

// P10.4: each root alone holds what it has: each slot and each place of the stack, of the first and of the last thread, and each global root.
func TestReachFromEachRoot(t *testing.T) {
	for _, threads := range []int{1, 2, maxThreads} {
		for _, thread := range []int{0, threads - 1} {
			for i := range maxSlots {
				b := made(t, threads, maxSlots, maxGlobals)
				b.does(t, alloc(thread, 0, 0, 0), alloc(thread, i, 0, 0))
				if i != 0 {
					b.does(t, clearSlot(thread, 0))
				}
				b.holdsReach(t, 2)
			}
			for i := range maxStack {
				b := made(t, threads, maxSlots, maxGlobals)
				for at := range maxStack {
					if at == i {
						b.does(t, alloc(thread, 0, 0, 0))
					}
					b.does(t, push(thread, 0), clearSlot(thread, 0))
				}
				b.holdsReach(t, 1)
			}
			for i := range maxGlobals {
				b := made(t, threads, maxSlots, maxGlobals)
				b.does(t, alloc(thread, 0, 0, 0), put(thread, i, 0), clearSlot(thread, 0))
				b.holdsReach(t, 1)
			}
		}
	}
}

// P10.4: each reference of an object holds what it leads to, and data hold nothing.
func TestReachOverEachReference(t *testing.T) {
	b := made(t, 1, 2, 0)
	b.does(t, alloc(0, 0, maxFields, maxFields))
	want := []int{1}
	for i := range maxFields {
		b.does(t, alloc(0, 1, 0, 0), store(0, 0, i, 1), clearSlot(0, 1))
		want = append(want, i+2)
		b.holdsReach(t, want...)
	}
	for range maxFields {
		b.does(t, store(0, 0, len(want)-2, 1))
		want = want[:len(want)-1]
		b.holdsReach(t, want...)
	}
	b.does(t, alloc(0, 0, 0, maxFields))
	for i := range maxFields {
		b.does(t, write(0, 0, i, uint64(i)))
	}
	b.holdsReach(t, maxFields+2)
}

// P10.4: rings: an object that leads to itself, rings of several, two that touch; what leads into a ring from without holds it, and it does not hold that.
func TestReachRings(t *testing.T) {
	b := made(t, 1, 3, 0)
	b.does(t, alloc(0, 0, 1, 1), store(0, 0, 0, 0))
	b.holdsReach(t, 1)
	b.does(t, load(0, 0, 0, 0))
	b.holdsReach(t, 1)
	b.does(t, clearSlot(0, 0))
	b.holdsReach(t)
	for ring := 2; ring <= 9; ring++ {
		b := made(t, 1, 3, 0)
		b.does(t, alloc(0, 0, 2, 2), move(0, 1, 0))
		want := []int{1}
		for n := 2; n <= ring; n++ {
			b.does(t, alloc(0, 2, 2, 2), store(0, 1, 0, 2), move(0, 1, 2))
			want = append(want, n)
		}
		b.does(t, store(0, 1, 0, 0), clearSlot(0, 0), clearSlot(0, 2))
		for range 2 * ring {
			b.holdsReach(t, want...)
			b.does(t, load(0, 1, 1, 0))
			b.looks(t)
		}
		b.does(t, alloc(0, 0, 1, 1), store(0, 0, 0, 1), clearSlot(0, 1))
		b.holdsReach(t, append(want, ring+1)...)
		b.does(t, load(0, 0, 0, 0))
		b.holdsReach(t, want...)
		b.does(t, clearSlot(0, 0))
		b.holdsReach(t)
		b.looks(t)
	}
}

// P10.4: what is reached in several ways is told once; numbers rise, whatever the order in which objects are met.
func TestReachOnceRising(t *testing.T) {
	b := made(t, 2, 3, 2)
	b.does(t, alloc(0, 0, 2, 2), alloc(0, 1, 2, 2), alloc(0, 2, 2, 2))
	// The last one leads to the middle one twice, which leads to the first one and to the last.
	b.does(t, store(0, 2, 0, 1), store(0, 2, 1, 1), store(0, 1, 0, 0), store(0, 1, 1, 2))
	b.does(t, put(0, 0, 1), put(0, 1, 1), push(0, 2), push(0, 2), get(1, 2, 0), push(1, 2))
	b.holdsReach(t, 1, 2, 3)
	b.does(t, alloc(1, 0, 1, 1), alloc(1, 0, 1, 1), alloc(1, 0, 1, 1), put(1, 0, 0), alloc(1, 0, 1, 1), push(1, 0))
	b.holdsReach(t, 1, 2, 3, 6, 7)
	b.looks(t)
}

// P10.4: a very long chain, in either order of its numbers, and all of it falls when its head is dropped.
func TestReachLongChain(t *testing.T) {
	const long = 200000
	var want []int
	for n := 1; n <= long; n++ {
		want = append(want, n)
	}
	for _, rising := range []bool{true, false} {
		g, _ := New(1, 3, 0)
		g.Alloc(0, 0, 1, 1)
		g.Move(0, 1, 0)
		for range long - 1 {
			g.Alloc(0, 2, 1, 1)
			if rising {
				g.Store(0, 1, 0, 2)
				g.Move(0, 1, 2)
			} else {
				g.Store(0, 2, 0, 0)
				g.Move(0, 0, 2)
			}
		}
		g.Clear(0, 1)
		g.Clear(0, 2)
		if got := g.Reach(); !slices.Equal(got, want) {
			t.Fatalf("a chain of %d: %d are reached", long, len(got))
		}
		if got := g.Clone().Reach(); !slices.Equal(got, want) {
			t.Fatalf("a clone of a chain of %d: %d are reached", long, len(got))
		}
		g.Clear(0, 0)
		if got := g.Reach(); len(got) != 0 {
			t.Fatalf("of a chain that was dropped %d are reached", len(got))
		}
	}
}

// P10.6: what nothing reaches is there still, with all its fields; of a number that was not made there is none.
func TestObjectStays(t *testing.T) {
	b := made(t, 1, 2, 0)
	b.does(t, alloc(0, 0, 2, 4), alloc(0, 1, 1, 1), store(0, 0, 0, 1), store(0, 0, 1, 0), store(0, 1, 0, 0), write(0, 0, 1, 77))
	b.does(t, clearSlot(0, 0), clearSlot(0, 1))
	b.holdsReach(t)
	b.holdsObject(t, 1, []int{2, 1}, []uint64{0, 77})
	b.holdsObject(t, 2, []int{1}, nil)
	b.says(t, alloc(0, 0, 0, 1), number(3))
	b.holdsObject(t, 1, []int{2, 1}, []uint64{0, 77})
	for _, n := range append(wild(), 0, 4, 5) {
		if refs, data, e := b.g.Object(n); len(refs) != 0 || len(data) != 0 || e != api.ErrNone {
			t.Fatalf("Object(%d) = %v, %v, %d; want none, %d", n, refs, data, e, api.ErrNone)
		}
	}
	b.looks(t)
}

// P10.6: Own of a thread that there is not is refused, of each of some counts of threads.
func TestOwnRefuses(t *testing.T) {
	for _, threads := range []int{1, 2, maxThreads} {
		b := made(t, threads, 2, 1)
		b.does(t, alloc(0, 0, 0, 0), push(threads-1, 0))
		for _, n := range none(threads) {
			if slots, stack, e := b.g.Own(n); len(slots) != 0 || len(stack) != 0 || e != api.ErrArg {
				t.Fatalf("of %d threads Own(%d) = %v, %v, %d; want none, %d", threads, n, slots, stack, e, api.ErrArg)
			}
		}
	}
}

// spoil writes over all the room of an answer, spare room too.
func spoil[T int | uint64](answer []T) {
	room := answer[:cap(answer)]
	for i := range room {
		room[i] = 77
	}
}

// filled is a graph in which all that there may be is there, of such counts, with objects of many sizes.
func filled(t *testing.T, threads, slots, globals int) both {
	t.Helper()
	b := made(t, threads, slots, globals)
	for thread := range threads {
		for i := range slots {
			b.does(t, alloc(thread, i, i+1, 2*i+1+thread%5), store(thread, i, i, i), store(thread, i, 0, 0))
			if i+thread%5 > 0 {
				b.does(t, write(thread, i, 0, uint64(100*thread+i)))
			}
		}
		for i := range min(maxStack, 5+thread) {
			b.does(t, push(thread, i%slots))
		}
		for global := range globals {
			b.does(t, put(thread, global, global%slots))
		}
	}
	b.looks(t)
	return b
}

// P10.4, P10.6 (R3): what Object, Own, Globals and Reach answer is their caller's alone, spare room too; no two of them share any.
func TestAnswersAreNew(t *testing.T) {
	for _, globals := range []int{0, 1, 3, maxGlobals} {
		b := filled(t, 3, 4, globals)
		spoil(b.g.Globals())
		b.looks(t)
		spoil(b.g.Reach())
		b.looks(t)
		for n := range 3 {
			slots, stack, _ := b.g.Own(n)
			spoil(slots)
			b.looks(t)
			if _, want, _ := b.m.Own(n); !slices.Equal(stack, want) {
				t.Fatalf("Own's lists share room: %v; want %v", stack, want)
			}
			spoil(stack)
			b.looks(t)
		}
		for n := 1; n <= len(b.m.refs); n++ {
			refs, data, _ := b.g.Object(n)
			spoil(refs)
			b.looks(t)
			if _, want, _ := b.m.Object(n); !slices.Equal(data, want) {
				t.Fatalf("Object's lists share room: %v; want %v", data, want)
			}
			spoil(data)
			b.looks(t)
		}
		for range maxStack {
			b.does(t, push(1, 2))
		}
		b.does(t, alloc(0, 0, 3, 3))
		b.looks(t)
	}
}

// P10.4, P10.6 (R3): what was answered stays as it is, whatever is done then.
func TestAnswersStay(t *testing.T) {
	b := filled(t, 2, 3, 2)
	was := b.m.clone()
	globals, reached := b.g.Globals(), b.g.Reach()
	slots, stack, _ := b.g.Own(1)
	refs, data, _ := b.g.Object(6)
	for range 4 {
		b.does(t, alloc(1, 1, 2, 2), store(1, 2, 0, 1), write(1, 2, 0, 5), put(1, 0, 1), put(1, 1, 1), pop(1, 2), clearSlot(1, 2), push(1, 2), push(1, 1), alloc(1, 2, 3, 9))
	}
	if !slices.Equal(globals, was.globals) || !slices.Equal(reached, was.Reach()) {
		t.Errorf("what was answered has become %v, %v", globals, reached)
	}
	if !slices.Equal(slots, was.slots[1]) || !slices.Equal(stack, was.stacks[1]) {
		t.Errorf("what Own answered has become %v, %v", slots, stack)
	}
	if !slices.Equal(refs, was.refs[5]) || !slices.Equal(data, was.data[5]) {
		t.Errorf("what Object answered has become %v, %v", refs, data)
	}
}

// P10.6: a clone is alike, of each count of threads, slots and global roots, and of stacks of each depth.
func TestCloneIsAlike(t *testing.T) {
	for _, threads := range []int{1, 2, 13, maxThreads} {
		for slots := 1; slots <= maxSlots; slots++ {
			for _, globals := range []int{0, 1, 5, maxGlobals} {
				b := made(t, threads, slots, globals)
				both{b.g.Clone(), b.m}.looks(t)
				b = filled(t, threads, slots, globals)
				both{b.g.Clone(), b.m}.looks(t)
				both{b.g.Clone().Clone(), b.m}.looks(t)
				b.looks(t)
			}
		}
	}
	b := made(t, 1, 1, 0)
	for depth := range maxStack {
		both{b.g.Clone(), b.m}.looks(t)
		b.does(t, push(0, 0))
		if depth%3 != 1 {
			b.does(t, alloc(0, 0, 0, 0))
		}
	}
	both{b.g.Clone(), b.m}.looks(t)
}

// P10.6: a clone goes on by itself: neither shows what is done to the other one, in slots, stacks, global roots and objects, nor in numbers.
func TestCloneGoesOn(t *testing.T) {
	b := filled(t, 2, 3, 2)
	c := both{b.g.Clone(), b.m.clone()}
	acts := []act{alloc(0, 1, 2, 4), store(0, 2, 0, 1), write(1, 2, 0, 900), clearSlot(1, 0), move(0, 0, 2), put(0, 1, 1), pop(0, 1), push(1, 1), get(1, 1, 1), load(1, 0, 2, 2), alloc(1, 1, 1, 1)}
	for _, a := range acts {
		b.does(t, a)
		b.looks(t)
		c.looks(t)
	}
	for _, a := range slices.Backward(acts) {
		c.does(t, a)
		c.looks(t)
		b.looks(t)
	}
	d := both{c.g.Clone(), c.m.clone()}
	b.says(t, alloc(0, 0, 0, 0), number(9))
	c.says(t, alloc(0, 0, 9, 9), number(9))
	d.says(t, alloc(0, 0, 0, 9), number(9))
	c.says(t, write(0, 0, 0, 1), fails(api.ErrArg))
	d.says(t, write(0, 0, 8, 1), fine)
	b.looks(t)
	c.looks(t)
}

// P10.6: what nothing reaches is in a clone, too, and numbers go on behind it.
func TestCloneHasAll(t *testing.T) {
	b := made(t, 1, 1, 1)
	b.does(t, alloc(0, 0, 1, 3), store(0, 0, 0, 0), write(0, 0, 1, 8), alloc(0, 0, 2, 2), clearSlot(0, 0))
	c := both{b.g.Clone(), b.m.clone()}
	c.holdsObject(t, 1, []int{1}, []uint64{0, 8})
	c.holdsObject(t, 2, []int{0, 0}, nil)
	c.holdsReach(t)
	c.says(t, alloc(0, 0, 0, 0), number(3))
	b.looks(t)
}

// P10.4, P10.6: to be asked turns nothing.
func TestAskingTurnsNothing(t *testing.T) {
	b := filled(t, 2, 3, 2)
	for range 3 {
		b.g.Reach()
		b.g.Globals()
		b.g.Own(1)
		b.g.Own(9)
		b.g.Object(2)
		b.g.Object(99)
		b.g.Slot(1, 2)
		b.g.Slot(1, 3)
		b.g.Read(1, 2, 0)
		b.g.Read(1, 2, 99)
		b.g.Clone()
	}
	b.looks(t)
	b.says(t, alloc(0, 0, 0, 0), number(7))
}

// shortActs are all acts that matter in a graph of one thread, two slots and a global root, of objects of one reference and one datum.
func shortActs() []act {
	return []act{alloc(0, 0, 1, 2), alloc(0, 1, 1, 2), load(0, 0, 0, 0), load(0, 1, 0, 0), store(0, 0, 0, 0), store(0, 0, 0, 1), write(0, 0, 0, 3), read(0, 1, 0),
		get(0, 0, 0), put(0, 0, 1), move(0, 1, 0), move(0, 0, 1), clearSlot(0, 0), push(0, 1), pop(0, 0)}
}

// P10.1 to P10.6: each row of up to four acts, and what a clone that is made ahead of the last one tells behind it.
func TestShortRows(t *testing.T) {
	acts := shortActs()
	total := 1
	for length := range 5 {
		for n := range total {
			b := made(t, 1, 2, 1)
			was := b
			for i := range length {
				if i == length-1 {
					was = both{b.g.Clone(), b.m.clone()}
				}
				b.does(t, acts[n%len(acts)])
				n /= len(acts)
			}
			b.looks(t)
			was.looks(t)
		}
		total *= len(acts)
	}
}

// anyAct is some act, most of them of what there is, in a graph of such counts.
func anyAct(next func(below int) int, threads, slots, globals int) act {
	near := func(there int) int {
		if next(40) == 0 {
			return few(there)[next(len(few(there)))]
		}
		return next(max(there, 1))
	}
	th, a, b := near(threads), near(slots), near(slots)
	switch next(13) {
	case 0, 1:
		size := next(7)
		if next(30) == 0 {
			size = near(maxFields + 1)
		}
		return alloc(th, a, near(min(max(size, 0), maxFields)+1), size)
	case 2, 3:
		return load(th, a, b, near(2))
	case 4, 5:
		return store(th, a, near(3), b)
	case 6:
		return read(th, a, near(3))
	case 7:
		return write(th, a, near(3), uint64(next(1<<31))*uint64(next(1<<31)))
	case 8:
		return get(th, a, near(globals))
	case 9:
		return put(th, near(globals), a)
	case 10:
		if next(2) == 0 {
			return clearSlot(th, a)
		}
		return move(th, a, b)
	case 11:
		return push(th, a)
	}
	return pop(th, a)
}

// P10.1 to P10.6: long rows of any acts, of what there is not too, on graphs of many counts; from time to time a clone goes on by itself.
func TestAnyActs(t *testing.T) {
	for round := range 60 {
		next := some(uint64(round))
		threads, slots, globals := 1+next(4), 1+next(maxSlots), next(maxGlobals+1)
		if round%20 == 7 {
			threads = maxThreads
		}
		b := made(t, threads, slots, globals)
		left := both{b.g.Clone(), b.m.clone()}
		for i := range 400 {
			b.does(t, anyAct(next, threads, slots, globals))
			b.looks(t)
			if i%50 == 49 {
				left.looks(t)
				left.does(t, anyAct(next, threads, slots, globals))
				left.looks(t)
				b, left = both{b.g.Clone(), b.m.clone()}, b
			}
		}
	}
}

// P10.5: what a thread loads, or gets, was reached ahead of that; what was made and is not reached never is again.
func TestNeverReachedAgain(t *testing.T) {
	for round := range 60 {
		next := some(uint64(round) + 500)
		threads, slots, globals := 1+next(3), 1+next(4), next(3)
		b := made(t, threads, slots, globals)
		lost := map[int]bool{}
		number := 0
		for range 400 {
			was := b.g.Reach()
			a := anyAct(next, threads, slots, globals)
			got := b.does(t, a)
			born := got.n == number+1
			if born {
				number++
			}
			if got.n != 0 && !born && !slices.Contains(was, got.n) {
				t.Fatalf("%s = %d, which was not reached: %v", a.name, got.n, was)
			}
			is := b.g.Reach()
			for _, n := range is {
				if lost[n] {
					t.Fatalf("behind %s the object %d is reached again", a.name, n)
				}
			}
			for n := 1; n <= number; n++ {
				lost[n] = lost[n] || !slices.Contains(is, n)
			}
		}
	}
}
