package access

import (
	"math"
	"slices"
	"testing"

	"demesne/api"
	"demesne/arena"
	"demesne/give"
	"demesne/layout"
	"demesne/list"
	"demesne/roots"
	"demesne/script"
	"demesne/word"
)

// op is an operation with its arguments.
func op(do uint8, args ...uint8) script.Op {
	args = append(args, 0, 0, 0)
	return script.Op{Do: do, A: args[0], B: args[1], C: args[2]}
}

// do does an operation that must not be refused.
func do(t *testing.T, th *Thread, do uint8, args ...uint8) Result {
	t.Helper()
	r := th.Do(op(do, args...))
	if r.E != api.OK {
		t.Fatalf("Do(%d, %v): %d", do, args, r.E)
	}
	return r
}

// P17.2: the chapter's example, over an arena.
func TestExample(t *testing.T) {
	l, e := layout.New(71, 1, 1)
	if e != api.OK || l.Blocks() != 2 {
		t.Fatalf("a layout: %d, of %d blocks", e, l.Blocks())
	}
	m, _ := arena.New(71)
	give.Begin(m, l)
	th, e := New(m, l, 0, 2)
	if e != api.OK {
		t.Fatalf("a thread: %d", e)
	}
	a := do(t, th, script.Alloc, 0, 1, 1).At
	b := do(t, th, script.Alloc, 1, 0, 1).At
	if a != l.Start(0) || b != a+2 || !slices.Equal(slotsOf(th), []int{a, b}) {
		t.Fatalf("objects at %d and %d, slots %v", a, b, slotsOf(th))
	}
	for i, at := range []int{a, b} {
		if h, _ := word.Take(m.Read(at)); h != (word.Head{Kind: word.Local, Refs: uint8(1 - i), Size: 1}) {
			t.Errorf("at %d at first: %+v", at, h)
		}
	}
	if r := do(t, th, script.Store, 0, 0, 1); r != (Result{}) {
		t.Errorf("Store: %v", r)
	}
	if r := do(t, th, script.Put, 0, 0); r != (Result{}) || m.Read(l.Global(0)) != uint64(a) {
		t.Errorf("Put: %v, the global root %d", r, m.Read(l.Global(0)))
	}
	do(t, th, script.Clear, 1)
	if r := do(t, th, script.Load, 1, 0, 0); r != (Result{At: b}) || !slices.Equal(slotsOf(th), []int{a, b}) {
		t.Errorf("Load: %v, slots %v", r, slotsOf(th))
	}
	for i, at := range []int{a, b} {
		if h, _ := word.Take(m.Read(at)); h != (word.Head{Kind: word.Global, Refs: uint8(1 - i), Size: 1}) {
			t.Errorf("at %d behind it: %+v", at, h)
		}
	}
	if len(th.Work) != 0 || len(th.Held) != 0 || th.Flag {
		t.Errorf("behind it: %+v", th)
	}
}

// P17.1: statuses and phases count on from 0.
func TestNumbers(t *testing.T) {
	if s := []uint8{Run, Prep, Sync}; !slices.Equal(s, []uint8{0, 1, 2}) {
		t.Errorf("statuses %v", s)
	}
	if p := []uint64{Idle, ToPrep, ToSync, Snap, Mark, Term, Sweep}; !slices.Equal(p, []uint64{0, 1, 2, 3, 4, 5, 6}) {
		t.Errorf("phases %v", p)
	}
}

// P17.1: a new thread is in Run, of the colour 0, its flag down; nothing waits, nothing is held, all slots are 0; and making it touches nothing.
func TestNew(t *testing.T) {
	for threads := 1; threads <= 64; threads += 9 {
		for globals := range 9 {
			p := lay(t, threads, globals, 1+globals)
			m := newTape(p.words()...)
			for id := range 256 {
				for slots := -1; slots <= 9; slots++ {
					th, e := New(m, p.l, uint8(id), slots)
					if id >= threads || slots < 1 || slots > 8 {
						if th != nil || e != api.ErrArg {
							t.Fatalf("the thread %d of %d, %d slots: %+v, %d; want none, ErrArg", id, threads, slots, th, e)
						}
						continue
					}
					if e != api.OK || th.M != api.Mem(m) || th.L != p.l || int(th.ID) != id || th.Roots.Slots() != slots || th.Roots.Depth() != 0 {
						t.Fatalf("the thread %d of %d, %d slots: %+v, %d", id, threads, slots, th, e)
					}
					if th.Status != Run || th.Colour != 0 || th.Flag || len(th.Work) != 0 || len(th.Held) != 0 || th.Point != nil {
						t.Fatalf("a new thread: %+v", th)
					}
					if len(th.Roots.All()) != 0 || th.Free.Len(0)+th.Free.Len(1)+th.Free.Len(2)+th.Free.Len(3) != 0 {
						t.Fatalf("a new thread: slots %v, its list has cells", slotsOf(th))
					}
				}
			}
			if len(m.marks) != 0 {
				t.Fatalf("New touched %v", m.marks)
			}
		}
	}
}

// P17.1: without a memory there is no thread, whatever else is wrong.
func TestNewWithoutMemory(t *testing.T) {
	l := lay(t, 2, 1, 1).l
	for _, id := range []uint8{0, 1, 2, 64, 255} {
		for _, slots := range []int{math.MinInt, -1, 0, 1, 8, 9, math.MaxInt} {
			for _, l := range []layout.Layout{l, {}} {
				if th, e := New(nil, l, id, slots); th != nil || e != api.ErrNil {
					t.Errorf("without a memory, the id %d, %d slots: %+v, %d", id, slots, th, e)
				}
			}
			if th, e := New(newTape(), layout.Layout{}, id, slots); th != nil || e != api.ErrArg {
				t.Errorf("of no layout, the id %d, %d slots: %+v, %d", id, slots, th, e)
			}
			if th, e := New(newTape(), l, id, slots); (id > 1 || slots < 1 || slots > 8) != (e == api.ErrArg) || (th == nil) != (e != api.OK) {
				t.Errorf("the id %d, %d slots: %+v, %d", id, slots, th, e)
			}
		}
	}
}

// P17.1: threads have nothing in common but the memory.
func TestApart(t *testing.T) {
	p := lay(t, 2, 1, 2)
	m := newTape(p.words()...)
	a, _ := New(m, p.l, 0, 2)
	b, _ := New(m, p.l, 1, 2)
	c, _ := New(m, p.l, 0, 2)
	do(t, a, script.Alloc, 0, 1, 1)
	do(t, a, script.Put, 0, 0)
	do(t, a, script.Push, 0)
	a.Flag, a.Status, a.Colour = true, Sync, 1
	for _, x := range []*Thread{b, c} {
		if s := stateOf(x); s != told([]int{0, 0}, nil, list.New(), nil, nil, false) || x.Status != Run || x.Colour != 0 {
			t.Errorf("another one has %v", s)
		}
	}
}

// P17.1: the collector walks in Snap, and in whatever is later.
func TestWalks(t *testing.T) {
	for phase, want := range map[uint64]bool{Idle: false, ToPrep: false, ToSync: false, Snap: true, Mark: true, Term: true, Sweep: true,
		7: true, 8: true, 255: true, 256: true, 1 << 32: true, 1 << 63: true, 1<<63 + 1: true, math.MaxUint64: true} {
		if is := Walks(phase); is != want {
			t.Errorf("Walks(%d) = %v", phase, is)
		}
	}
}

// The places of what stands in the words of byHand; of Local ones the first number behind the name is how many references, the second one how many data.
const (
	local21  = 10 // to local11, nil; 7
	local11  = 20 // to local01; 8
	local01  = 30 // 9
	shared21 = 40 // of the colour 0: to white, nil; 6
	white    = 50 // of the colour 0
	black    = 54 // of the colour 1
	grey     = 56 // of the colour 1, grey
	shared10 = 58 // of the colour 0: to black
)

// byHand is an arena of 2 threads, 2 global roots and 2 blocks, and what stands there.
func byHand(t *testing.T) (plan, plain) {
	p := lay(t, 2, 2, 2)
	words := p.words()
	words[0] = 0
	for at, w := range map[int]uint64{
		5:       white,
		local21: head(2, 2, 3), 11: local11, 13: 7,
		local11: head(2, 1, 2), 21: local01, 22: 8,
		local01: head(2, 0, 1), 31: 9,
		shared21: head(3, 2, 3), 41: white, 43: 6,
		white:    head(3, 0, 0),
		black:    head(3, 0, 0) + colourBit,
		grey:     head(3, 0, 0) + colourBit + greyBit,
		shared10: head(3, 1, 1), 59: black,
	} {
		words[at] = w
	}
	return p, words
}

// slotsByHand are the slots of the thread in byHand.
func slotsByHand() []int {
	return []int{local21, local11, local01, shared21, white, black, shared10, 0}
}

// hand is what comes of an operation: the touches, and the point; the result; and the words that are other ones behind it.
type hand struct {
	op     script.Op
	marks  string
	r      Result
	change map[int]uint64
}

// holds does the operation in a status, of a colour, in a phase, and holds all that comes of it.
func (h hand) holds(t *testing.T, status, colour uint8, phase uint64) *pair {
	t.Helper()
	p, words := byHand(t)
	words[1] = phase
	x := newPair(t, p, words, 0, 8).has(slotsByHand()...).in(status, colour, false)
	for range 2 {
		x.do(t, op(script.Push, 1))
		x.do(t, op(script.Push, 2))
	}
	from := len(x.is.marks)
	r := x.do(t, h.op)
	if got := texts(x.is.marks[from:]); got != h.marks || r != h.r {
		t.Errorf("%v in the status %d, colour %d, phase %d: %s, %v; want %s, %v", h.op, status, colour, phase, got, r, h.marks, h.r)
	}
	want := slices.Clone(words)
	for at, w := range h.change {
		want[at] = w
	}
	if !slices.Equal(x.is.words, want) {
		t.Errorf("%v in the status %d, colour %d, phase %d: the words %v; want %v", h.op, status, colour, phase, x.is.words, want)
	}
	return x
}

// P17.2: operations that hang on neither status nor phase, touch by touch, by hand: r reads, w writes, u updates; the point is a dot.
func TestByHand(t *testing.T) {
	for _, h := range []hand{
		{op(script.Load, 7, 0, 0), "r10 r11 .", Result{At: local11}, nil},
		{op(script.Load, 7, 0, 1), "r10 r12 .", Result{}, nil},
		{op(script.Load, 0, 0, 0), "r10 r11 .", Result{At: local11}, nil},
		{op(script.Load, 7, 3, 0), "r40 r41 .", Result{At: white}, nil},
		{op(script.Load, 7, 6, 0), "r58 r59 .", Result{At: black}, nil},
		{op(script.Load, 7, 0, 2), "r10", Result{E: api.ErrArg}, nil},
		{op(script.Load, 7, 4, 0), "r50", Result{E: api.ErrArg}, nil},
		{op(script.Load, 7, 4, 255), "r50", Result{E: api.ErrArg}, nil},
		{op(script.Read, 0, 0, 9), "r10 r13 .", Result{V: 7}, nil},
		{op(script.Read, 1, 0), "r20 r22 .", Result{V: 8}, nil},
		{op(script.Read, 2, 0), "r30 r31 .", Result{V: 9}, nil},
		{op(script.Read, 3, 0), "r40 r43 .", Result{V: 6}, nil},
		{op(script.Read, 0, 1), "r10", Result{E: api.ErrArg}, nil},
		{op(script.Read, 6, 0), "r58", Result{E: api.ErrArg}, nil},
		{op(script.Write, 0, 0, 5), "r10 w13 .", Result{}, map[int]uint64{13: 5}},
		{op(script.Write, 3, 0, 255), "r40 w43 .", Result{}, map[int]uint64{43: 255}},
		{op(script.Write, 3, 1, 5), "r40", Result{E: api.ErrArg}, nil},
		{op(script.Write, 5, 0, 5), "r54", Result{E: api.ErrArg}, nil},
		{op(script.Get, 7, 0, 9), "r5 .", Result{At: white}, nil},
		{op(script.Get, 0, 1), "r6 .", Result{}, nil},
		{op(script.Store, 0, 0, 7), "r1 r10 w11 .", Result{}, map[int]uint64{11: 0}},
		{op(script.Store, 0, 1, 0), "r1 r10 w12 .", Result{}, map[int]uint64{12: local21}},
		{op(script.Store, 0, 1, 2), "r1 r10 w12 .", Result{}, map[int]uint64{12: local01}},
		{op(script.Store, 1, 0, 4), "r1 r20 w21 .", Result{}, map[int]uint64{21: white}},
		{op(script.Store, 0, 2, 2), "r1 r10", Result{E: api.ErrArg}, nil},
		{op(script.Store, 3, 2, 2), "r1 r40", Result{E: api.ErrArg}, nil},
		{op(script.Store, 3, 1, 7), "r1 r40 u42 .", Result{}, nil},
		{op(script.Put, 1, 7, 9), "r1 u6 .", Result{}, nil},
		{op(script.Move, 7, 0, 9), ".", Result{}, nil},
		{op(script.Move, 0, 7), ".", Result{}, nil},
		{op(script.Clear, 0, 9, 9), ".", Result{}, nil},
		{op(script.Push, 0, 9, 9), ".", Result{}, nil},
		{op(script.Pop, 7, 9, 9), ".", Result{}, nil},
		{op(script.Load, 8, 0, 0), "", Result{E: api.ErrArg}, nil},
		{op(script.Load, 0, 7, 0), "", Result{E: api.ErrNone}, nil},
		{op(script.Store, 7, 0, 0), "", Result{E: api.ErrNone}, nil},
		{op(script.Get, 0, 2), "", Result{E: api.ErrArg}, nil},
		{op(script.Put, 2, 0), "", Result{E: api.ErrArg}, nil},
		{op(script.Step), "", Result{E: api.ErrForm}, nil},
		{op(script.Collect), "", Result{E: api.ErrForm}, nil},
		{op(script.Cycle), "", Result{E: api.ErrForm}, nil},
	} {
		for status := range uint8(3) {
			for phase := range uint64(8) {
				h.holds(t, status, 0, phase)
				h.holds(t, status, 1, phase)
			}
		}
	}
}

// P17.2: what slots and the stack have behind operations that touch nothing, and behind such as load.
func TestSlotsByHand(t *testing.T) {
	for _, x := range []struct {
		op    script.Op
		slots []int
		stack []int
	}{
		{op(script.Move, 7, 0), []int{10, 20, 30, 40, 50, 54, 58, 10}, []int{20, 30, 20, 30}},
		{op(script.Move, 0, 7), []int{0, 20, 30, 40, 50, 54, 58, 0}, []int{20, 30, 20, 30}},
		{op(script.Clear, 3), []int{10, 20, 30, 0, 50, 54, 58, 0}, []int{20, 30, 20, 30}},
		{op(script.Push, 0), []int{10, 20, 30, 40, 50, 54, 58, 0}, []int{20, 30, 20, 30, 10}},
		{op(script.Push, 7), []int{10, 20, 30, 40, 50, 54, 58, 0}, []int{20, 30, 20, 30, 0}},
		{op(script.Pop, 0), []int{30, 20, 30, 40, 50, 54, 58, 0}, []int{20, 30, 20}},
		{op(script.Load, 6, 0, 0), []int{10, 20, 30, 40, 50, 54, 20, 0}, []int{20, 30, 20, 30}},
		{op(script.Load, 0, 0, 1), []int{0, 20, 30, 40, 50, 54, 58, 0}, []int{20, 30, 20, 30}},
		{op(script.Get, 2, 0), []int{10, 20, 50, 40, 50, 54, 58, 0}, []int{20, 30, 20, 30}},
		{op(script.Get, 2, 1), []int{10, 20, 0, 40, 50, 54, 58, 0}, []int{20, 30, 20, 30}},
		{op(script.Load, 6, 0, 2), []int{10, 20, 30, 40, 50, 54, 58, 0}, []int{20, 30, 20, 30}},
		{op(script.Store, 3, 0, 0), []int{10, 20, 30, 40, 50, 54, 58, 0}, []int{20, 30, 20, 30}},
		{op(script.Put, 0, 7), []int{10, 20, 30, 40, 50, 54, 58, 0}, []int{20, 30, 20, 30}},
	} {
		p, words := byHand(t)
		x2 := newPair(t, p, words, 0, 8).has(slotsByHand()...)
		for _, slot := range []uint8{1, 2, 1, 2} {
			x2.do(t, op(script.Push, slot))
		}
		x2.do(t, x.op)
		if slots, stack := slotsOf(x2.th), x2.th.Roots.Stack(); !slices.Equal(slots, x.slots) || !slices.Equal(stack, x.stack) {
			t.Errorf("%v: %v, %v; want %v, %v", x.op, slots, stack, x.slots, x.stack)
		}
	}
}

// shares are operations that write into what is shared, in a status, colour and phase; and whether the flag is up then.
type shares struct {
	status, colour uint8
	phase          uint64
	hand
	flag bool
}

// P17.2: to write into what is shared, touch by touch, by hand: what is held stands in round brackets, the worklist in square ones, and the flag, where it is up, is a mark of exclamation, all as they are ahead of the touch.
func TestSharedByHand(t *testing.T) {
	const c, g = colourBit, greyBit
	put0, put2 := op(script.Put, 0, 7), op(script.Put, 0, 2)
	store0, store1, store2, store4 := op(script.Store, 3, 0, 7), op(script.Store, 3, 0, 1), op(script.Store, 3, 0, 2), op(script.Store, 3, 0, 4)
	for _, x := range []shares{
		// What is overwritten is shaded neither in Run at rest, nor in Prep.
		{Run, 0, Idle, hand{store0, "r1 r40 u41 .", Result{}, map[int]uint64{41: 0}}, false},
		{Run, 1, ToSync, hand{store0, "r1 r40 u41 .", Result{}, map[int]uint64{41: 0}}, false},
		{Run, 1, Sweep, hand{store0, "r1 r40 u41 .", Result{}, map[int]uint64{41: 0}}, false},
		{Prep, 1, Mark, hand{store0, "r1 r40 u41 .", Result{}, map[int]uint64{41: 0}}, false},
		{Run, 1, Idle, hand{put0, "r1 u5 .", Result{}, map[int]uint64{5: 0}}, false},
		// A Local one is published, with all that hangs on it, in the thread's colour; a shared one is not.
		{Run, 0, Idle, hand{store4, "r1 r40 r50 u41 .", Result{}, nil}, false},
		{Run, 0, Idle, hand{store2, "r1 r40 r30 u30 [30]r30 u41 .", Result{}, map[int]uint64{30: head(3, 0, 1), 41: 30}}, false},
		{Run, 1, ToPrep, hand{store1, "r1 r40 r20 u20 [20]r20 [20]r21 [20]u30 [30]r30 u41 .", Result{}, map[int]uint64{20: head(3, 1, 2) + c, 30: head(3, 0, 1) + c, 41: 20}}, false},
		{Prep, 1, Idle, hand{put2, "r1 r30 u30 [30]r30 u5 .", Result{}, map[int]uint64{30: head(3, 0, 1) + c, 5: 30}}, false},
		// In Run, from Snap to Term, what is overwritten is shaded in the thread's own colour.
		{Run, 0, Snap, hand{store0, "r1 r40 u41 . (50)r50", Result{}, map[int]uint64{41: 0}}, false},
		{Run, 1, Snap, hand{store0, "r1 r40 u41 . (50)r50 (50)u50", Result{}, map[int]uint64{41: 0, 50: head(3, 0, 0) + c + g}}, true},
		{Run, 1, Mark, hand{put0, "r1 u5 . (50)r50 (50)u50", Result{}, map[int]uint64{5: 0, 50: head(3, 0, 0) + c + g}}, true},
		{Run, 1, Term, hand{put2, "r1 r30 u30 [30]r30 u5 . (50)r50 (50)u50", Result{}, map[int]uint64{5: 30, 30: head(3, 0, 1) + c, 50: head(3, 0, 0) + c + g}}, true},
		{Run, 0, Mark, hand{op(script.Store, 6, 0, 7), "r1 r58 u59 . (54)r54 (54)u54", Result{}, map[int]uint64{59: 0, 54: head(3, 0, 0) + g}}, true},
		{Run, 1, Mark, hand{op(script.Store, 6, 0, 7), "r1 r58 u59 . (54)r54", Result{}, map[int]uint64{59: 0}}, false},
		// In Sync both are, in the other colour, also the one that was just published.
		{Sync, 0, Idle, hand{store0, "r1 r40 u41 . (50)r50 (50)u50", Result{}, map[int]uint64{41: 0, 50: head(3, 0, 0) + c + g}}, true},
		{Sync, 0, Idle, hand{store2, "r1 r40 r30 u30 [30]r30 r30 u30 !u41 . (50)!r50 (50)!u50", Result{}, map[int]uint64{41: 30, 30: head(3, 0, 1) + c + g, 50: head(3, 0, 0) + c + g}}, true},
		{Sync, 1, ToSync, hand{store2, "r1 r40 r30 u30 [30]r30 r30 u30 !u41 . (50)!r50", Result{}, map[int]uint64{41: 30, 30: head(3, 0, 1) + g}}, true},
		{Sync, 1, ToSync, hand{store4, "r1 r40 r50 r50 u41 . (50)r50", Result{}, nil}, false},
		{Sync, 0, Sweep, hand{store4, "r1 r40 r50 r50 u50 !u41 . (50)!r50", Result{}, map[int]uint64{50: head(3, 0, 0) + c + g}}, true},
		{Sync, 0, ToPrep, hand{op(script.Put, 1, 5), "r1 r54 r54 u6 .", Result{}, map[int]uint64{6: 54}}, false},
		{Sync, 1, ToPrep, hand{op(script.Put, 1, 5), "r1 r54 r54 u54 !u6 .", Result{}, map[int]uint64{6: 54, 54: head(3, 0, 0) + g}}, true},
		{Sync, 0, ToSync, hand{op(script.Store, 6, 0, 7), "r1 r58 u59 . (54)r54", Result{}, map[int]uint64{59: 0}}, false},
		{Sync, 1, Idle, hand{op(script.Put, 1, 7), "r1 u6 .", Result{}, nil}, false},
		// Into what is Local nothing is shaded, and nothing published.
		{Sync, 0, Snap, hand{op(script.Store, 0, 0, 4), "r1 r10 w11 .", Result{}, map[int]uint64{11: 50}}, false},
		{Run, 1, Mark, hand{op(script.Store, 0, 0, 2), "r1 r10 w11 .", Result{}, map[int]uint64{11: 30}}, false},
	} {
		if th := x.holds(t, x.status, x.colour, x.phase).th; th.Flag != x.flag || len(th.Held) != 0 || len(th.Work) != 0 {
			t.Errorf("%v in the status %d, colour %d, phase %d: the flag %v, %v held, the worklist %v", x.op, x.status, x.colour, x.phase, th.Flag, th.Held, th.Work)
		}
	}
}

// P17.2: objects are made, touch by touch, by hand: the phase, then what Make does; what is taken is held till the slot has it.
func TestAllocByHand(t *testing.T) {
	for _, x := range []struct {
		phase  uint64
		bits   uint64 // the map
		entry  uint64 // that of the block 0
		free   []int  // of the class 0
		op     script.Op
		marks  string
		r      Result
		header uint64 // at the block 0's beginning
	}{
		{Idle, 0, 0, []int{9}, op(script.Alloc, 7, 1, 1), "r1 (9)w10 (9)w9 .", Result{At: 9}, head(2, 1, 1) + 32},
		{Sweep + 2, 0, 0, []int{9}, op(script.Alloc, 0, 0, 0), "r1 (9)w9 .", Result{At: 9}, head(2, 0, 0) + 32},
		{Snap, 0, 0, nil, op(script.Alloc, 7, 0, 1), "r1 r7 r8 u0 .", Result{E: api.ErrMem}, 5},
		{Sweep, 0, 4 + 128, nil, op(script.Alloc, 7, 0, 1), "r1 r7 r8 u0 .", Result{E: api.ErrMem}, 5},
		{ToSync, 0, 0, nil, op(script.Alloc, 7, 0, 1), "r1 r7 r8 r7 r8 u0 .", Result{E: api.ErrMem}, 5},
		{Idle, 0, 0, nil, op(script.Alloc, 7, 3, 9), "r1 u0 r7 r8 u0 .", Result{E: api.ErrMem}, 5},
		{Term, 0, 0, nil, op(script.Alloc, 7, 3, 9), "r1 u0 .", Result{E: api.ErrMem}, 5},
		{Mark, 1, 0, nil, op(script.Alloc, 7, 8, 9), "r1 u0 (9)w10 (9)w11 (9)w12 (9)w13 (9)w14 (9)w15 (9)w16 (9)w17 (9)w18 (9)w9 (9)w7 .", Result{At: 9}, head(2, 8, 9) + 32},
		{ToSync, 0, 4 + 128, nil, op(script.Alloc, 7, 0, 9), "r1 u0 r7 w7 u0 r8 u0 (9)w10 (9)w11 (9)w12 (9)w13 (9)w14 (9)w15 (9)w16 (9)w17 (9)w18 (9)w9 (9)w7 .", Result{At: 9}, head(2, 0, 9) + 32},
		{Idle, 1, 0, []int{9}, op(script.Alloc, 7, 2, 1), "", Result{E: api.ErrArg}, 5},
		{Idle, 1, 0, []int{9}, op(script.Alloc, 7, 2, 96), "", Result{E: api.ErrArg}, 5},
		{Idle, 1, 0, []int{9}, op(script.Alloc, 8, 0, 1), "", Result{E: api.ErrArg}, 5},
	} {
		for status := range uint8(3) {
			p, words := byHand(t)
			words[0], words[1], words[7], words[9], words[10] = x.bits, x.phase, x.entry, 5, 1<<40
			y := newPair(t, p, words, 1, 8).has(slotsByHand()...).in(status, status&1, status == 2)
			for _, at := range x.free {
				y.th.Free.Push(0, at)
				y.o.free.Push(0, at)
			}
			y.is.state = func() state {
				s := stateOf(y.th)
				s.brief = briefly(y.th.Held, y.th.Work, false)
				return s
			}
			y.is.others = func(plain) {
				if slot, _ := y.th.Roots.Get(int(x.op.A)); slot != slotsByHand()[x.op.A] {
					t.Errorf("%v: the slot has %d ahead of the last touch", x.op, slot)
				}
			}
			y.want.state = func() state {
				s := y.o.state()
				s.brief = briefly(y.o.held, y.o.work, false)
				return s
			}
			r := y.do(t, x.op)
			if got := texts(y.is.marks); got != x.marks || r != x.r || y.is.words[9] != x.header {
				t.Errorf("%v in %d: %s, %v, the header %d; want %s, %v, %d", x.op, x.phase, got, r, y.is.words[9], x.marks, x.r, x.header)
			}
			if slot, _ := y.th.Roots.Get(int(x.op.A)); r.E == api.OK && slot != 9 || len(y.th.Held) != 0 || y.th.Flag != (status == 2) {
				t.Errorf("%v: the slot has %d, held %v, the flag %v", x.op, slot, y.th.Held, y.th.Flag)
			}
		}
	}
}

// P17.1: an operation of a thread that is nil, or of one that lacks a memory, roots or a list, is refused ahead of all else, and nothing is touched.
func TestNothingThere(t *testing.T) {
	p, words := byHand(t)
	m := newTape(words...)
	r, _ := roots.New(2)
	r.Set(0, local21)
	peek := func(at int) uint64 {
		t.Errorf("peek was asked of %d", at)
		return 0
	}
	point := func() { t.Error("the point was told") }
	for _, th := range []*Thread{
		nil, {}, {Point: point}, {M: m}, {L: p.l}, {Roots: r, Free: list.New(), L: p.l, Point: point},
		{M: m, Free: list.New(), L: p.l, Point: point}, {M: m, Roots: r, L: p.l, Point: point},
		{Roots: r, Free: list.New(), L: p.l, Status: Sync, Colour: 1, ID: 255, Point: point},
	} {
		for do := range 256 {
			for _, a := range []uint8{0, 1, 2, 255} {
				x := op(uint8(do), a, 0, 0)
				if e := th.Check(x, peek); e != api.ErrNil {
					t.Errorf("Check(%v) of %+v: %d", x, th, e)
				}
				if e := th.Check(x, nil); e != api.ErrNil {
					t.Errorf("Check(%v) of %+v, without peek: %d", x, th, e)
				}
				if r := th.Do(x); r != (Result{E: api.ErrNil}) {
					t.Errorf("Do(%v) of %+v: %v", x, th, r)
				}
			}
		}
	}
	if len(m.marks) != 0 || !slices.Equal(r.All(), []int{local21}) {
		t.Errorf("touched %v, roots %v", m.marks, r.All())
	}
}

// P17.1: errors in their order: each thread and operation is wrong in all ways from one on, and mended one by one.
func TestCheckOrder(t *testing.T) {
	p, words := byHand(t)
	peek := plain(words).Read
	full := func() *Thread {
		th, _ := New(plain(words), p.l, 1, 8)
		for range 16 {
			th.Roots.Push(0)
		}
		return th
	}
	none := full()
	none.ID = 2
	for _, x := range []struct {
		th   *Thread
		op   script.Op
		want api.Errno
	}{
		{nil, op(script.Step, 8), api.ErrNil},
		{none, op(script.Step, 8), api.ErrForm},
		{none, op(script.Collect, 8), api.ErrForm},
		{none, op(script.Cycle, 8), api.ErrForm},
		{none, op(script.Cycle+1, 8), api.ErrForm},
		{none, op(255, 8), api.ErrForm},
		{none, op(script.Load, 0, 0, 9), api.ErrArg},
		{none, op(script.Clear, 0), api.ErrArg},
		{none, op(script.Push, 0), api.ErrArg},
		{full(), op(script.Load, 8, 0, 9), api.ErrArg},
		{full(), op(script.Load, 0, 8, 9), api.ErrArg},
		{full(), op(script.Load, 0, 0, 9), api.ErrNone},
		{full(), op(script.Store, 0, 9, 8), api.ErrArg},
		{full(), op(script.Store, 0, 9, 0), api.ErrNone},
		{full(), op(script.Read, 0, 9, 8), api.ErrNone},
		{full(), op(script.Write, 0, 9, 8), api.ErrNone},
		{full(), op(script.Push, 8), api.ErrArg},
		{full(), op(script.Push, 0), api.ErrFull},
		{full(), op(script.Pop, 8), api.ErrArg},
		{full(), op(script.Pop, 0), api.OK},
	} {
		if e := x.th.Check(x.op, peek); e != x.want {
			t.Errorf("Check(%v): %d; want %d", x.op, e, x.want)
		}
	}
}

// P17.1: a thread that the layout has not, or one of no layout, may do nothing.
func TestNoSuchThread(t *testing.T) {
	p, words := byHand(t)
	for _, id := range []uint8{2, 3, 63, 64, 255} {
		x := newPair(t, p, words, 0, 8).has(slotsByHand()...)
		x.th.ID, x.o.id = id, int(id)
		for do := range uint8(16) {
			x.check(t, op(do))
			x.do(t, op(do))
		}
		if len(x.is.marks) != 0 {
			t.Errorf("the thread %d touched %v", id, x.is.marks)
		}
	}
	x := newPair(t, p, words, 0, 8).has(slotsByHand()...)
	x.th.L = layout.Layout{}
	for do := script.Alloc; do <= script.Pop; do++ {
		if r := x.th.Do(op(do)); r != (Result{E: api.ErrArg}) || len(x.is.marks) != 0 {
			t.Errorf("%d of no layout: %v, touched %v", do, r, x.is.marks)
		}
	}
}

// few are arguments: such as may be, such as may just not be, and far ones.
func few() []uint8 { return []uint8{0, 1, 2, 3, 6, 7, 8, 95, 96, 128, 255} }

// P17.1, P17.2: all operations, and such as are none, with arguments of all kinds, with slots that have objects and such as have none: the errors, with and without peek; what is refused touches nothing.
func TestAllOperations(t *testing.T) {
	p, words := byHand(t)
	for _, slots := range []int{1, 2, 7, 8} {
		for _, depth := range []int{0, 1, 15, 16} {
			x := newPair(t, p, words, 0, slots).has(slotsByHand()[:slots]...)
			for range depth {
				x.do(t, op(script.Push, uint8(slots-1)))
			}
			for do := range 256 {
				l := few()
				if do > 16 && do < 253 {
					l = l[:1]
				}
				for _, a := range l {
					for _, b := range l {
						for _, c := range l {
							x.check(t, op(uint8(do), a, b, c))
						}
					}
				}
			}
		}
	}
	for do := range uint8(16) {
		for _, a := range few() {
			for _, b := range few() {
				for _, c := range few() {
					for slots := 8; slots > 0; slots -= 3 {
						x := newPair(t, p, words, 0, slots).has(slotsByHand()[:slots]...)
						x.do(t, op(do, a, b, c))
					}
				}
			}
		}
	}
}

// P17.1, P17.2: every object: how many references and data it has, and which of them there are.
func TestFields(t *testing.T) {
	p := lay(t, 1, 1, 4)
	from := p.start(0)
	for size := range uint64(96) {
		for refs := range size + 1 {
			if size > 9 && (size < 93 && size%16 > 1 || refs > 1 && refs < size-1 && refs%16 > 1) {
				continue
			}
			for _, kind := range []uint64{2, 3, 2 + markBit, 3 + colourBit + greyBit} {
				words := p.words()
				words[from] = head(0, refs, size) + kind
				x := newPair(t, p, words, 0, 2).has(from, 0)
				for i := range size {
					x.write(from+1+int(i), 1000+i)
				}
				for _, i := range []uint64{0, 1, refs - 1, refs, refs + 1, size - refs - 1, size - refs, size - refs + 1, size - 1, size, 95, 254, 255} {
					if i > 255 {
						continue
					}
					for _, y := range []script.Op{op(script.Load, 1, 0, uint8(i)), op(script.Read, 0, uint8(i)), op(script.Write, 0, uint8(i), 77), op(script.Store, 0, uint8(i), 0)} {
						x.check(t, y)
						x.do(t, y)
					}
				}
			}
		}
	}
}

// P17.1, P17.2: a slot may have whatever place there is: what no object's header is has neither references nor data; only one whose header is Global is shared.
func TestHeaders(t *testing.T) {
	p := lay(t, 1, 1, 1)
	from := p.start(0)
	look := func(w uint64) {
		words := p.words()
		words[from] = w
		x := newPair(t, p, words, 0, 2).has(from, from)
		x.is.marks, x.want.marks = nil, nil
		for i := range uint8(3) {
			for _, y := range []script.Op{op(script.Load, 1, 0, i), op(script.Read, 0, i), op(script.Write, 0, i, 0), op(script.Store, 0, i, 0)} {
				x.check(t, y)
				x.do(t, y)
				x.has(from, from)
			}
		}
		x.do(t, op(script.Put, 0, 0))
	}
	for low := range uint64(32) {
		for _, owner := range []uint64{0, 32, 63 * 32} {
			for refs := range uint64(4) {
				for size := range uint64(4) {
					look(low + owner + refs<<11 + size<<18)
				}
			}
			look(low + owner + 95<<11 + 95<<18)
			look(low + owner + 96<<11 + 96<<18)
			look(low + owner + 1<<11 + 96<<18)
			look(low + owner + 1<<11 + 127<<18)
		}
		for bit := 25; bit < 64; bit++ {
			look(low + 1<<11 + 2<<18 + 1<<bit)
		}
	}
	look(math.MaxUint64)
}

// P17.2: a global root of each number, in layouts of all numbers of threads and global roots.
func TestGlobals(t *testing.T) {
	for _, threads := range []int{1, 2, 9, 63, 64} {
		for globals := range 9 {
			p := lay(t, threads, globals, 1)
			words := p.words()
			for g := range globals {
				words[p.global(g)] = uint64(p.start(0) + 2*g)
			}
			x := newPair(t, p, words, uint8(threads-1), 2).has(p.start(0)+1, 0)
			for g := range uint8(10) {
				for _, y := range []script.Op{op(script.Get, 1, g), op(script.Put, g, 0), op(script.Get, 1, g)} {
					x.check(t, y)
					x.do(t, y)
				}
			}
		}
	}
}

// P17.2: where a word is read that can be no slot's reference, the slot stays as it is, and that is told; it is not done, so there is no point.
func TestReferencesThatMayNotBe(t *testing.T) {
	p, words := byHand(t)
	for _, w := range []uint64{1 << 63, 1<<63 + 1, math.MaxUint64, math.MaxUint64 - 9} {
		words[11], words[41], words[5] = w, w, w
		for _, y := range []script.Op{op(script.Load, 2, 0, 0), op(script.Load, 2, 3, 0), op(script.Get, 2, 0)} {
			x := newPair(t, p, words, 0, 8).has(slotsByHand()...)
			if r := x.do(t, y); r != (Result{E: api.ErrArg}) || !slices.Equal(slotsOf(x.th), slotsByHand()) || points(x.is.marks) != 0 {
				t.Errorf("%v of %d: %v, slots %v, %s", y, w, r, slotsOf(x.th), texts(x.is.marks))
			}
		}
		for status := range uint8(3) {
			x := newPair(t, p, words, 0, 8).has(slotsByHand()...).in(status, 1, false).write(1, Mark)
			x.do(t, op(script.Store, 3, 0, 4))
			x.do(t, op(script.Put, 0, 7))
		}
	}
	for _, w := range []uint64{1, 72, 73, 4096, 1 << 40, math.MaxInt} {
		words[11], words[41], words[5] = w, w, w
		for _, y := range []script.Op{op(script.Load, 2, 0, 0), op(script.Load, 2, 3, 0), op(script.Get, 2, 0)} {
			x := newPair(t, p, words, 0, 8).has(slotsByHand()...)
			if r := x.do(t, y); r != (Result{At: int(w)}) {
				t.Errorf("%v of %d: %v", y, w, r)
			}
			for _, z := range []script.Op{op(script.Load, 2, 2, 0), op(script.Store, 2, 0, 2), op(script.Write, 2, 0, 1), op(script.Put, 0, 2), op(script.Store, 3, 0, 2)} {
				x.check(t, z)
				x.do(t, z)
			}
		}
	}
}

// P17.2: what is shaded: by status and phase, in which colour, of what is overwritten and of what is written; o is the thread's own colour, n the other one, a dash none.
func TestShades(t *testing.T) {
	// Of each status what is overwritten, then what is written, phase by phase.
	table := map[uint8][2]string{
		Run:  {"---ooo---", "---------"},
		Prep: {"---------", "---------"},
		Sync: {"nnnnnnnnn", "nnnnnnnnn"},
		3:    {"---------", "---------"},
		255:  {"---------", "---------"},
	}
	p := lay(t, 1, 1, 1)
	a, b, c := p.start(0), p.start(0)+2, p.start(0)+4
	for status, rows := range table {
		for phase := range uint64(9) {
			for i := range 1 << 6 {
				colour, flag, into := uint8(i&1), i>>1&1 == 1, i>>2&1
				bits := uint64(i>>3&1*colourBit + i>>4&1*greyBit)
				which := i >> 5 & 1
				words := p.words()
				words[1], words[a], words[b], words[c] = phase, head(3, 1, 1), head(3, 0, 1)+bits, 0
				at := []int{a + 1, p.global(0)}[into]
				words[at] = uint64(b) * uint64(1-which)
				x := newPair(t, p, words, 0, 2).has(a, b*which).in(status, colour, flag)
				x.do(t, []script.Op{op(script.Store, 0, 0, 1), op(script.Put, 0, 1)}[into])
				want, up := words[b], flag
				if dye := rows[which][phase]; dye != '-' {
					in := uint64(colour)
					if dye == 'n' {
						in = 1 - in
					}
					white := bits&colourBit != in*colourBit
					if white {
						want = head(3, 0, 1) + in*colourBit + greyBit
					}
					up = flag || white || bits&greyBit != 0
				}
				if x.is.words[b] != want || x.th.Flag != up {
					t.Errorf("status %d, phase %d, colour %d, %s, bits %d: the header %d, the flag %v; want %d, %v", status, phase, colour, []string{"overwritten", "written"}[which], bits, x.is.words[b], x.th.Flag, want, up)
				}
			}
		}
	}
}

// P17.2: to write into what is shared, in all statuses, phases and colours: all kinds of what is written, and of what is overwritten.
func TestShared(t *testing.T) {
	p, words := byHand(t)
	words[0] = 0
	kinds := []uint64{0, local21, local11, local01, shared21, white, black, grey, shared10, 45, 1 << 40}
	for _, val := range kinds {
		for _, was := range kinds {
			for status := range uint8(3) {
				for phase := range uint64(8) {
					for colour := range uint8(2) {
						for _, y := range []script.Op{op(script.Put, 0, 1), op(script.Store, 0, 1, 1), op(script.Store, 0, 0, 1)} {
							x := newPair(t, p, words, 0, 2).has(shared21, int(val)).in(status, colour, false)
							x.write(1, phase).write(5, was).write(41, was).write(42, was)
							x.do(t, y)
						}
					}
				}
			}
		}
	}
}

// P17.2: what is overwritten is held from the Update on, in the same touch, till it is shaded; and that of the last one to be there is, if a memory asks more than once.
func TestHeld(t *testing.T) {
	p, words := byHand(t)
	for _, y := range []script.Op{op(script.Store, 3, 0, 1), op(script.Store, 3, 0, 7), op(script.Put, 0, 1), op(script.Put, 0, 4)} {
		for status := range uint8(3) {
			for phase := range uint64(7) {
				x := newPair(t, p, words, 0, 8).has(slotsByHand()...).in(status, 1, false).write(1, phase)
				at, updated := map[uint8]int{script.Store: 41, script.Put: 5}[y.Do], false
				x.is.behind = func() {
					k := x.is.marks[len(x.is.marks)-1]
					updated = updated || k.kind == update && k.at == at
					want := []int{}
					if updated {
						want = []int{white}
					}
					if !slices.Equal(x.th.Held, want) {
						t.Errorf("%v in %d, %d: behind %s there is held %v; want %v", y, status, phase, k.text(), x.th.Held, want)
					}
				}
				x.th.Point = func() {
					x.is.point()
					if !updated || !slices.Equal(x.th.Held, []int{white}) {
						t.Errorf("%v in %d, %d: at the point there is held %v", y, status, phase, x.th.Held)
					}
				}
				x.do(t, y)
				if !updated || len(x.th.Held) != 0 {
					t.Errorf("%v in %d, %d: in the end there is held %v", y, status, phase, x.th.Held)
				}
			}
		}
	}
}

// again is a memory that asks an Update's function of another word first, as one does that was too late, and then of what is there.
type again struct {
	plain
	other uint64
}

func (m again) Update(at int, f func(v uint64) uint64) uint64 {
	f(m.other)
	f(0)
	return m.plain.Update(at, f)
}

// P17.2: where a memory asks more than once, what was there in the end counts.
func TestAskedAgain(t *testing.T) {
	p, words := byHand(t)
	for _, was := range []uint64{0, white} {
		for _, other := range []uint64{0, white, black} {
			words[1], words[5] = Mark, was
			m := again{slices.Clone(words), other}
			th, _ := New(m, p.l, 0, 1)
			th.Colour = 1
			var held []int
			th.Point = func() { held = slices.Clone(th.Held) }
			do(t, th, script.Put, 0, 0)
			want := []int{white}[:was/white]
			if !slices.Equal(held, want) || len(th.Held) != 0 || th.Flag != (was != 0) || m.plain[white] != head(3, 0, 0)+(colourBit+greyBit)*(was/white) || m.plain[black] != words[black] {
				t.Errorf("of %d, asked of %d first: held %v, then %v, the flag %v, headers %d, %d", was, other, held, th.Held, th.Flag, m.plain[white], m.plain[black])
			}
		}
	}
}

// P17.2: what is held is new memory each time: who has kept it sees no other.
func TestHeldAnew(t *testing.T) {
	p, words := byHand(t)
	x := newPair(t, p, words, 0, 8).has(slotsByHand()...).in(Sync, 0, false)
	var seen [][]int
	x.is.behind = func() { seen = append(seen, x.th.Held) }
	x.do(t, op(script.Put, 0, 3))
	x.do(t, op(script.Put, 0, 5))
	x.do(t, op(script.Put, 0, 7))
	count := map[int]int{}
	for _, held := range seen {
		for _, at := range held {
			count[at]++
		}
	}
	// From the Update on: it, a reading of each, and an Update of the first one, which is white.
	if count[white] != 3 || count[shared21] != 2 || count[black] != 2 {
		t.Errorf("held %v", seen)
	}
}

// points is how many of these marks are points.
func points(l []mark) int {
	n := 0
	for _, k := range l {
		if k.kind == point {
			n++
		}
	}
	return n
}

// P17.2: an operation that touches nothing has its point when it is done, and but one.
func TestPointOfNoTouch(t *testing.T) {
	p, words := byHand(t)
	for _, y := range []struct {
		op    script.Op
		slots []int
		stack []int
	}{
		{op(script.Move, 7, 0), []int{10, 20, 30, 40, 50, 54, 58, 10}, []int{20, 30}},
		{op(script.Move, 0, 7), []int{0, 20, 30, 40, 50, 54, 58, 0}, []int{20, 30}},
		{op(script.Move, 3, 3), []int{10, 20, 30, 40, 50, 54, 58, 0}, []int{20, 30}},
		{op(script.Clear, 1), []int{10, 0, 30, 40, 50, 54, 58, 0}, []int{20, 30}},
		{op(script.Clear, 7), []int{10, 20, 30, 40, 50, 54, 58, 0}, []int{20, 30}},
		{op(script.Push, 0), []int{10, 20, 30, 40, 50, 54, 58, 0}, []int{20, 30, 10}},
		{op(script.Push, 7), []int{10, 20, 30, 40, 50, 54, 58, 0}, []int{20, 30, 0}},
		{op(script.Pop, 7), []int{10, 20, 30, 40, 50, 54, 58, 30}, []int{20}},
		{op(script.Pop, 2), []int{10, 20, 30, 40, 50, 54, 58, 0}, []int{20}},
	} {
		for status := range uint8(3) {
			x := newPair(t, p, words, 0, 8).has(slotsByHand()...)
			do(t, x.th, script.Push, 1)
			do(t, x.th, script.Push, 2)
			x.th.Status, x.is.marks = status, nil
			told := 0
			x.th.Point = func() {
				told++
				if slots, stack := slotsOf(x.th), x.th.Roots.Stack(); !slices.Equal(slots, y.slots) || !slices.Equal(stack, y.stack) {
					t.Errorf("%v: at the point %v, %v; want %v, %v", y.op, slots, stack, y.slots, y.stack)
				}
			}
			if r := x.th.Do(y.op); r != (Result{}) || told != 1 || len(x.is.marks) != 0 {
				t.Errorf("%v: %v, %d points, touched %v", y.op, r, told, x.is.marks)
			}
		}
	}
}

// P17.2: what is refused has no point, be it behind the header's touch, or ahead of all touches; that memory is out has one.
func TestPointOfRefused(t *testing.T) {
	p, words := byHand(t)
	for _, y := range []struct {
		op      script.Op
		want    api.Errno
		touches int
		points  int
	}{
		{op(script.Load, 7, 0, 2), api.ErrArg, 1, 0},
		{op(script.Load, 7, 3, 2), api.ErrArg, 1, 0},
		{op(script.Store, 0, 2, 1), api.ErrArg, 2, 0},
		{op(script.Store, 3, 2, 1), api.ErrArg, 2, 0},
		{op(script.Read, 0, 1), api.ErrArg, 1, 0},
		{op(script.Read, 3, 1), api.ErrArg, 1, 0},
		{op(script.Write, 0, 1, 7), api.ErrArg, 1, 0},
		{op(script.Write, 3, 1, 7), api.ErrArg, 1, 0},
		{op(script.Load, 8, 0, 0), api.ErrArg, 0, 0},
		{op(script.Get, 7, 2), api.ErrArg, 0, 0},
		{op(script.Move, 8, 0), api.ErrArg, 0, 0},
		{op(script.Move, 0, 8), api.ErrArg, 0, 0},
		{op(script.Clear, 8), api.ErrArg, 0, 0},
		{op(script.Push, 8), api.ErrArg, 0, 0},
		{op(script.Pop, 8), api.ErrArg, 0, 0},
		{op(script.Pop, 0), api.ErrNone, 0, 0},
		{op(script.Read, 7, 0), api.ErrNone, 0, 0},
		{op(script.Alloc, 0, 2, 1), api.ErrArg, 0, 0},
		{op(script.Step), api.ErrForm, 0, 0},
		{op(script.Collect), api.ErrForm, 0, 0},
		{op(script.Alloc, 0, 0, 1), api.ErrMem, 6, 1},
		{op(script.Alloc, 0, 0, 9), api.ErrMem, 5, 1},
	} {
		for status := range uint8(3) {
			x := newPair(t, p, words, 0, 8).has(slotsByHand()...).in(status, 0, false)
			r := x.do(t, y.op)
			if n := points(x.is.marks); r != (Result{E: y.want}) || n != y.points || len(x.is.marks)-n != y.touches {
				t.Errorf("%v: %v, %s; want %d, %d touches, %d points", y.op, r, texts(x.is.marks), y.want, y.touches, y.points)
			}
		}
	}
	x := newPair(t, p, words, 0, 8)
	for range api.MaxStack {
		x.do(t, op(script.Push, 0))
	}
	if r := x.do(t, op(script.Push, 0)); r != (Result{E: api.ErrFull}) || points(x.is.marks) != api.MaxStack {
		t.Errorf("onto a full stack: %v, %s", r, texts(x.is.marks))
	}
}

// P17.2: the point is told behind the last touch, but of Store and Put into what is shared behind the Update of the word: once for each operation that is done, and never for one that is not; and without one all is as it is with one.
func TestPoint(t *testing.T) {
	p, words := byHand(t)
	words[0] = 3
	pick := some(17)
	x := newPair(t, p, words, 0, 8).has(slotsByHand()...)
	y := newPair(t, p, words, 0, 8).has(slotsByHand()...)
	y.th.Point = nil
	for range 3000 {
		z := op(uint8(pick(13)), uint8(pick(9)), uint8(pick(3)), uint8(pick(9)))
		status, colour, phase := uint8(pick(3)), uint8(pick(2)), uint64(pick(8))
		x.in(status, colour, x.th.Flag).write(1, phase)
		y.in(status, colour, y.th.Flag).write(1, phase)
		from, other := len(x.is.marks), len(y.is.marks)
		r := x.do(t, z)
		if r2 := y.th.Do(z); r2 != r || stateOf(y.th) != stateOf(x.th) || !slices.Equal(x.is.words, y.is.words) {
			t.Fatalf("%v without a point: %v, %v; want %v, %v", z, r2, stateOf(y.th), r, stateOf(x.th))
		}
		marks := x.is.marks[from:]
		at := slices.IndexFunc(marks, func(k mark) bool { return k.kind == point })
		touches := slices.DeleteFunc(slices.Clone(marks), func(k mark) bool { return k.kind == point })
		want := 0
		if r.E == api.OK || r.E == api.ErrMem {
			want = 1
		}
		if points(marks) != want || !slices.Equal(touches, y.is.marks[other:]) {
			t.Fatalf("%v: %v, %s; without a point %s", z, r, texts(marks), texts(y.is.marks[other:]))
		}
		if at < 0 || at == len(marks)-1 {
			continue
		}
		if k := marks[at-1]; z.Do != script.Store && z.Do != script.Put || k.kind != update || k.is != uint64(slotsOf(x.th)[argumentVal(z)]) || len(marks)-at > 3 {
			t.Fatalf("%v: %s", z, texts(marks))
		}
	}
}

// argumentVal is the slot of what a Store, or a Put, writes.
func argumentVal(x script.Op) int {
	if x.Do == script.Store {
		return int(x.C)
	}
	return int(x.B)
}

// P17.2: where others change words between the touches, what is there at each touch counts.
func TestOthersBetween(t *testing.T) {
	p, words := byHand(t)
	words[0] = 3
	pick := some(1)
	some := []uint64{0, 1, 3, 4, 6, local21, local01, shared21, white, grey, head(2, 2, 3), head(3, 2, 3), head(2, 1, 1), head(3, 1, 1) + colourBit, head(3, 0, 0), head(3, 0, 0) + colourBit + greyBit}
	for range 30000 {
		x := newPair(t, p, words, 0, 8).has(slotsByHand()...).in(uint8(pick(3)), uint8(pick(2)), pick(2) == 0).write(1, uint64(pick(7)))
		at, v, when := []int{1, 5, 6, 10, 11, 20, 21, 30, 40, 41, 42, 43, 50, 54, 58, 59}[pick(16)], some[pick(len(some))], pick(9)
		for _, m := range []*tape{x.is, x.want} {
			m.others = func(words plain) {
				if len(m.marks) == when {
					words[at] = v
				}
			}
		}
		x.do(t, op(uint8(1+pick(11)), uint8(pick(8)), uint8(pick(8)), uint8(pick(8))))
	}
}
