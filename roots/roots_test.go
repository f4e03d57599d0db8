package roots

import (
	"math"
	"slices"
	"testing"

	"demesne/api"
)

// The limits that the chapter names.
const (
	maxSlots = 8
	maxStack = 16
)

// model is roots as the chapter tells them.
type model struct {
	slots []int
	stack []int
}

func modelOf(slots int) *model { return &model{slots: make([]int, slots)} }

func (m *model) has(slot int) bool { return 0 <= slot && slot < len(m.slots) }

func (m *model) get(slot int) (int, api.Errno) {
	if !m.has(slot) {
		return 0, api.ErrArg
	}
	return m.slots[slot], api.OK
}

func (m *model) set(slot, at int) api.Errno {
	if !m.has(slot) || at < 0 {
		return api.ErrArg
	}
	m.slots[slot] = at
	return api.OK
}

func (m *model) push(slot int) api.Errno {
	if !m.has(slot) {
		return api.ErrArg
	}
	if len(m.stack) >= maxStack {
		return api.ErrFull
	}
	m.stack = append(m.stack, m.slots[slot])
	return api.OK
}

func (m *model) pop(slot int) api.Errno {
	if !m.has(slot) {
		return api.ErrArg
	}
	n := len(m.stack)
	if n == 0 {
		return api.ErrNone
	}
	m.slots[slot] = m.stack[n-1]
	m.stack = m.stack[:n-1]
	return api.OK
}

func (m *model) all() []int {
	var all []int
	for _, at := range append(slices.Clone(m.slots), m.stack...) {
		if at != 0 {
			all = append(all, at)
		}
	}
	return all
}

// wild are numbers that are no slot, and no count of them, whatever there are: below, above, and such as fewer bits would take for one. 0 and maxSlots, of which each is one of the two alone, are not among them.
func wild() []int {
	return []int{-1, -2, -3, -4, -7, -8, -9, -16, -63, -64, -248, -255, -256, -1 << 16, -1<<16 + 1, -1 << 32, -1<<32 + 1, -1<<32 + 8, math.MinInt32, math.MinInt + 8, math.MinInt + 1, math.MinInt,
		9, 10, 15, 16, 17, 63, 64, 127, 128, 129, 255, 256, 257, 264, 1 << 16, 1<<16 + 1, math.MaxInt32, math.MaxInt32 + 1, 1 << 32, 1<<32 + 1, 1<<32 + 8, 1 << 62, math.MaxInt - 1, math.MaxInt}
}

// noSlots are numbers that are none of so many slots.
func noSlots(slots int) []int {
	none := wild()
	for slot := slots; slot <= maxSlots; slot++ {
		none = append(none, slot)
	}
	return none
}

// references are places, from 0 on, as far as they go.
func references() []int {
	return []int{0, 1, 2, 7, 8, 31, 63, 64, 127, 128, 255, 256, 257, 4095, 4096, 4097, 1<<15 - 1, 1 << 15, 1<<16 - 1, 1 << 16, 1<<16 + 1, math.MaxInt32, math.MaxInt32 + 1, 1<<32 - 1, 1 << 32, 1<<32 + 1, 1 << 62, math.MaxInt - 1, math.MaxInt}
}

// below are numbers that are no references.
func below() []int {
	return []int{-1, -2, -7, -8, -128, -255, -256, -257, -4096, -1 << 16, -1<<16 + 1, math.MinInt32, math.MinInt32 - 1, -1 << 32, -1<<32 + 1, -1 << 62, math.MinInt + 1, math.MinInt}
}

// made is roots of so many slots.
func made(t *testing.T, slots int) *Roots {
	t.Helper()
	r, e := New(slots)
	if r == nil || e != api.OK {
		t.Fatalf("New(%d) = %v, %d; want roots", slots, r, e)
	}
	return r
}

// filled is roots of so many slots, of which each has a reference of its own, from 100 on, and with so many references on the stack, from 200 on; and a model that is alike.
func filled(t *testing.T, slots, depth int) (*Roots, *model) {
	t.Helper()
	r, m := made(t, slots), modelOf(slots)
	for i := range depth {
		holdsSet(t, r, 0, 200+i, m.set(0, 200+i))
		holdsPush(t, r, 0, m.push(0))
	}
	for slot := range slots {
		holdsSet(t, r, slot, 100+slot, m.set(slot, 100+slot))
	}
	m.looks(t, r)
	return r, m
}

func holdsGet(t *testing.T, r *Roots, slot, want int, wantE api.Errno) {
	t.Helper()
	if at, e := r.Get(slot); at != want || e != wantE {
		t.Fatalf("Get(%d) = %d, %d; want %d, %d", slot, at, e, want, wantE)
	}
}

func holdsSet(t *testing.T, r *Roots, slot, at int, want api.Errno) {
	t.Helper()
	if e := r.Set(slot, at); e != want {
		t.Fatalf("Set(%d, %d) = %d; want %d", slot, at, e, want)
	}
}

func holdsPush(t *testing.T, r *Roots, slot int, want api.Errno) {
	t.Helper()
	if e := r.Push(slot); e != want {
		t.Fatalf("Push(%d) = %d; want %d", slot, e, want)
	}
}

func holdsPop(t *testing.T, r *Roots, slot int, want api.Errno) {
	t.Helper()
	if e := r.Pop(slot); e != want {
		t.Fatalf("Pop(%d) = %d; want %d", slot, e, want)
	}
}

func holdsAll(t *testing.T, r *Roots, want ...int) {
	t.Helper()
	if all := r.All(); !slices.Equal(all, want) {
		t.Fatalf("All() = %v; want %v", all, want)
	}
}

func holdsStack(t *testing.T, r *Roots, want ...int) {
	t.Helper()
	if stack := r.Stack(); !slices.Equal(stack, want) {
		t.Fatalf("Stack() = %v; want %v", stack, want)
	}
	if depth := r.Depth(); depth != len(want) {
		t.Fatalf("Depth() = %d; want %d", depth, len(want))
	}
}

// holdsSlots holds how many slots there are, and what they have.
func holdsSlots(t *testing.T, r *Roots, want ...int) {
	t.Helper()
	if slots := r.Slots(); slots != len(want) {
		t.Fatalf("Slots() = %d; want %d", slots, len(want))
	}
	for slot, at := range want {
		holdsGet(t, r, slot, at, api.OK)
	}
}

// looks holds all that roots answer without an act against the model.
func (m *model) looks(t *testing.T, r *Roots) {
	t.Helper()
	holdsSlots(t, r, m.slots...)
	holdsStack(t, r, m.stack...)
	holdsAll(t, r, m.all()...)
}

// P9.1, P9.2, P9.3: the chapter's example.
func TestExample(t *testing.T) {
	r := made(t, 2)
	holdsSet(t, r, 0, 7, api.OK)
	holdsPush(t, r, 0, api.OK)
	holdsSet(t, r, 0, 8, api.OK)
	holdsPop(t, r, 1, api.OK)
	holdsAll(t, r, 8, 7)
	holdsSlots(t, r, 8, 7)
	holdsStack(t, r)
}

// The limits are the chapter's.
func TestLimits(t *testing.T) {
	if api.MaxSlots != maxSlots || api.MaxStack != maxStack {
		t.Errorf("MaxSlots, MaxStack = %d, %d; want %d, %d", api.MaxSlots, api.MaxStack, maxSlots, maxStack)
	}
}

// P9.1: new roots of each count of slots have so many, which are 0, and no more; their stack is empty.
func TestNew(t *testing.T) {
	for slots := 1; slots <= maxSlots; slots++ {
		r := made(t, slots)
		holdsSlots(t, r, make([]int, slots)...)
		holdsStack(t, r)
		holdsAll(t, r)
		for slot := range slots {
			holdsPop(t, r, slot, api.ErrNone)
		}
		holdsGet(t, r, slots, 0, api.ErrArg)
		holdsSlots(t, r, make([]int, slots)...)
	}
}

// P9.1: a count of slots that may not be is refused, and there are no roots.
func TestNewRefuses(t *testing.T) {
	for _, slots := range append(wild(), 0) {
		if r, e := New(slots); r != nil || e != api.ErrArg {
			t.Fatalf("New(%d) = %v, %d; want none, %d", slots, r, e, api.ErrArg)
		}
	}
}

// P9.1: what is done to one thread's roots is not seen in another one's.
func TestNewSharesNothing(t *testing.T) {
	a, m := filled(t, 3, 4)
	b := made(t, 3)
	holdsSlots(t, b, 0, 0, 0)
	holdsStack(t, b)
	holdsSet(t, b, 1, 9, api.OK)
	holdsPush(t, b, 1, api.OK)
	holdsPush(t, b, 0, api.OK)
	m.looks(t, a)
	holdsPop(t, a, 2, m.pop(2))
	m.looks(t, a)
	holdsSlots(t, b, 0, 9, 0)
	holdsStack(t, b, 9, 0)
	holdsAll(t, b, 9, 9)
	holdsSlots(t, made(t, 3), 0, 0, 0)
}

// P9.1: by hand, a slot has what it was given last, also 0, and also what another one has.
func TestSetGet(t *testing.T) {
	r := made(t, 3)
	holdsSet(t, r, 1, 40, api.OK)
	holdsSlots(t, r, 0, 40, 0)
	holdsSet(t, r, 2, 40, api.OK)
	holdsSlots(t, r, 0, 40, 40)
	holdsSet(t, r, 1, 5, api.OK)
	holdsSlots(t, r, 0, 5, 40)
	holdsSet(t, r, 2, 0, api.OK)
	holdsSlots(t, r, 0, 5, 0)
	holdsSet(t, r, 1, 5, api.OK)
	holdsSet(t, r, 0, 1, api.OK)
	holdsSlots(t, r, 1, 5, 0)
	holdsStack(t, r)
}

// P9.1: each slot of each count is given a reference, and no other slot, nor the stack, turns.
func TestSetEachSlot(t *testing.T) {
	for slots := 1; slots <= maxSlots; slots++ {
		for slot := range slots {
			for _, depth := range []int{0, 1, maxStack} {
				r, m := filled(t, slots, depth)
				holdsSet(t, r, slot, 7, m.set(slot, 7))
				m.looks(t, r)
				holdsSet(t, r, slot, 0, m.set(slot, 0))
				m.looks(t, r)
			}
		}
	}
}

// P9.1, P9.2: a reference may be any place from 0 on: it comes back as it was, by Get, over the stack, and in All and Stack.
func TestAnyReference(t *testing.T) {
	for _, at := range references() {
		r, m := made(t, 2), modelOf(2)
		holdsSet(t, r, 0, at, api.OK)
		m.set(0, at)
		m.looks(t, r)
		holdsPush(t, r, 0, api.OK)
		m.push(0)
		m.looks(t, r)
		holdsSet(t, r, 0, 3, api.OK)
		holdsPop(t, r, 1, api.OK)
		m.set(0, 3)
		m.pop(1)
		m.looks(t, r)
		holdsGet(t, r, 1, at, api.OK)
		holdsGet(t, r, 0, 3, api.OK)
	}
}

// P9.1: a reference below 0 is refused in each slot, and nothing turns.
func TestSetRefusesBelow(t *testing.T) {
	for _, slots := range []int{1, 2, maxSlots} {
		r, m := filled(t, slots, 3)
		for _, at := range below() {
			for slot := range slots {
				holdsSet(t, r, slot, at, api.ErrArg)
				m.looks(t, r)
			}
		}
	}
}

// P9.1, P9.2: a slot that there is not is refused by each act, of each count of slots, and nothing turns.
func TestNoSuchSlot(t *testing.T) {
	for slots := 1; slots <= maxSlots; slots++ {
		r, m := filled(t, slots, 3)
		for _, slot := range noSlots(slots) {
			holdsGet(t, r, slot, 0, api.ErrArg)
			holdsSet(t, r, slot, 5, api.ErrArg)
			holdsSet(t, r, slot, 0, api.ErrArg)
			holdsPush(t, r, slot, api.ErrArg)
			holdsPop(t, r, slot, api.ErrArg)
			m.looks(t, r)
		}
	}
}

// P9.1, P9.2: of two errors the one that the chapter names first is answered, and nothing turns.
func TestErrorsOrder(t *testing.T) {
	for slots := 1; slots <= maxSlots; slots++ {
		full, fullModel := filled(t, slots, maxStack)
		empty, emptyModel := filled(t, slots, 0)
		for _, slot := range noSlots(slots) {
			holdsPush(t, full, slot, api.ErrArg)
			holdsPop(t, empty, slot, api.ErrArg)
			holdsSet(t, full, slot, -1, api.ErrArg)
			fullModel.looks(t, full)
			emptyModel.looks(t, empty)
		}
	}
	var none *Roots
	holdsGet(t, none, -1, 0, api.ErrNil)
	holdsSet(t, none, -1, -1, api.ErrNil)
	holdsSet(t, none, 0, -1, api.ErrNil)
	holdsPush(t, none, -1, api.ErrNil)
	holdsPop(t, none, -1, api.ErrNil)
}

// P9.2: by hand, Push copies a slot's reference, and Pop brings the one that was put last, into whichever slot is named.
func TestPushPop(t *testing.T) {
	r := made(t, 3)
	holdsSet(t, r, 0, 10, api.OK)
	holdsSet(t, r, 1, 20, api.OK)
	holdsPush(t, r, 0, api.OK)
	holdsStack(t, r, 10)
	holdsSlots(t, r, 10, 20, 0)
	holdsPush(t, r, 1, api.OK)
	holdsPush(t, r, 1, api.OK)
	holdsStack(t, r, 10, 20, 20)
	holdsSlots(t, r, 10, 20, 0)
	holdsPop(t, r, 2, api.OK)
	holdsStack(t, r, 10, 20)
	holdsSlots(t, r, 10, 20, 20)
	holdsSet(t, r, 2, 30, api.OK)
	holdsPush(t, r, 2, api.OK)
	holdsStack(t, r, 10, 20, 30)
	holdsPop(t, r, 0, api.OK)
	holdsPop(t, r, 0, api.OK)
	holdsSlots(t, r, 20, 20, 30)
	holdsPop(t, r, 1, api.OK)
	holdsSlots(t, r, 20, 10, 30)
	holdsStack(t, r)
}

// P9.2: a slot's 0 is pushed, and popped over what a slot has.
func TestPushPopZero(t *testing.T) {
	r := made(t, 2)
	holdsPush(t, r, 0, api.OK)
	holdsStack(t, r, 0)
	holdsAll(t, r)
	holdsSet(t, r, 0, 6, api.OK)
	holdsPush(t, r, 0, api.OK)
	holdsPush(t, r, 1, api.OK)
	holdsStack(t, r, 0, 6, 0)
	holdsAll(t, r, 6, 6)
	holdsPop(t, r, 0, api.OK)
	holdsSlots(t, r, 0, 0)
	holdsPop(t, r, 1, api.OK)
	holdsSlots(t, r, 0, 6)
	holdsPop(t, r, 1, api.OK)
	holdsSlots(t, r, 0, 0)
	holdsStack(t, r)
	holdsAll(t, r)
	holdsPop(t, r, 0, api.ErrNone)
}

// P9.2: the stack takes MaxStack references of each slot, and not one more; one that is popped makes room for one.
func TestFull(t *testing.T) {
	for slots := 1; slots <= maxSlots; slots++ {
		for slot := range slots {
			r, m := filled(t, slots, 0)
			for i := range maxStack {
				holdsSet(t, r, slot, i+1, m.set(slot, i+1))
				holdsPush(t, r, slot, api.OK)
				m.push(slot)
				m.looks(t, r)
			}
			for range 3 {
				holdsPush(t, r, slot, api.ErrFull)
				m.looks(t, r)
			}
			holdsSet(t, r, slot, 50, m.set(slot, 50))
			holdsPush(t, r, slot, api.ErrFull)
			m.looks(t, r)
			holdsPop(t, r, slot, m.pop(slot))
			holdsGet(t, r, slot, maxStack, api.OK)
			m.looks(t, r)
			holdsSet(t, r, slot, 60, m.set(slot, 60))
			holdsPush(t, r, slot, api.OK)
			m.push(slot)
			holdsPush(t, r, slot, api.ErrFull)
			m.looks(t, r)
		}
	}
}

// P9.2: a stack full of 0 is full as any other one is, and all of it comes back.
func TestFullOfZeros(t *testing.T) {
	r := made(t, 1)
	for range maxStack {
		holdsPush(t, r, 0, api.OK)
	}
	holdsPush(t, r, 0, api.ErrFull)
	holdsStack(t, r, make([]int, maxStack)...)
	holdsAll(t, r)
	for range maxStack {
		holdsSet(t, r, 0, 4, api.OK)
		holdsPop(t, r, 0, api.OK)
		holdsGet(t, r, 0, 0, api.OK)
	}
	holdsPop(t, r, 0, api.ErrNone)
	holdsStack(t, r)
}

// P9.2: the last reference is popped, and then there is none, however often it is asked; the stack takes references as before.
func TestPopEmpty(t *testing.T) {
	for slots := 1; slots <= maxSlots; slots++ {
		for slot := range slots {
			r, m := filled(t, slots, 1)
			for round := range 4 {
				holdsPop(t, r, slot, m.pop(slot))
				m.looks(t, r)
				for other := range slots {
					holdsPop(t, r, other, api.ErrNone)
					m.looks(t, r)
				}
				holdsSet(t, r, slot, 30+round, m.set(slot, 30+round))
				holdsPush(t, r, slot, m.push(slot))
				m.looks(t, r)
			}
		}
	}
}

// P9.2: a reference goes from each slot over the stack to each one, and turns that one alone.
func TestEachSlotToEach(t *testing.T) {
	for slots := 1; slots <= maxSlots; slots++ {
		for from := range slots {
			for to := range slots {
				for _, depth := range []int{0, 5, maxStack - 1} {
					r, m := filled(t, slots, depth)
					holdsPush(t, r, from, api.OK)
					m.push(from)
					m.looks(t, r)
					holdsSet(t, r, from, 1, m.set(from, 1))
					holdsPop(t, r, to, api.OK)
					m.pop(to)
					m.looks(t, r)
					holdsGet(t, r, to, 100+from, api.OK)
				}
			}
		}
	}
}

// P9.3: All has what is not 0 alone, the slots' in order ahead of the stack's, each one as often as it is there; Stack has all.
func TestAllStack(t *testing.T) {
	r := made(t, 4)
	for _, at := range []int{9, 0, 3, 9} {
		holdsSet(t, r, 0, at, api.OK)
		holdsPush(t, r, 0, api.OK)
	}
	for slot, at := range []int{0, 8, 0, 2} {
		holdsSet(t, r, slot, at, api.OK)
	}
	holdsStack(t, r, 9, 0, 3, 9)
	holdsAll(t, r, 8, 2, 9, 3, 9)
	holdsSet(t, r, 0, 9, api.OK)
	holdsSet(t, r, 2, 8, api.OK)
	holdsAll(t, r, 9, 8, 8, 2, 9, 3, 9)
	holdsPop(t, r, 3, api.OK)
	holdsAll(t, r, 9, 8, 8, 9, 9, 3)
	holdsStack(t, r, 9, 0, 3)
}

// P9.3: of each row of slots and of stacks, with and without 0, All leaves 0 out, and Stack keeps it.
func TestZerosInAllStack(t *testing.T) {
	const slots, depth = 3, 4
	for kind := range 1 << (slots + depth) {
		r, m := made(t, slots), modelOf(slots)
		at := func(i int) int { return (10 + i) * (kind >> i & 1) }
		for i := range depth {
			holdsSet(t, r, 0, at(i), m.set(0, at(i)))
			holdsPush(t, r, 0, m.push(0))
		}
		for slot := range slots {
			holdsSet(t, r, slot, at(depth+slot), m.set(slot, at(depth+slot)))
		}
		m.looks(t, r)
	}
}

// P9.3: the longest answers have all slots and all of the stack.
func TestLongestAll(t *testing.T) {
	r, _ := filled(t, maxSlots, maxStack)
	holdsAll(t, r, 100, 101, 102, 103, 104, 105, 106, 107, 200, 201, 202, 203, 204, 205, 206, 207, 208, 209, 210, 211, 212, 213, 214, 215)
	holdsStack(t, r, 200, 201, 202, 203, 204, 205, 206, 207, 208, 209, 210, 211, 212, 213, 214, 215)
}

// spoil writes over all the room of an answer, spare room too.
func spoil(answer []int) {
	room := answer[:cap(answer)]
	for i := range room {
		room[i] = 77
	}
}

// P9.3 (R3): what All and Stack answer is their caller's alone, spare room too.
func TestAnswersAreNew(t *testing.T) {
	for slots := 1; slots <= maxSlots; slots++ {
		for depth := range maxStack + 1 {
			r, m := filled(t, slots, depth)
			all, stack := r.All(), r.Stack()
			spoil(r.All())
			spoil(r.Stack())
			if !slices.Equal(all, m.all()) || !slices.Equal(stack, m.stack) {
				t.Fatalf("two answers share room: %v, %v", all, stack)
			}
			m.looks(t, r)
			spoil(all)
			if !slices.Equal(stack, m.stack) {
				t.Fatalf("All and Stack share room: %v", stack)
			}
			spoil(stack)
			m.looks(t, r)
			holdsPush(t, r, slots-1, m.push(slots-1))
			m.looks(t, r)
		}
	}
}

// P9.3 (R3): what All and Stack answered stays as it is, whatever is done then.
func TestAnswersStay(t *testing.T) {
	r, m := filled(t, 3, 5)
	all, stack, spare := r.All(), r.Stack(), r.Stack()
	spoil(spare)
	for round := range 9 {
		r.Pop(round % 3)
	}
	for round := range maxStack + 2 {
		r.Set(round%3, 900+round)
		r.Push(round % 3)
	}
	if !slices.Equal(all, m.all()) || !slices.Equal(stack, m.stack) {
		t.Errorf("what was answered has become %v, %v", all, stack)
	}
	if room := spare[:cap(spare)]; slices.Min(room) != 77 || slices.Max(room) != 77 {
		t.Errorf("a Push has changed what Stack answered: %v", room)
	}
}

// P9.3: to be asked turns nothing.
func TestAskingTurnsNothing(t *testing.T) {
	r, _ := filled(t, 3, 5)
	was := *r
	for range 3 {
		r.All()
		r.Stack()
		r.Slots()
		r.Depth()
		r.Get(1)
		r.Get(9)
	}
	if *r != was {
		t.Errorf("the roots have become %v; they were %v", *r, was)
	}
}

// What comes out is kept no longer: roots that look alike are alike, whatever was done to them; what answers an error leaves nothing behind, either.
func TestNothingIsLeftBehind(t *testing.T) {
	r, same := made(t, 2), made(t, 2)
	for i := range maxStack + 1 {
		r.Set(1, 500+i)
		r.Push(1)
	}
	for range maxStack + 1 {
		r.Pop(0)
	}
	r.Set(0, 0)
	r.Set(1, 0)
	for _, slot := range noSlots(2) {
		r.Set(slot, 5)
		r.Push(slot)
		r.Pop(slot)
	}
	r.Set(0, -5)
	if *r != *same {
		t.Errorf("the roots are %v; new ones are %v", *r, *same)
	}
}

// P9.1, P9.2, P9.3: of no roots at all there is nothing, whatever is asked.
func TestNil(t *testing.T) {
	var r *Roots
	for _, slot := range append(noSlots(0), references()...) {
		holdsGet(t, r, slot, 0, api.ErrNil)
		holdsSet(t, r, slot, 5, api.ErrNil)
		holdsSet(t, r, slot, 0, api.ErrNil)
		holdsSet(t, r, 0, slot, api.ErrNil)
		holdsPush(t, r, slot, api.ErrNil)
		holdsPop(t, r, slot, api.ErrNil)
		holdsAll(t, r)
		holdsStack(t, r)
		holdsSlots(t, r)
	}
}

// act does one act of a kind to roots and to their model, and holds the answers and what is there against each other.
func (m *model) act(t *testing.T, r *Roots, kind, slot, at int) {
	t.Helper()
	switch kind {
	case 0:
		holdsPush(t, r, slot, m.push(slot))
	case 1:
		holdsPop(t, r, slot, m.pop(slot))
	case 2:
		holdsSet(t, r, slot, at, m.set(slot, at))
	default:
		want, e := m.get(slot)
		holdsGet(t, r, slot, want, e)
	}
	m.looks(t, r)
}

// P9.1 to P9.4: each row of up to six acts on two slots: Push, Pop and Set of each.
func TestShortRows(t *testing.T) {
	const kinds = 6
	rows := 1
	for length := range 7 {
		for n := range rows {
			r, m := made(t, 2), modelOf(2)
			for i := range length {
				act := n % kinds
				m.act(t, r, act/2, act%2, i+1)
				n /= kinds
			}
		}
		rows *= kinds
	}
}

// some answers numbers below an end, always the same ones.
func some(seed uint64) func(below int) int {
	return func(below int) int {
		seed = seed*6364136223846793005 + 1442695040888963407
		return int(seed >> 33 % uint64(below))
	}
}

// P9.1 to P9.4: long rows of any acts on any slots, such as there are not too, and of any references.
func TestAnyActs(t *testing.T) {
	for slots := 1; slots <= maxSlots; slots++ {
		r, m := made(t, slots), modelOf(slots)
		next := some(uint64(slots))
		for i := range 6000 {
			kind := 2 + next(2)
			// Whether more is pushed or popped turns, so that the stack is full and empty again and again.
			if rising := i/(4*maxStack)%2 == 0; next(3) > 0 {
				kind = 0
				if next(5) == 0 == rising {
					kind = 1
				}
			}
			m.act(t, r, kind, next(slots+2)-1, max(next(100)-20, -1)*(next(1000)+1))
		}
	}
}

// P9.4: what is pushed comes back, the last one first, and slots that are not named stay as they are.
func TestComesBack(t *testing.T) {
	for slots := 2; slots <= maxSlots; slots++ {
		next := some(uint64(slots) + 99)
		for depth := 1; depth <= maxStack; depth++ {
			r, m := filled(t, slots, 0)
			var put []int
			for range depth {
				slot := next(slots)
				at := next(5) * next(1<<20)
				holdsSet(t, r, slot, at, api.OK)
				m.slots[slot] = at
				holdsPush(t, r, slot, api.OK)
				put = append(put, at)
				holdsSlots(t, r, m.slots...)
				holdsStack(t, r, put...)
			}
			for i := depth - 1; i >= 0; i-- {
				slot := next(slots)
				holdsPop(t, r, slot, api.OK)
				m.slots[slot] = put[i]
				holdsSlots(t, r, m.slots...)
				holdsStack(t, r, put[:i]...)
			}
			holdsPop(t, r, 0, api.ErrNone)
		}
	}
}
