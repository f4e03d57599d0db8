package answer

import (
	"math"
	"slices"
	"testing"

	"demesne/access"
	"demesne/api"
	"demesne/arena"
	"demesne/give"
	"demesne/layout"
	"demesne/list"
	"demesne/roots"
	"demesne/script"
)

// numbers are numbers at all edges of a word's bits.
func numbers() []uint64 {
	l := []uint64{0, 5, 10, 11, 43, 1000, math.MaxUint64 - 1, math.MaxUint64}
	for bit := range 64 {
		n := uint64(1) << bit
		l = append(l, n-1, n, n+1, -n, n*3, n*5+3)
	}
	return l
}

// P20.1: the kinds of requests count on from 1.
func TestKinds(t *testing.T) {
	if is, want := [...]uint64{AskPrep, AskSync, AskSnap, AskTell}, [...]uint64{1, 2, 3, 4}; is != want {
		t.Errorf("the kinds are %v; want %v", is, want)
	}
}

// P20.1: a request's word is 8 times its number, and its kind, of which the lowest three bits count alone; words go round.
func TestAsk(t *testing.T) {
	for _, x := range [][3]uint64{
		{0, 0, 0}, {0, 1, 1}, {1, 0, 8}, {5, 3, 43}, {5, 8, 40}, {5, 11, 43}, {7, 7, 63}, {1 << 60, 4, 1<<63 + 4}, {1 << 61, 4, 4}, {math.MaxUint64, 6, math.MaxUint64 - 1},
		{0, math.MaxUint64, 7}, {math.MaxUint64, math.MaxUint64, math.MaxUint64},
	} {
		if is := Ask(x[0], x[1]); is != x[2] {
			t.Errorf("Ask(%d, %d) = %d; want %d", x[0], x[1], is, x[2])
		}
	}
	for _, number := range numbers() {
		for _, kind := range numbers() {
			if is, want := Ask(number, kind), number*8+kind%8; is != want {
				t.Fatalf("Ask(%d, %d) = %d; want %d", number, kind, is, want)
			}
		}
	}
}

// P20.1: a thread is asked by the numbers alone: neither the request's kind nor the answer's flag matters.
func TestAsked(t *testing.T) {
	for _, x := range []struct {
		request, answer uint64
		asked           bool
	}{
		{0, 0, false}, {0, 1, false}, {7, 0, false}, {7, 1, false}, {8, 0, true}, {8, 1, true}, {8, 2, false}, {15, 3, false}, {8, 4, true}, {0, 2, true},
		{43, 10, false}, {43, 11, false}, {43, 9, true}, {43, 12, true}, {43, 43, true}, {40, 40, true}, {39, 10, true}, {48, 10, true}, {48, 12, false},
		{math.MaxUint64, math.MaxUint64 >> 2, false}, {math.MaxUint64, math.MaxUint64, true}, {math.MaxUint64, math.MaxUint64>>2 - 1, false}, {math.MaxUint64, math.MaxUint64>>2 - 2, true},
		{0, 1 << 62, true}, {0, 1 << 63, true}, {1 << 63, 1 << 61, false}, {1 << 63, 1 << 63, true},
	} {
		if is := Asked(x.request, x.answer); is != x.asked {
			t.Errorf("Asked(%d, %d) = %v; want %v", x.request, x.answer, is, x.asked)
		}
	}
	for _, request := range numbers() {
		near := []uint64{request / 8 * 2, request/8*2 + 1, request/8*2 + 2, request/8*2 - 1, request / 8, request / 4}
		for _, answer := range append(near, numbers()...) {
			if is, want := Asked(request, answer), request/8 != answer/2; is != want {
				t.Fatalf("Asked(%d, %d) = %v; want %v", request, answer, is, want)
			}
		}
	}
}

// P20.2: the chapter's example, over an arena.
func TestExample(t *testing.T) {
	for id := range uint8(3) {
		m, _ := arena.New(200)
		l, _ := layout.New(200, 3, 1)
		give.Begin(m, l)
		m.Write(layout.Request, 3+8*5)
		th, e := access.New(m, l, id, 2)
		if e != api.OK {
			t.Fatal(e)
		}
		want := m.All()
		want[l.Answer(int(id))] = 10
		if e := Answer(th, 4); e != api.OK || th.Status != access.Run || th.Colour != 1 || th.Flag || !slices.Equal(m.All(), want) {
			t.Errorf("%d: status %d, colour %d, the words %v; want %v", e, th.Status, th.Colour, m.All(), want)
		}
		if Asked(m.Read(layout.Request), m.Read(l.Answer(int(id)))) || !Asked(m.Read(layout.Request), m.Read(l.Answer(int(id+1)%3))) {
			t.Errorf("of the words %v who is asked", m.All())
		}
	}
}

// P20.2: over an arena: a thread drops its only reference to an object, and collects: the cell is on its list; what it has it still has.
func TestDrops(t *testing.T) {
	m, _ := arena.New(200)
	l, _ := layout.New(200, 2, 1)
	give.Begin(m, l)
	th, _ := access.New(m, l, 1, 2)
	do := func(do uint8, a, b, c uint8) int {
		t.Helper()
		r := th.Do(script.Op{Do: do, A: a, B: b, C: c})
		if r.E != api.OK {
			t.Fatalf("%d(%d, %d, %d): %d", do, a, b, c, r.E)
		}
		return r.At
	}
	gone, kept := do(script.Alloc, 0, 0, 1), do(script.Alloc, 1, 0, 1)
	do(script.Write, 1, 0, 77)
	do(script.Clear, 0, 0, 0)
	points := 0
	th.Point = func() { points++ }
	if e := Collect(th, api.MaxMark); e != api.OK || points != 1 || !th.Free.Has(gone) || th.Free.Has(kept) || th.Free.Len(0) != 15 {
		t.Errorf("%d, %d points, the list %v; gone is %d, kept %d", e, points, th.Free.All(0), gone, kept)
	}
	if r := th.Do(script.Op{Do: script.Read, A: 1}); r.V != 77 || r.E != api.OK {
		t.Errorf("read %v", r)
	}
	do(script.Clear, 1, 0, 0)
	if e := Collect(th, 1); e != api.OK || th.Free.Len(0) != 0 || m.Read(layout.Map) != 31 {
		t.Errorf("%d, the list %v, the map %b", e, th.Free.All(0), m.Read(layout.Map))
	}
}

// The thread of what is laid by hand, and the places there: of its answer, and of both entries; the first block begins at 10, of cells at 10, 19 and 28, the second one at 42.
const (
	handID = 1
	handAt = 4
)

// local is the header of one of that thread's Local objects.
func local(refs, size uint64) uint64 { return head(2, handID, refs, size) }

// hand is a thread that is laid by hand, what it does, and what is left of the words that it changes.
type hand struct {
	name  string
	given given
	acts  string
	left  map[int]uint64
	free  []int // of the class 3
}

// byHand lays a thread's words out by hand: the first block has its cells of the class 3, the second one is of that entry.
func byHand(t *testing.T, room int, slots, stack []int, second uint64, words map[int]uint64) given {
	t.Helper()
	p := lay(t, 3, 2, 2)
	g := given{p: p, id: handID, words: make([]uint64, p.words()), slots: slots, stack: stack, room: room}
	if p.answer(handID) != handAt || p.global(0) != 6 || p.entry(0) != 8 || p.entry(1) != 9 || p.start(0) != 10 || p.start(1) != 42 {
		t.Fatal("it is not laid so")
	}
	g.words[8], g.words[9] = small(3, handID), second
	for _, at := range []int{10, 19, 28} {
		g.words[at] = listed(handID)
	}
	for at, w := range words {
		g.words[at] = w
	}
	return g
}

// in is in a status, of a colour, with a flag, in a phase, with a request.
func (g given) in(status, colour uint8, flag bool, phase, request uint64) given {
	g.status, g.colour, g.flag = status, colour, flag
	g.words = slices.Clone(g.words)
	g.words[1], g.words[2] = phase, request
	return g
}

// holds holds what is done against the row by hand, and against the model.
func (h hand) holds(t *testing.T, answers bool) {
	t.Helper()
	m, th := h.given.play(t, answers)
	want := slices.Clone(h.given.words)
	for at, w := range h.left {
		want[at] = w
	}
	if is := texts(m.acts, stateOf(th)); is != h.acts || !slices.Equal(m.words, want) || !slices.Equal(th.Free.All(3), h.free) {
		t.Errorf("%s: %s, left %v, the list %v; want %s, %v, %v", h.name, is, m.words, th.Free.All(3), h.acts, want, h.free)
	}
}

// P20.2: a thread collects, touch by touch, by hand: r reads, w writes, u updates, and the point is a full stop; R0 tells the status and colour, where they are others than before.
func TestCollectByHand(t *testing.T) {
	two := map[int]uint64{10: local(1, 2), 11: 19, 12: 28, 19: local(0, 1), 28: local(0, 0)}
	other := large(1, 2)
	global := head(3, 2, 1, 9)
	fan := map[int]uint64{10: local(2, 2), 11: 19, 12: 28, 19: local(0, 0), 28: local(1, 1), 29: 10}
	with := func(words map[int]uint64, more map[int]uint64) map[int]uint64 {
		all := map[int]uint64{}
		for _, l := range []map[int]uint64{words, more} {
			for at, w := range l {
				all[at] = w
			}
		}
		return all
	}
	for _, x := range []hand{
		{"one is gone", byHand(t, 1, []int{10}, nil, 0, two),
			"R0 r1 r10 w10 r10 r11 r19 w19 r19 r8 r10 w10 r19 w19 r28 w28 r9 .", map[int]uint64{28: listed(1)}, []int{28}},
		{"two are gone", byHand(t, 1, []int{0, 28, 0}, nil, 0, two),
			"R0 r1 r28 w28 r28 r8 r10 w10 r19 w19 r28 w28 r9 .", map[int]uint64{10: listed(1), 19: listed(1)}, []int{19, 10}},
		{"all are gone", byHand(t, 1, []int{0}, nil, 0, two),
			"R0 r1 r8 r10 w10 r19 w19 r28 w28 w8 w8 u0 r9 .", map[int]uint64{0: 1, 8: 0, 10: listed(1), 19: listed(1), 28: listed(1)}, nil},
		{"all are gone, the collector walks", byHand(t, 1, []int{0}, nil, 0, two).in(0, 0, false, 3, 0),
			"R0 r1 r8 r10 w10 r19 w19 r28 w28 w8 r9 .", map[int]uint64{8: emptied(1), 10: listed(1), 19: listed(1), 28: listed(1)}, nil},
		{"none is gone", byHand(t, 2, []int{10, 28}, nil, 0, two),
			"R0 r1 r10 w10 r10 r11 r19 w19 r19 r28 w28 r28 r8 r10 w10 r19 w19 r28 w28 r9 .", nil, nil},
		{"the slots ahead of the stack", byHand(t, 1, []int{0, 28, 19}, []int{10, 0, 28}, 0, two),
			"R0 r1 r28 w28 r28 r19 w19 r19 r10 w10 r10 r11 r19 r28 r8 r10 w10 r19 w19 r28 w28 r9 .", nil, nil},
		{"by the stack alone", byHand(t, 1, []int{0}, []int{19}, 0, two),
			"R0 r1 r19 w19 r19 r8 r10 w10 r19 w19 r28 w28 r9 .", map[int]uint64{10: listed(1), 28: listed(1)}, []int{28, 10}},
		{"with room", byHand(t, 2, []int{10}, nil, 0, fan),
			"R0 r1 r10 w10 r10 r11 r19 w19 r12 r28 w28 r28 r29 r10 r19 r8 r10 w10 r19 w19 r28 w28 r9 .", nil, nil},
		{"without room", byHand(t, 1, []int{10}, nil, 0, fan),
			"R0 r1 r10 w10 r10 r11 r19 w19 r12 r28 w28 r19 r8 r10 r11 r19 r12 r28 r19 r28 r29 r10 r9 r8 r10 w10 r19 w19 r28 w28 r9 .", nil, nil},
		{"what is shared is read alone", byHand(t, 1, []int{10, 42}, nil, other, with(two, map[int]uint64{11: 42, 42: global, 43: 28})).in(0, 0, false, 0, 43),
			"R0 r1 r10 w10 r10 r11 r42 r42 r8 r10 w10 r19 w19 r28 w28 r9 .", map[int]uint64{19: listed(1), 28: listed(1)}, []int{28, 19}},
		{"in Sync, with the flag up", byHand(t, 64, []int{42}, nil, other, map[int]uint64{10: local(0, 0), 28: local(0, 0), 42: global}).in(2, 1, true, 7, 43),
			"S1! r1 r42 r8 r10 w10 r19 r28 w28 w8 r9 .", map[int]uint64{8: emptied(1), 10: listed(1), 28: listed(1)}, nil},
		{"a large one is gone", byHand(t, 1, []int{10}, nil, large(1, 1), map[int]uint64{10: local(0, 0), 42: local(1, 9), 43: 10}).in(1, 0, false, 2, 0),
			"P0 r1 r10 w10 r10 r8 r10 w10 r19 r28 r9 r42 w42 w9 w9 u0 .", map[int]uint64{0: 2, 9: 0, 42: free(1)}, nil},
		{"a large one waits", byHand(t, 1, []int{10}, nil, large(1, 1), map[int]uint64{10: local(0, 0), 42: local(1, 9), 43: 10}).in(0, 1, false, 6, 0),
			"R1 r1 r10 w10 r10 r8 r10 w10 r19 r28 r9 r42 w42 w9 .", map[int]uint64{9: spent(1, 1), 42: free(1)}, nil},
		{"a large one stays", byHand(t, 1, []int{42}, nil, large(1, 1), map[int]uint64{10: local(0, 0), 42: local(1, 9), 43: 10}),
			"R0 r1 r42 w42 r42 r43 r10 w10 r10 r8 r10 w10 r19 r28 r9 r42 w42 .", nil, nil},
		{"what waits is given back", byHand(t, 1, []int{10}, nil, emptied(1), map[int]uint64{10: local(0, 0)}),
			"R0 r1 r10 w10 r10 r8 r10 w10 r19 r28 r9 w9 u0 .", map[int]uint64{0: 2, 9: 0}, nil},
		{"what waits waits on", byHand(t, 1, []int{10}, nil, emptied(1), map[int]uint64{10: local(0, 0)}).in(0, 0, false, 4, 0),
			"R0 r1 r10 w10 r10 r8 r10 w10 r19 r28 r9 .", nil, nil},
	} {
		x.holds(t, false)
	}
}

// P20.2: a thread answers, touch by touch, by hand: the status is Prep, or Sync, ahead of the answer's touch; it is Run, and of the other colour, or the flag is down, behind it.
func TestAnswerByHand(t *testing.T) {
	const c, g = colourBit, greyBit
	two := map[int]uint64{10: local(1, 2), 11: 19, 12: 28, 19: local(0, 1), 28: local(0, 0)}
	asked := func(status, colour uint8, flag bool, request uint64) given {
		return byHand(t, 1, []int{10}, nil, 0, two).in(status, colour, flag, 3, request)
	}
	shares := func(header uint64) given {
		return byHand(t, 1, []int{10}, nil, large(1, 2), map[int]uint64{10: local(1, 1), 11: 42, 42: header, 43: 28})
	}
	global := head(3, 2, 1, 9)
	for _, x := range []hand{
		{"Prep", asked(0, 0, false, 41), "R0 r2 P0 w4", map[int]uint64{4: 10}, nil},
		{"Prep, the flag is up", asked(0, 1, true, 8*9+1), "R1! r2 P1! w4", map[int]uint64{4: 18}, nil},
		{"Prep, out of Sync", asked(2, 1, false, 1), "S1 r2 P1 w4", map[int]uint64{4: 0}, nil},
		{"Sync", asked(1, 0, false, 42), "P0 r2 S0 w4", map[int]uint64{4: 10}, nil},
		{"Sync, the flag is up", asked(0, 1, true, math.MaxUint64-5), "R1! r2 S1! w4", map[int]uint64{4: math.MaxUint64>>2 - 1}, nil},
		{"to tell, the flag is down", asked(0, 1, false, 44), "R1 r2 w4", map[int]uint64{4: 10}, nil},
		{"to tell, the flag is up", asked(0, 1, true, 44), "R1! r2 w4 R1", map[int]uint64{4: 11}, nil},
		{"to tell, the flag is up, in Sync", asked(2, 0, true, math.MaxUint64-3), "S0! r2 w4 S0", map[int]uint64{4: math.MaxUint64 >> 2}, nil},
		{"no kind", asked(1, 0, true, 40), "P0! r2", nil, nil},
		{"the fifth kind", asked(1, 1, true, 45), "P1! r2", nil, nil},
		{"the sixth kind", asked(2, 0, false, 46), "S0 r2", nil, nil},
		{"the seventh kind", asked(0, 0, true, 47), "R0! r2", nil, nil},
		{"nothing", byHand(t, 1, []int{0}, nil, 0, map[int]uint64{8: 0}).in(2, 0, false, 3, 43), "S0 r2 r8 r9 w4 R1", map[int]uint64{4: 10}, nil},
		{"nothing, back", byHand(t, 1, []int{0}, nil, 0, map[int]uint64{8: 0}).in(2, 1, true, 3, 8*7+3), "S1! r2 r8 r9 w4 R0!", map[int]uint64{4: 14}, nil},
		{"one is gone", asked(2, 0, false, 43), "S0 r2 r10 w10 r10 r11 r19 w19 r19 r8 r10 w10 r19 w19 r28 w28 r9 w4 R1", map[int]uint64{4: 10, 28: listed(1)}, []int{28}},
		{"a block is given back, whatever the phase", byHand(t, 1, []int{0}, nil, 0, two).in(0, 1, false, 6, 43),
			"R1 r2 r8 r10 w10 r19 w19 r28 w28 w8 w8 u0 r9 w4 R0", map[int]uint64{0: 1, 4: 10, 8: 0, 10: listed(1), 19: listed(1), 28: listed(1)}, nil},
		{"a white one", shares(global).in(2, 0, false, 3, 43),
			"S0 r2 r10 w10 r10 r11 r42 r42 u42 S0! r8 r10 w10 r19 r28 r9 w4 R1!", map[int]uint64{4: 10, 42: global + c + g}, nil},
		{"a white one, back", shares(global+c).in(2, 1, false, 3, 43),
			"S1 r2 r10 w10 r10 r11 r42 r42 u42 S1! r8 r10 w10 r19 r28 r9 w4 R0!", map[int]uint64{4: 10, 42: global + g}, nil},
		{"a grey one", shares(global+c+g).in(2, 0, false, 3, 43), "S0 r2 r10 w10 r10 r11 r42 r42 S0! r8 r10 w10 r19 r28 r9 w4 R1!", map[int]uint64{4: 10}, nil},
		{"a black one", shares(global+c).in(2, 0, false, 3, 43), "S0 r2 r10 w10 r10 r11 r42 r42 r8 r10 w10 r19 r28 r9 w4 R1", map[int]uint64{4: 10}, nil},
		{"a black one, the flag is up", shares(global+c).in(2, 0, true, 3, 43), "S0! r2 r10 w10 r10 r11 r42 r42 r8 r10 w10 r19 r28 r9 w4 R1!", map[int]uint64{4: 10}, nil},
		{"one that the roots lead to, again and again", byHand(t, 1, []int{42, 10, 42}, []int{42}, large(1, 2), map[int]uint64{10: local(2, 2), 11: 42, 12: 42, 42: global}).in(0, 0, false, 0, 43),
			"R0 r2 r42 r42 u42 R0! r10 w10 r10 r11 r42 r42 r12 r42 r42 r42 r42 r42 r42 r8 r10 w10 r19 r28 r9 w4 R1!", map[int]uint64{4: 10, 42: global + c + g}, nil},
	} {
		x.holds(t, true)
	}
}

// P20.2: all kinds of requests of all kinds of numbers, in all statuses, colours, phases and flags, with roots that lead to objects of all kinds.
func TestEvery(t *testing.T) {
	const c, g = colourBit, greyBit
	words := map[int]uint64{10: local(2, 3), 11: 19, 12: 42, 19: head(3, 1, 1, 1) + c, 20: 28, 28: local(0, 8), 42: head(3, 2, 0, 40) + g}
	for _, number := range []uint64{0, 1, 2, 5, 1 << 31, 1<<61 - 1} {
		for kind := range uint64(8) {
			for status := range uint8(4) {
				for i := range uint8(4) {
					for phase := range uint64(9) {
						x := byHand(t, 1+int(phase), []int{10, 0}, nil, large(2, 2), words).in(status, i&1, i>>1 == 1, phase, number*8+kind)
						m, th := x.play(t, true)
						if kind == 3 {
							x.follows(t, m, th, true)
						}
						if len(m.acts) == 0 || m.acts[0].kind != read || m.acts[0].at != 2 || slices.ContainsFunc(m.acts, func(a act) bool { return a.at == 1 || a.kind == point }) {
							t.Fatalf("%d of %d: %s", kind, number, texts(m.acts, stateOf(th)))
						}
						m, th = x.play(t, false)
						x.follows(t, m, th, false)
					}
				}
			}
		}
	}
}

// P20.2: where there is no Point, all is as it is with one.
func TestNoPoint(t *testing.T) {
	x := byHand(t, 1, []int{10}, nil, 0, map[int]uint64{10: local(1, 1), 11: 28, 19: local(0, 0), 28: local(0, 0)})
	with, _ := x.play(t, false)
	m := newTape(x.words)
	th := x.thread(t, m)
	th.Point = nil
	touched := slices.DeleteFunc(slices.Clone(with.acts), func(a act) bool { return a.kind == point })
	if e := Collect(th, x.room); e != api.OK || !slices.Equal(m.acts, touched) || !slices.Equal(m.words, with.words) || len(touched) != len(with.acts)-1 {
		t.Errorf("%d: %s; want %s", e, texts(m.acts, stateOf(th)), texts(touched, stateOf(th)))
	}
}

// P20.2: the point is told when all is swept: what is told then, the thread has.
func TestPointInTheEnd(t *testing.T) {
	x := byHand(t, 1, []int{10}, nil, emptied(1), map[int]uint64{10: local(0, 0), 19: local(0, 0)})
	m := newTape(x.words)
	th, points := x.thread(t, m), 0
	th.Point = func() {
		points++
		if !th.Free.Has(19) || m.words[0] != 2 || len(m.acts) != 13 {
			t.Errorf("at the point: the list %v, the map %b, behind %s", th.Free.All(3), m.words[0], texts(m.acts, stateOf(th)))
		}
	}
	if e := Collect(th, 1); e != api.OK || points != 1 || len(m.acts) != 13 {
		t.Errorf("%d: %d points, %s", e, points, texts(m.acts, stateOf(th)))
	}
	x.words[2] = 43
	th = x.thread(t, newTape(x.words))
	th.Point = func() { t.Error("an answer told a point") }
	if e := Answer(th, 1); e != api.OK {
		t.Error(e)
	}
}

// wrongRooms are such as may not be.
func wrongRooms() []int {
	return []int{0, -1, -2, -63, -64, -255, -256, math.MinInt32, math.MinInt + 1, math.MinInt, 65, 66, 128, 255, 256, 257, 320, 1 << 16, 1<<16 + 1, 1<<32 + 1, 1<<32 + 64, math.MaxInt - 1, math.MaxInt}
}

// refused holds that a thread may neither collect nor answer, whatever the request, and that nothing came of it.
func refused(t *testing.T, name string, th *access.Thread, m *tape, room int, want api.Errno) {
	t.Helper()
	words := slices.Clone(m.words)
	for request := uint64(40); request < 48; request++ {
		m.words[2], words[2] = request, request
		var was access.Thread
		if th != nil {
			was = *th
		}
		if a, b := Collect(th, room), Answer(th, room); a != want || b != want {
			t.Errorf("%s, room %d, request %d: %d, %d; want %d", name, room, request, a, b, want)
		}
		if len(m.acts) != 0 || !slices.Equal(m.words, words) {
			t.Fatalf("%s, room %d: %d touches", name, room, len(m.acts))
		}
		if th != nil && (th.Status != was.Status || th.Colour != was.Colour || th.Flag != was.Flag || len(th.Held)+len(th.Work) != 0 || th.Roots != was.Roots || th.Free != was.Free) {
			t.Fatalf("%s, room %d: the thread is %+v; was %+v", name, room, th, was)
		}
	}
}

// P20.2: the errors, in their order; nothing is touched then, and no point is told.
func TestWrong(t *testing.T) {
	x := byHand(t, 1, []int{10, 19}, []int{28}, small(3, 1), map[int]uint64{10: local(1, 1), 11: 28, 19: head(3, 1, 0, 0), 42: local(0, 0)}).in(2, 1, true, 0, 43)
	fresh := func() (*access.Thread, *tape) {
		m := newTape(x.words)
		return x.thread(t, m), m
	}
	for _, room := range append(wrongRooms(), 1, 2, 64) {
		_, m := fresh()
		refused(t, "no thread", nil, m, room, api.ErrNil)
		refused(t, "an empty thread", &access.Thread{}, m, room, api.ErrNil)
		th, m := fresh()
		th.M = nil
		refused(t, "no memory", th, m, room, api.ErrNil)
		th, m = fresh()
		th.Roots = nil
		refused(t, "no roots", th, m, room, api.ErrNil)
		th, m = fresh()
		th.Free = nil
		refused(t, "no list", th, m, room, api.ErrNil)
		for _, id := range []uint8{3, 4, 63, 64, 255} {
			th, m = fresh()
			th.ID = id
			refused(t, "a number that no thread has", th, m, room, api.ErrArg)
		}
		th, m = fresh()
		th.L = layout.Layout{}
		refused(t, "no layout", th, m, room, api.ErrArg)
	}
	for _, room := range wrongRooms() {
		th, m := fresh()
		refused(t, "the room", th, m, room, api.ErrArg)
	}
}

// P20.2: all rooms that may be, and all threads' numbers: each one answers for itself.
func TestRoomsAndThreads(t *testing.T) {
	p := lay(t, api.MaxThreads, 0, 2)
	for id := range api.MaxThreads {
		words := make([]uint64, p.words())
		at := p.start(0)
		words[2], words[p.entry(0)], words[p.entry(1)] = uint64(8*id+3), small(0, id), small(0, (id+1)%64)
		words[at], words[at+1], words[at+2] = head(2, id, 1, 1), uint64(at+32), head(2, id, 0, 1)
		words[at+32] = head(3, (id+1)%64, 0, 1)
		g := given{p: p, id: id, words: words, slots: []int{at}, room: id + 1}
		m, th := g.play(t, true)
		g.follows(t, m, th, true)
		m, th = g.play(t, false)
		g.follows(t, m, th, false)
	}
}

// P20.2: roots of all kinds: as many slots as may be, a full stack, and none at all.
func TestRoots(t *testing.T) {
	p := lay(t, 2, 1, 3)
	cells := append(p.cells(0, small(0, 0)), p.cells(1, small(0, 0))...)
	words := make([]uint64, p.words())
	words[p.entry(0)], words[p.entry(1)] = small(0, 0), small(0, 0)
	for i, at := range cells {
		words[at] = head(2, 0, uint64(i%2), 1)
	}
	for _, g := range []given{
		{slots: cells[:api.MaxSlots], stack: cells[api.MaxSlots : api.MaxSlots+api.MaxStack]},
		{slots: cells[:1], stack: make([]int, api.MaxStack)},
		{slots: make([]int, api.MaxSlots), stack: cells[2:3]},
		{slots: make([]int, 1)},
		{slots: []int{0, cells[31], 0, cells[0]}, stack: []int{cells[31], cells[31]}},
		{slots: []int{1, 2, 3}, stack: []int{p.words() + 5, math.MaxInt}},
	} {
		g.p, g.words, g.room = p, words, 3
		m, th := g.play(t, false)
		g.follows(t, m, th, false)
		g.words[2] = 43
		m, th = g.play(t, true)
		g.follows(t, m, th, true)
	}
}

// P20.2: the thread, its roots and its list stay the same ones; roots are as they were.
func TestTheSame(t *testing.T) {
	r, e := roots.New(2)
	if e != api.OK {
		t.Fatal(e)
	}
	r.Set(0, 10)
	l := list.New()
	x := byHand(t, 1, []int{10, 0}, nil, 0, map[int]uint64{10: local(0, 0), 19: local(0, 0)}).in(0, 0, false, 0, 43)
	m := newTape(x.words)
	th := &access.Thread{M: m, L: x.p.l, ID: handID, Roots: r, Free: l}
	if a, b := Answer(th, 1), Collect(th, 1); a != api.OK || b != api.OK {
		t.Error(a, b)
	}
	if th.M != api.Mem(m) || th.L != x.p.l || th.ID != handID || th.Roots != r || th.Free != l || th.Point != nil || !slices.Equal(l.All(3), []int{19}) || !slices.Equal(r.All(), []int{10}) {
		t.Errorf("the thread is %+v", th)
	}
}
