package answer

import (
	"cmp"
	"slices"
	"strconv"
	"testing"

	"demesne/access"
	"demesne/agent"
	"demesne/api"
	"demesne/give"
	"demesne/script"
)

// The kinds of deeds.
const (
	collecting = iota
	answering
	operating // an operation
	writing   // a word, as others do
	dyeing    // an object, as the collector does: if it is Global, its colour and grey are those of v
)

// deed is what one of several does.
type deed struct {
	kind, room int
	op         script.Op
	at         int
	v          uint64
}

// an is the deed of an operation.
func an(do uint8, a, b, c uint8) deed {
	return deed{kind: operating, op: script.Op{Do: do, A: a, B: b, C: c}}
}

// did is a deed that is over: of which thread, of which kind, and what came of it.
type did struct {
	thread, kind int
	r            access.Result
}

// world is threads over one memory, what they do, and when their points were.
type world struct {
	p       plan
	m       *tape
	threads []*access.Thread
	agents  []*agent.Agent
	now     []int // which kind of deed each agent does
	done    []did
	points  []int
	call    func(th *access.Thread, d deed) api.Errno // does a deed that collects, or answers
	looks   bool                                      // what follows of these is looked at
	dyed    bool                                      // also the colours, since no object turns from one to the other and back
	fault   string                                    // what was found to be wrong then
}

// newWorld is one in which some deeds are done ahead, thread by thread, and no agents are yet.
func newWorld(t *testing.T, p plan, slots int, ahead []deed, call func(th *access.Thread, d deed) api.Errno) *world {
	t.Helper()
	w := &world{p: p, m: newTape(make([]uint64, p.words())), call: call}
	give.Begin(w.m, p.l)
	for id := range p.threads {
		th, e := access.New(w.m, p.l, uint8(id), slots)
		if e != api.OK {
			t.Fatalf("a thread: %d", e)
		}
		th.Point = func() { w.points = append(w.points, id) }
		w.threads = append(w.threads, th)
	}
	for id := range p.threads {
		for _, d := range ahead {
			w.do(w.m, id, d)
		}
	}
	w.done, w.points, w.m.acts = nil, nil, nil
	return w
}

// byProgram, byModel do a deed that collects, or answers.
func byProgram(th *access.Thread, d deed) api.Errno {
	if d.kind == answering {
		return Answer(th, d.room)
	}
	return Collect(th, d.room)
}

func byModel(th *access.Thread, d deed) api.Errno {
	o := model{th, d.room}
	if d.kind == answering {
		o.answer()
	} else {
		o.collect()
	}
	return api.OK
}

// begin makes agents of deeds, which the test stops in its end; those behind the threads' have none.
func (w *world) begin(t *testing.T, deeds [][]deed) {
	t.Helper()
	for i, l := range deeds {
		w.now = append(w.now, 0)
		a, e := agent.New(w.m, func(m api.Mem) {
			for _, d := range l {
				w.now[i] = d.kind
				w.do(m, i, d)
			}
		})
		if e != api.OK {
			t.Fatalf("an agent: %d", e)
		}
		t.Cleanup(a.Stop)
		w.agents = append(w.agents, a)
	}
}

// do does a deed on a memory.
func (w *world) do(m api.Mem, i int, d deed) {
	switch d.kind {
	case writing:
		m.Write(d.at, d.v)
		return
	case dyeing:
		m.Update(d.at, func(w uint64) uint64 {
			if kindOfHeader(w) != 3 {
				return w
			}
			return w&^(colourBit|greyBit) | d.v&(colourBit|greyBit)
		})
		return
	}
	th := w.threads[i]
	th.M = m
	x := did{thread: i, kind: d.kind}
	if d.kind == operating {
		x.r = th.Do(d.op)
	} else {
		was := th.Colour
		x.r.E = w.call(th, d)
		// The thread may go on at once: so this is looked at here.
		if turned := th.Colour != was; w.looks && (turned || d.kind == collecting) {
			w.fault = cmp.Or(w.fault, w.follows(th, turned))
		}
	}
	w.done = append(w.done, x)
}

// several are a world of the program and one of the model, that go on side by side.
type several struct {
	deeds    [][]deed
	is, want *world
	wild     bool // someone writes what is none of its own
}

// start makes both, and their agents. Requests that are there ahead are written as they stand.
func start(t *testing.T, p plan, slots int, ahead []deed, request uint64, deeds [][]deed) *several {
	t.Helper()
	s := &several{deeds: deeds, is: newWorld(t, p, slots, ahead, byProgram), want: newWorld(t, p, slots, ahead, byModel)}
	s.wild = slices.ContainsFunc(slices.Concat(deeds...), func(d deed) bool { return d.kind == writing && d.at > 2 })
	s.is.looks = !s.wild
	s.is.dyed = !slices.ContainsFunc(deeds, func(l []deed) bool {
		return len(slices.DeleteFunc(slices.Clone(l), func(d deed) bool { return d.kind != answering })) > 1
	})
	for _, w := range []*world{s.is, s.want} {
		w.m.words[2] = request
		w.begin(t, deeds)
	}
	return s
}

// step steps an agent of both, and holds what it touches, what is over, and all that threads have, against the model.
func (s *several) step(t *testing.T, i int) {
	t.Helper()
	kind := s.is.now[i]
	for _, w := range []*world{s.is, s.want} {
		n := len(w.m.acts)
		if e := w.agents[i].Step(); e != api.OK || len(w.m.acts) != n+1 {
			t.Fatalf("a step of %d of %v: %d, %s", i, s.deeds, e, texts(w.m.acts[n:], state{}))
		}
	}
	n := len(s.want.m.acts) - 1
	a := s.is.m.acts[n]
	if a != s.want.m.acts[n] {
		t.Fatalf("%d of %v: %s; want %s", i, s.deeds, texts(s.is.m.acts, state{}), texts(s.want.m.acts, state{}))
	}
	if kind == collecting || kind == answering {
		if !s.wild && !s.is.p.mine(s.is.m.words, i, a) {
			t.Fatalf("%d of %v, behind %s: at %d %d was written as %d", i, s.deeds, texts(s.is.m.acts, state{}), a.at, a.was, a.is)
		}
	}
	s.alike(t)
	if s.is.fault != "" {
		t.Fatalf("%d of %v, behind %s: %s", i, s.deeds, texts(s.is.m.acts, state{}), s.is.fault)
	}
}

// alike holds what both have against each other, but for the words.
func (s *several) alike(t *testing.T) {
	t.Helper()
	if !slices.Equal(s.is.done, s.want.done) || !slices.Equal(s.is.points, s.want.points) {
		t.Fatalf("%v: done %v, points %v; want %v, %v", s.deeds, s.is.done, s.is.points, s.want.done, s.want.points)
	}
	for i, th := range s.is.threads {
		if is, want := stateOf(th), stateOf(s.want.threads[i]); is != want {
			t.Fatalf("%v, behind %s: the thread %d has %v; want %v", s.deeds, texts(s.is.m.acts, state{}), i, is, want)
		}
	}
	for i, a := range s.is.agents {
		if a.Done() != s.want.agents[i].Done() {
			t.Fatalf("%v: the agent %d is at its end: %v", s.deeds, i, a.Done())
		}
	}
}

// follows tells what is not as it should be behind a deed that collected for a thread, and turned it to its colour, or not.
func (w *world) follows(th *access.Thread, turned bool) string {
	own, shared := reached(w.m.words, int(th.ID), th.Roots.All())
	for block := range w.p.blocks {
		entry := w.m.words[w.p.entry(block)]
		if entry>>7 != uint64(th.ID) {
			continue
		}
		for _, at := range w.p.cells(block, entry) {
			if h := w.m.words[at]; owns(int(th.ID), h) && (!own[at] || h&markBit != 0) {
				return "a Local object that is not reached, or marked, at " + strconv.Itoa(at)
			}
		}
	}
	for at := range shared {
		if w.dyed && turned && white(w.m.words[at], th.Colour) {
			return "a white object at " + strconv.Itoa(at)
		}
	}
	return ""
}

// live holds that whatever is reached from threads and global roots is an object, and that a Local one is led to by its owner's alone.
func (w *world) live(t *testing.T) {
	t.Helper()
	met := map[[2]int]bool{}
	var look func(from, at int)
	look = func(from, at int) {
		if at == 0 || met[[2]int{from, at}] {
			return
		}
		met[[2]int{from, at}] = true
		h := w.m.words.Read(at)
		if kind := kindOfHeader(h); kind < 2 || kind == 2 && int(h>>5&63) != from {
			t.Fatalf("%v: at %d is %d, which %d leads to", w.done, at, h, from)
		}
		if kindOfHeader(h) == 3 {
			from = -1
		}
		for i := 1; i <= refsOf(h); i++ {
			look(from, int(w.m.words.Read(at+i)))
		}
	}
	for id, th := range w.threads {
		// What its worklist has is shared already, but may still lead to what is not.
		if len(th.Work) > 0 {
			return
		}
		for _, at := range slices.Concat(th.Roots.All(), th.Held) {
			// What is held may be being made.
			if !slices.Contains(th.Held, at) || kindOfHeader(w.m.words.Read(at)) > 1 {
				look(id, at)
			}
		}
	}
	for g := range w.p.globals {
		look(-1, int(w.m.words[w.p.global(g)]))
	}
}

// ready are the agents that are not at their ends.
func (s *several) ready() []int {
	var l []int
	for i, a := range s.is.agents {
		if !a.Done() {
			l = append(l, i)
		}
	}
	return l
}

// end holds all words against the model, when all are at their ends.
func (s *several) end(t *testing.T) {
	t.Helper()
	if !slices.Equal(s.is.m.words, s.want.m.words) {
		t.Fatalf("%v: left %v; want %v", s.deeds, s.is.m.words, s.want.m.words)
	}
}

// orders runs agents in all orders in which their touches may come, but for those in which more often than so many times one goes on while the last one might. It answers how many orders there were.
func orders(t *testing.T, begin func() *several, switches int) int {
	t.Helper()
	var picks, of []int // which one of how many that may go on was picked, step by step
	for n := 1; ; n++ {
		s := begin()
		for i, last, left := 0, -1, switches; ; i++ {
			l := s.ready()
			if len(l) == 0 {
				break
			}
			may := slices.Contains(l, last)
			if may && left == 0 {
				l = []int{last}
			}
			if i == len(picks) {
				picks, of = append(picks, 0), append(of, 0)
			}
			of[i] = len(l)
			x := l[picks[i]]
			if may && x != last {
				left--
			}
			last = x
			s.step(t, x)
			if !s.wild {
				s.is.live(t)
			}
		}
		s.end(t)
		for len(picks) > 0 && picks[len(picks)-1] == of[len(of)-1]-1 {
			picks, of = picks[:len(picks)-1], of[:len(of)-1]
		}
		if len(picks) == 0 {
			return n
		}
		picks[len(picks)-1]++
	}
}

// common is done by each thread ahead, in a block of its own: in the first cell is a shared object of two references, which is in the global root 0 and leads to what was there before; the slot 0 has it; in the second one is a Local object that leads to it, which the slot 1 has; the one in the third cell is gone.
func common() []deed {
	return []deed{
		an(script.Get, 2, 0, 0), an(script.Alloc, 0, 2, 5), an(script.Store, 0, 1, 2), an(script.Put, 0, 0, 0),
		an(script.Alloc, 1, 1, 5), an(script.Store, 1, 0, 0),
		an(script.Alloc, 2, 0, 5), an(script.Clear, 2, 0, 0),
	}
}

// P20.2, P20.3: two threads that answer, collect, or do else, in all orders of their touches, or in all with few switches between them; also while the collector writes.
func TestOrders(t *testing.T) {
	take, say := deed{kind: collecting, room: 1}, deed{kind: answering, room: 1}
	phase := func(v uint64) deed { return deed{kind: writing, at: 1, v: v} }
	ask := func(number, kind uint64) deed { return deed{kind: writing, at: 2, v: number*8 + kind} }
	make1, gone := an(script.Alloc, 2, 1, 5), an(script.Clear, 1, 0, 0)
	dye := func(at int) deed { return deed{kind: dyeing, at: at, v: colourBit} }
	p := lay(t, 2, 1, 3)
	for _, x := range []struct {
		request  uint64
		deeds    [][]deed
		switches int
		n        int // how many orders there are, where no one's touches hang on another one's; else 0
	}{
		{41, [][]deed{{say}, {say}}, 99, 6},
		{44, [][]deed{{say, say}, {say, say}}, 99, 70},
		{42, [][]deed{{say}, {an(script.Get, 2, 0, 0), an(script.Read, 0, 0, 0)}}, 99, 10},
		{41, [][]deed{{say}, {say}, {ask(6, 2)}}, 99, 0},
		{44, [][]deed{{say}, {ask(6, 4), ask(7, 1)}}, 99, 6},
		{43, [][]deed{{say}, {say}}, 3, 0},
		{43, [][]deed{{say}, {an(script.Put, 0, 1, 0)}}, 3, 0},
		{43, [][]deed{{say}, {an(script.Store, 0, 0, 1), take}}, 2, 0},
		{43, [][]deed{{say}, {gone, say}, {dye(p.start(0))}}, 2, 0},
		{0, [][]deed{{take}, {take}}, 3, 0},
		{0, [][]deed{{take}, {make1, gone, take}}, 2, 0},
		{0, [][]deed{{gone, take}, {gone, take}}, 2, 0},
		{0, [][]deed{{take}, {phase(3)}}, 99, 0},
		{0, [][]deed{{gone, take, make1}, {phase(3), phase(0)}}, 2, 0},
		{43, [][]deed{{take, say}, {say, take}, {phase(3)}}, 1, 0},
		{44, [][]deed{{say, take}, {say}, {ask(6, 3), phase(4)}}, 2, 0},
	} {
		begin := func() *several { return start(t, p, 3, common(), x.request, x.deeds) }
		if n := orders(t, begin, x.switches); n < 6 || x.n != 0 && n != x.n {
			t.Errorf("%d orders of %v; want %d", n, x.deeds, x.n)
		}
	}
}

// P20.2: where others write in between, at whatever touch, each touch goes by what is there then.
func TestOneWrites(t *testing.T) {
	p := lay(t, 1, 1, 2)
	a, b := p.start(0), p.start(0)+9
	for _, kind := range []int{collecting, answering} {
		for _, at := range []int{0, 1, 2, p.answer(0), p.entry(0), p.entry(1), a, a + 1, b, b + 1, b + 9, p.start(1)} {
			for _, v := range []uint64{0, 3, 4, 5, 44, 1 << 60, uint64(a), uint64(b), listed(0), head(2, 0, 1, 1), head(3, 0, 1, 1) + colourBit, small(3, 0), emptied(0), large(1, 0)} {
				deeds := [][]deed{{{kind: kind, room: 1}}, {{kind: writing, at: at, v: v}}}
				orders(t, func() *several { return start(t, p, 3, common(), 43, deeds) }, 99)
			}
		}
	}
}

// P20.2: who is stopped, behind whatever touch, touches nothing more, has no point, and stays as it is: its status, colour and flag are others only if the touch was done.
func TestStopped(t *testing.T) {
	for _, d := range []deed{{kind: collecting, room: 1}, {kind: answering, room: 2}} {
		for kind := range uint64(8) {
			for n := 0; ; n++ {
				s := start(t, lay(t, 1, 1, 2), 3, common(), 40+kind, [][]deed{{d}})
				for _, w := range []*world{s.is, s.want} {
					w.threads[0].Flag = true
				}
				for range n {
					s.step(t, 0)
				}
				if s.is.agents[0].Done() {
					break
				}
				is := stateOf(s.is.threads[0])
				s.is.agents[0].Stop()
				s.want.agents[0].Stop()
				s.alike(t)
				s.end(t)
				if stateOf(s.is.threads[0]) != is || len(s.is.m.acts) != n || len(s.is.done)+len(s.is.points) != 0 {
					t.Fatalf("%v, stopped behind %d touches: %v, had %v; done %v, %d points", d, n, stateOf(s.is.threads[0]), is, s.is.done, len(s.is.points))
				}
				if s.is.threads[0].Colour != 0 || s.is.m.words[s.is.p.answer(0)] != 0 {
					t.Fatalf("%v, stopped behind %d touches: the colour %d, the answer %d", d, n, s.is.threads[0].Colour, s.is.m.words[s.is.p.answer(0)])
				}
			}
		}
	}
}

// P20.2: an answer to AskSnap by hand, step by step: till the answer's touch the thread is in Sync, of the old colour.
func TestTurnsWithTheAnswer(t *testing.T) {
	p := lay(t, 1, 1, 2)
	s := start(t, p, 3, common(), 42, [][]deed{{{kind: answering, room: 1}, {kind: answering, room: 1}}, {{kind: writing, at: 2, v: 8*6 + 3}}})
	see := func(agent int, status, colour uint8, answer uint64) {
		t.Helper()
		s.step(t, agent)
		if th := s.is.threads[0]; th.Status != status || th.Colour != colour || s.is.m.words[p.answer(0)] != answer {
			t.Fatalf("the status %d, the colour %d, the answer %d; want %d, %d, %d", th.Status, th.Colour, s.is.m.words[p.answer(0)], status, colour, answer)
		}
	}
	see(0, access.Sync, 0, 0)
	see(0, access.Sync, 0, 10)
	see(1, access.Sync, 0, 10)
	touches := 0
	for !s.is.agents[0].Done() {
		if touches++; s.is.threads[0].Colour != 0 || s.is.threads[0].Status != access.Sync || s.is.m.words[p.answer(0)] != 10 {
			t.Fatalf("ahead of the touch %d: %+v", touches, s.is.threads[0])
		}
		s.step(t, 0)
	}
	if th := s.is.threads[0]; th.Status != access.Run || th.Colour != 1 || !th.Flag || s.is.m.words[p.answer(0)] != 12 || touches < 10 {
		t.Errorf("behind %d touches: %+v, the answer %d", touches, th, s.is.m.words[p.answer(0)])
	}
}

// P20.2, P20.3: many threads, in any order of their touches: each does what it will, collects, and answers, while others write the phase and the request.
func TestMany(t *testing.T) {
	pick := some(5)
	for n := 1; n <= 64; n *= 2 {
		for range 16 {
			deeds := make([][]deed, n+1)
			for i := range deeds {
				for range 1 + pick(4+200/n) {
					d := anyDeed(pick)
					if i == n {
						d = deed{kind: writing, at: 1 + pick(2), v: uint64(pick(64))}
					}
					deeds[i] = append(deeds[i], d)
				}
			}
			s := start(t, lay(t, n, 1+pick(8), 1+pick(28)), 3, common(), uint64(pick(64)), deeds)
			k := 0
			for l := s.ready(); len(l) > 0; l = s.ready() {
				if s.step(t, l[pick(len(l))]); k%13 == 0 {
					s.is.live(t)
				}
				k++
			}
			s.end(t)
		}
	}
}

// anyDeed is one of a thread: an operation, a collection or an answer.
func anyDeed(pick func(below int) int) deed {
	switch pick(8) {
	case 0:
		return deed{kind: collecting, room: 1 + pick(4)}
	case 1:
		return deed{kind: answering, room: 1 + pick(4)}
	}
	return anyOperation(pick)
}

// anyOperation is one with arguments that are mostly such as may be, for threads of three slots.
func anyOperation(pick func(below int) int) deed {
	slot := func() uint8 { return uint8(pick(3)) }
	switch do := uint8(1 + pick(11)); do {
	case script.Alloc:
		size := uint8(pick(9))
		if pick(20) == 0 {
			size = uint8(pick(96))
		}
		return an(do, slot(), uint8(pick(int(size)+1)), size)
	case script.Load:
		return an(do, slot(), slot(), uint8(pick(3)))
	case script.Store:
		return an(do, slot(), uint8(pick(3)), slot())
	case script.Read, script.Write:
		return an(do, slot(), uint8(pick(3)), uint8(pick(256)))
	default:
		return an(do, slot(), slot(), 0)
	}
}
