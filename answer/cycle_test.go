package answer

import (
	"cmp"
	"slices"
	"testing"

	"demesne/access"
	"demesne/agent"
	"demesne/api"
	"demesne/give"
	"demesne/graph"
	"demesne/script"
	"demesne/shade"
)

// collector asks threads, traces and reaps, as the document says of cycles, so that what answers are for is seen.
type collector struct {
	p      plan
	colour uint8
	number uint64
	freed  int
}

// cycle does a cycle.
func (c *collector) cycle(m api.Mem) {
	colour := 1 - c.colour
	c.ask(m, access.ToPrep, AskPrep)
	c.ask(m, access.ToSync, AskSync)
	c.ask(m, access.Snap, AskSnap)
	m.Write(1, access.Mark)
	for g := range c.p.globals {
		if at := m.Read(c.p.global(g)); at != 0 {
			shade.Shade(m, int(at), colour)
		}
	}
	for again := true; again; {
		for c.pass(m, colour) {
		}
		if again = c.ask(m, access.Term, AskTell); again {
			m.Write(1, access.Mark)
		}
	}
	m.Write(1, access.Sweep)
	c.reap(m, colour)
	m.Write(1, access.Idle)
	c.colour = colour
}

// ask asks all threads, waits for their answers, and tells whether one's flag was up.
func (c *collector) ask(m api.Mem, phase, kind uint64) bool {
	m.Write(1, phase)
	c.number++
	request, flag := Ask(c.number, kind), false
	m.Write(2, request)
	for id := range c.p.threads {
		answer := m.Read(c.p.answer(id))
		for Asked(request, answer) {
			answer = m.Read(c.p.answer(id))
		}
		flag = flag || answer%2 == 1
	}
	return flag
}

// pass looks into all that is grey, and tells whether something was.
func (c *collector) pass(m api.Mem, colour uint8) bool {
	grey := false
	c.walk(m, func(at, block int, entry, w uint64) {
		if kindOfHeader(w) != 3 || white(w, colour) || black(w, colour) {
			return
		}
		grey = true
		for i := 1; i <= refsOf(w); i++ {
			if to := m.Read(at + i); to != 0 {
				shade.Shade(m, int(to), colour)
			}
		}
		shade.Blacken(m, at)
	})
	return grey
}

// reap frees what is white, and gives back what waits.
func (c *collector) reap(m api.Mem, colour uint8) {
	c.walk(m, func(at, block int, entry, w uint64) {
		if !white(w, colour) {
			return
		}
		c.freed++
		m.Write(at, free(int(w>>5&63)))
		if entry%8 == 2 {
			m.Write(c.p.entry(block), entry+3)
			give.Back(m, c.p.l, block, int(entry>>5&3))
		}
	})
	give.Waiting(m, c.p.l, func(uint8) bool { return true })
}

// walk reads all headers, block by block.
func (c *collector) walk(m api.Mem, do func(at, block int, entry, w uint64)) {
	for block := range c.p.blocks {
		entry := m.Read(c.p.entry(block))
		for _, at := range c.p.cells(block, entry) {
			do(at, block, entry, m.Read(at))
		}
	}
}

// told is an operation that is over, and when its point was, or its end, if it has none.
type told struct {
	thread, when int
	op           script.Op
	r            access.Result
}

// cycles are threads that do what they will, and answer when they are asked, and a collector that goes through cycles.
type cycles struct {
	t      *testing.T
	w      *world
	c      *collector
	agents []*agent.Agent // the threads', then the collector's
	told   []told
	begun  int // how many cycles
}

// newCycles is one of a plan, at its beginning.
func newCycles(t *testing.T, p plan) *cycles {
	t.Helper()
	x := &cycles{t: t, w: newWorld(t, p, 3, nil, byProgram), c: &collector{p: p}, agents: make([]*agent.Agent, p.threads+1)}
	x.w.dyed = true
	return x
}

// run has an agent do something, up to its first touch.
func (x *cycles) run(i int, do func(m api.Mem)) {
	a, e := agent.New(x.w.m, do)
	if e != api.OK {
		x.t.Fatalf("an agent: %d", e)
	}
	x.t.Cleanup(a.Stop)
	x.agents[i] = a
}

// busy tells whether an agent is not at its end.
func (x *cycles) busy(i int) bool { return x.agents[i] != nil && !x.agents[i].Done() }

// operate has a thread do an operation.
func (x *cycles) operate(m api.Mem, id int, op script.Op) {
	th := x.w.threads[id]
	th.M = m
	when := -1
	th.Point = func() { when, x.w.points = len(x.w.points), append(x.w.points, id) }
	r := th.Do(op)
	if when < 0 {
		th.Point()
	}
	x.told = append(x.told, told{id, when, op, r})
}

// collect has a thread collect, or answer, and looks at what follows.
func (x *cycles) collect(m api.Mem, id int, d deed) {
	th := x.w.threads[id]
	th.M, th.Point = m, nil
	was := th.Colour
	byProgram(th, d)
	if turned := th.Colour != was; turned || d.kind == collecting {
		x.w.fault = cmp.Or(x.w.fault, x.w.follows(th, turned))
	}
}

// step lets an agent take its next step, or have something to do: a thread that is asked an answer, ahead of all else. Where all is quiet, nobody begins anything else.
func (x *cycles) step(i int, pick func(below int) int, quiet bool) {
	words := x.w.m.words
	switch {
	case x.busy(i):
		if e := x.agents[i].Step(); e != api.OK {
			x.t.Fatalf("a step: %d", e)
		}
	case i == x.w.p.threads:
		if !quiet {
			x.begun++
			x.run(i, x.c.cycle)
		}
	case Asked(words[2], words[x.w.p.answer(i)]):
		d := deed{kind: answering, room: 1 + pick(4)}
		x.run(i, func(m api.Mem) { x.collect(m, i, d) })
	case quiet:
	case pick(12) == 0:
		d := deed{kind: collecting, room: 1 + pick(4)}
		x.run(i, func(m api.Mem) { x.collect(m, i, d) })
	default:
		d := anyOperation(pick)
		x.run(i, func(m api.Mem) { x.operate(m, i, d.op) })
	}
	if x.w.fault != "" {
		x.t.Fatalf("behind %v: %s, of %v", x.told, x.w.fault, words)
	}
}

// rest lets all go on to their ends, while threads answer.
func (x *cycles) rest(pick func(below int) int) {
	for slices.ContainsFunc(x.agents, func(a *agent.Agent) bool { return a != nil && !a.Done() }) {
		x.step(pick(len(x.agents)), pick, true)
	}
}

// agrees holds what was told, in the order of the points, against the graph, up to objects' names, and answers that, with objects' places.
func (x *cycles) agrees() (*graph.Graph, []int) {
	x.t.Helper()
	g, e := graph.New(x.w.p.threads, 3, x.w.p.globals)
	if e != api.OK {
		x.t.Fatalf("a graph: %d", e)
	}
	places, holder := []int{0}, map[int]int{}
	l := slices.SortedFunc(slices.Values(x.told), func(a, b told) int { return cmp.Compare(a.when, b.when) })
	for _, y := range l {
		// That memory is out is what the machine says.
		if y.r.E == api.ErrMem {
			continue
		}
		n, v, e := onGraph(g, y.thread, y.op)
		if y.op.Do == script.Alloc && e == api.OK {
			// A place comes again only when nothing reaches what was there.
			if last := holder[y.r.At]; last != 0 && slices.Contains(g.Reach(), last) {
				x.t.Fatalf("%v: the object %d is there", y, last)
			}
			places, holder[y.r.At] = append(places, y.r.At), n
		}
		if want := (access.Result{E: e, At: places[n], V: v}); y.r != want || n != 0 && holder[y.r.At] != n {
			x.t.Fatalf("%v; by the graph %v", y, want)
		}
	}
	return g, places
}

// shape holds all that is reached against the graph.
func (x *cycles) shape(g *graph.Graph, places []int) {
	x.t.Helper()
	are := func(numbers, is []int) bool {
		return slices.EqualFunc(numbers, is, func(n, at int) bool { return places[n] == at })
	}
	for id, th := range x.w.threads {
		if slots, stack, _ := g.Own(id); !are(slots, slotsOf(th)) || !are(stack, th.Roots.Stack()) {
			x.t.Fatalf("the thread %d has %v; by the graph %v, %v at %v", id, stateOf(th), slots, stack, places)
		}
	}
	for i, n := range g.Globals() {
		if at := x.w.m.words[x.w.p.global(i)]; at != uint64(places[n]) {
			x.t.Fatalf("the global root %d has %d; by the graph %d", i, at, places[n])
		}
	}
	for _, n := range g.Reach() {
		refs, data, _ := g.Object(n)
		at := places[n]
		want := []uint64{x.w.m.words[at]}
		for _, n := range refs {
			want = append(want, uint64(places[n]))
		}
		want = append(want, data...)
		if refsOf(want[0]) != len(refs) || !slices.Equal(x.w.m.words[at:at+len(want)], want) {
			x.t.Fatalf("the object at %d is %v; by the graph %v, %v at %v", at, x.w.m.words[at:at+len(want)], refs, data, places)
		}
	}
}

// only holds that what is reached is all there is, and that of what is shared all has the collector's colour, and nothing is grey.
func (x *cycles) only(g *graph.Graph, places []int) {
	x.t.Helper()
	var want, is []int
	for _, n := range g.Reach() {
		want = append(want, places[n])
	}
	x.c.walk(plain(x.w.m.words), func(at, block int, entry, w uint64) {
		if kindOfHeader(w) > 1 {
			is = append(is, at)
		}
		if kindOfHeader(w) == 3 && !black(w, x.c.colour) {
			x.t.Errorf("at %d is %d, in the colour %d", at, w, x.c.colour)
		}
	})
	slices.Sort(want)
	if slices.Sort(is); !slices.Equal(is, want) {
		x.t.Fatalf("there are %v; reached are %v", is, want)
	}
}

// onGraph does an operation of a thread on the graph.
func onGraph(g *graph.Graph, th int, x script.Op) (n int, v uint64, e api.Errno) {
	a, b, c := int(x.A), int(x.B), int(x.C)
	switch x.Do {
	case script.Alloc:
		n, e = g.Alloc(th, a, b, c)
	case script.Load:
		n, e = g.Load(th, a, b, c)
	case script.Store:
		e = g.Store(th, a, b, c)
	case script.Read:
		v, e = g.Read(th, a, b)
	case script.Write:
		e = g.Write(th, a, b, uint64(x.C))
	case script.Get:
		n, e = g.Get(th, a, b)
	case script.Put:
		e = g.Put(th, a, b)
	case script.Move:
		e = g.Move(th, a, b)
	case script.Clear:
		e = g.Clear(th, a)
	case script.Push:
		e = g.Push(th, a)
	case script.Pop:
		e = g.Pop(th, a)
	}
	return n, v, e
}

// P20.1 to P20.3: threads that do what they will, collect, and answer a collector that goes through cycles: nothing is lost that is reached; and when all is quiet, and two more cycles are over, nothing else is left.
func TestCycles(t *testing.T) {
	pick := some(9)
	var ops, out, freed, begun int
	for round := range 160 {
		p := lay(t, 1+pick(1+round/20), 1+pick(3), 2+pick(10))
		x := newCycles(t, p)
		for n := range 6000 {
			if x.step(pick(p.threads+1), pick, false); n%17 == 0 {
				x.w.live(t)
			}
		}
		for range 2 {
			x.rest(pick)
			x.w.live(t)
			x.step(p.threads, pick, false)
		}
		x.rest(pick)
		g, places := x.agrees()
		x.shape(g, places)
		x.only(g, places)
		for _, y := range x.told {
			if y.r.E == api.ErrMem {
				out++
			}
		}
		ops, freed, begun = ops+len(x.told), freed+x.c.freed, begun+x.begun
	}
	if ops < 50000 || out < 500 || freed < 400 || begun < 1000 {
		t.Errorf("%d operations, %d times out of memory, %d shared objects freed, %d cycles", ops, out, freed, begun)
	}
}
