package access

import (
	"cmp"
	"slices"
	"testing"

	"demesne/agent"
	"demesne/api"
	"demesne/graph"
	"demesne/list"
	"demesne/script"
)

// The kinds of acts.
const (
	does   = iota // an operation
	turns         // the thread is in another status, and of a colour
	writes        // the phase, as the collector does
)

// act is what one of several does.
type act struct {
	kind           int
	op             script.Op
	status, colour uint8
	phase          uint64
}

// an is the act of an operation.
func an(do uint8, args ...uint8) act { return act{op: op(do, args...)} }

// turn is that of a thread that comes to be in a status, of a colour.
func turn(status, colour uint8) act { return act{kind: turns, status: status, colour: colour} }

// phase is that of writing one.
func phase(v uint64) act { return act{kind: writes, phase: v} }

// did is an operation that is over: by which thread, what came of it, whether a point was told, and when that was, among all others; if there was none, when it was over.
type did struct {
	thread int
	op     script.Op
	r      Result
	told   bool
	point  int
}

// ended is a Store or a Put in Sync, into what is shared, that is over: what was written and overwritten, and the colour in which that is not white.
type ended struct {
	written, overwritten int
	colour               uint8
}

// runner does what a thread does, by the program or by its model.
type runner interface {
	do(m api.Mem, x script.Op) Result
	turn(status, colour uint8)
	slots() []int
	stack() []int
	held() []int
	work() []int
	state() state
}

// byProgram is one of the program.
type byProgram struct{ th *Thread }

func (x byProgram) do(m api.Mem, y script.Op) Result {
	x.th.M = m
	return x.th.Do(y)
}

func (x byProgram) turn(status, colour uint8) { x.th.Status, x.th.Colour = status, colour }
func (x byProgram) slots() []int              { return slotsOf(x.th) }
func (x byProgram) stack() []int              { return x.th.Roots.Stack() }
func (x byProgram) held() []int               { return x.th.Held }
func (x byProgram) work() []int               { return x.th.Work }
func (x byProgram) state() state              { return stateOf(x.th) }

// byModel is one of the model.
type byModel struct{ o *model }

func (x byModel) do(m api.Mem, y script.Op) Result {
	x.o.m = m
	return x.o.do(y)
}

func (x byModel) turn(status, colour uint8) { x.o.status, x.o.colour = status, colour }
func (x byModel) slots() []int              { return x.o.slots }
func (x byModel) stack() []int              { return x.o.stack }
func (x byModel) held() []int               { return x.o.held }
func (x byModel) work() []int               { return x.o.work }
func (x byModel) state() state              { return x.o.state() }

// actor is a thread: its status and colour; and of its operation when the point was, or -1, and what was held then.
type actor struct {
	runner
	status, colour uint8
	point          int
	held           []int
}

// world is threads over one memory, and what they have done.
type world struct {
	p      plan
	m      *tape
	actors []*actor
	agents []*agent.Agent
	points int
	done   []did
	ended  []ended
}

// byThreads is a world of threads of the program.
func byThreads(t *testing.T, p plan, slots int) *world {
	w := &world{p: p, m: newTape(p.words()...)}
	for id := range p.threads {
		th, e := New(w.m, p.l, uint8(id), slots)
		if e != api.OK {
			t.Fatalf("a thread: %d", e)
		}
		x := &actor{runner: byProgram{th}}
		th.Point = func() { w.point(x) }
		w.actors = append(w.actors, x)
	}
	return w
}

// byModels is one of models.
func byModels(p plan, slots int) *world {
	w := &world{p: p, m: newTape(p.words()...)}
	for id := range p.threads {
		o := &model{m: w.m, p: p, id: id, slots: make([]int, slots), free: list.New()}
		x := &actor{runner: byModel{o}}
		o.point = func() { w.point(x) }
		w.actors = append(w.actors, x)
	}
	return w
}

// point keeps when an actor's point was.
func (w *world) point(x *actor) {
	x.point, x.held = w.points, slices.Clone(x.runner.held())
	w.points++
}

// do does an act on a memory; of one that only writes there is no actor.
func (w *world) do(m api.Mem, i int, y act) {
	switch y.kind {
	case writes:
		m.Write(1, y.phase)
	case turns:
		x := w.actors[i]
		x.status, x.colour = y.status, y.colour
		x.turn(y.status, y.colour)
	case does:
		w.operate(m, i, y.op)
	}
}

// operate does an operation, and keeps what came of it.
func (w *world) operate(m api.Mem, i int, y script.Op) {
	x := w.actors[i]
	x.point = -1
	r := x.do(m, y)
	told := x.point >= 0
	// What is refused changes nothing: it is so whenever it is over.
	if !told {
		w.point(x)
	}
	w.done = append(w.done, did{i, y, r, told, x.point})
	if r.E != api.OK || x.status != Sync {
		return
	}
	if y.Do != script.Put && (y.Do != script.Store || kindOf(w.m.words.Read(x.slots()[y.A])) != 3) {
		return
	}
	n := ended{written: x.slots()[argumentVal(y)], colour: 1 - x.colour}
	if len(x.held) > 0 {
		n.overwritten = x.held[0]
	}
	w.ended = append(w.ended, n)
}

// begin makes agents of acts, which the test stops in its end.
func (w *world) begin(t *testing.T, acts [][]act) {
	for i, l := range acts {
		a, e := agent.New(w.m, func(m api.Mem) {
			for _, y := range l {
				w.do(m, i, y)
			}
		})
		if e != api.OK {
			t.Fatalf("an agent: %d", e)
		}
		t.Cleanup(a.Stop)
		w.agents = append(w.agents, a)
	}
}

// several are a world of the program and one of the model, that go on side by side.
type several struct {
	t        *testing.T
	acts     [][]act
	is, want *world
}

// first is an act of an actor that is done ahead of all agents'.
type first struct {
	actor int
	act
}

// start makes both, lets what comes first be done, and begins their agents.
func start(t *testing.T, p plan, slots int, ahead []first, acts [][]act) *several {
	t.Helper()
	s := &several{t: t, acts: acts, is: byThreads(t, p, slots), want: byModels(p, slots)}
	for _, w := range []*world{s.is, s.want} {
		for _, x := range ahead {
			w.do(w.m, x.actor, x.act)
		}
		if slices.ContainsFunc(w.done, func(x did) bool { return x.r.E != api.OK }) {
			t.Fatalf("ahead of all: %v", w.done)
		}
		w.begin(t, acts)
	}
	s.alike()
	return s
}

// alike holds both worlds against each other.
func (s *several) alike() {
	s.t.Helper()
	is, want := s.is, s.want
	if !slices.Equal(is.done, want.done) || !slices.Equal(is.ended, want.ended) || is.points != want.points {
		s.t.Fatalf("%v: done %v, %v; want %v, %v", s.acts, is.done, is.ended, want.done, want.ended)
	}
	for i, x := range is.actors {
		if a, b := x.state(), want.actors[i].state(); a != b {
			s.t.Fatalf("%v: the thread %d has %v; want %v", s.acts, i, a, b)
		}
	}
	for i, a := range is.agents {
		if a.Done() != want.agents[i].Done() {
			s.t.Fatalf("%v: the agent %d is at its end: %v", s.acts, i, a.Done())
		}
	}
	if !slices.Equal(is.m.words, want.m.words) {
		s.t.Fatalf("%v: the words %v; want %v", s.acts, is.m.words, want.m.words)
	}
}

// step steps an agent of both, and holds the touch against the model's.
func (s *several) step(i int) {
	s.t.Helper()
	for _, w := range []*world{s.is, s.want} {
		from := len(w.m.marks)
		if e := w.agents[i].Step(); e != api.OK || len(w.m.marks) != from+1 {
			s.t.Fatalf("a step of %d of %v: %d, %v", i, s.acts, e, w.m.marks[from:])
		}
	}
	if a, b := s.is.m.marks[len(s.is.m.marks)-1], s.want.m.marks[len(s.want.m.marks)-1]; a != b {
		s.t.Fatalf("the agent %d of %v touched %v; want %v", i, s.acts, a, b)
	}
}

// ready are the agents that are not at their ends.
func (s *several) ready() []int {
	var l []int
	for i, a := range s.is.agents {
		if !a.Done() {
			l = append(l, i)
		}
	}
	return l
}

// objects are the places of all that was made.
func (w *world) objects() []int {
	var l []int
	for _, x := range w.done {
		if x.op.Do == script.Alloc && x.r.E == api.OK {
			l = append(l, x.r.At)
		}
	}
	return l
}

// apart holds that no Global object leads to a Local one, but for such as wait on a worklist; and that no global root does; nor does a thread reach by itself what is Local and another one's.
func (w *world) apart(t *testing.T) {
	t.Helper()
	isLocal := func(at uint64) bool { return at != 0 && kindOf(w.m.words.Read(int(at))) == 2 }
	for g := range w.p.globals {
		if to := w.m.words[w.p.global(g)]; isLocal(to) {
			t.Fatalf("%v: the global root %d leads to the Local object at %d", w.done, g, to)
		}
	}
	var waits []int
	for _, x := range w.actors {
		waits = append(waits, x.work()...)
	}
	for _, at := range w.objects() {
		refs, _ := fieldsOf(w.m.words[at])
		for _, to := range w.m.words[at+1 : at+1+refs] {
			if isLocal(to) && !isLocal(uint64(at)) && !slices.Contains(waits, at) {
				t.Fatalf("%v: the Global object at %d leads to the Local one at %d, and waits nowhere", w.done, at, to)
			}
		}
	}
	for i, x := range w.actors {
		for _, at := range slices.Concat(x.slots(), x.stack()) {
			if isLocal(uint64(at)) && w.m.words[at]>>5&63 != uint64(i) {
				t.Fatalf("%v: the thread %d has another one's Local object at %d", w.done, i, at)
			}
		}
	}
}

// dyed holds that neither what was written nor what was overwritten in Sync is white, of what is over.
func (w *world) dyed(t *testing.T) {
	t.Helper()
	for _, x := range w.ended {
		for _, at := range []int{x.written, x.overwritten} {
			if h := w.m.words.Read(at); at != 0 && (kindOf(h) != 3 || uint8(h>>2&1) != x.colour) {
				t.Fatalf("%v: the header at %d is %d, white in the colour %d", w.done, at, h, x.colour)
			}
		}
	}
}

// onGraph does an operation of a thread on the graph.
func onGraph(g *graph.Graph, th int, x script.Op) (n int, v uint64, e api.Errno) {
	a, b, c := int(x.A), int(x.B), int(x.C)
	switch x.Do {
	case script.Alloc:
		n, e = g.Alloc(th, a, b, c)
	case script.Load:
		n, e = g.Load(th, a, b, c)
	case script.Store:
		e = g.Store(th, a, b, c)
	case script.Read:
		v, e = g.Read(th, a, b)
	case script.Write:
		e = g.Write(th, a, b, uint64(x.C))
	case script.Get:
		n, e = g.Get(th, a, b)
	case script.Put:
		e = g.Put(th, a, b)
	case script.Move:
		e = g.Move(th, a, b)
	case script.Clear:
		e = g.Clear(th, a)
	case script.Push:
		e = g.Push(th, a)
	case script.Pop:
		e = g.Pop(th, a)
	default:
		e = api.ErrForm
	}
	return n, v, e
}

// agrees holds what was told, in the order of the points, against the graph, up to objects' names; and then all that threads have, and all objects.
func (w *world) agrees(t *testing.T) {
	t.Helper()
	g, e := graph.New(w.p.threads, len(w.actors[0].slots()), w.p.globals)
	if e != api.OK {
		t.Fatalf("a graph: %d", e)
	}
	places := []int{0}
	l := slices.SortedFunc(slices.Values(w.done), func(a, b did) int { return cmp.Compare(a.point, b.point) })
	for _, x := range l {
		if x.told != (x.r.E == api.OK || x.r.E == api.ErrMem) {
			t.Fatalf("%v: a point was told: %v", x, x.told)
		}
		// That memory is out is what the machine says.
		if x.r.E == api.ErrMem {
			if x.op.Do != script.Alloc || x.r != (Result{E: api.ErrMem}) {
				t.Fatalf("%v", x)
			}
			continue
		}
		n, v, e := onGraph(g, x.thread, x.op)
		if x.op.Do == script.Alloc && e == api.OK {
			if slices.Contains(places, x.r.At) {
				t.Fatalf("%v: that is another object's place", x)
			}
			places = append(places, x.r.At)
		}
		if want := (Result{e, places[n], v}); x.r != want {
			t.Fatalf("%v; by the graph %v", x, want)
		}
	}
	w.shape(t, g, places)
}

// shape holds all that threads have, and all objects, against the graph.
func (w *world) shape(t *testing.T, g *graph.Graph, places []int) {
	t.Helper()
	are := func(numbers, is []int) bool {
		return slices.EqualFunc(numbers, is, func(n, at int) bool { return places[n] == at })
	}
	for i, x := range w.actors {
		if slots, stack, _ := g.Own(i); !are(slots, x.slots()) || !are(stack, x.stack()) {
			t.Fatalf("%v: the thread %d has %v, %v; by the graph %v, %v at %v", w.done, i, x.slots(), x.stack(), slots, stack, places)
		}
		if len(x.runner.held()) != 0 || len(x.work()) != 0 {
			t.Fatalf("%v: the thread %d holds %v, its worklist %v", w.done, i, x.runner.held(), x.work())
		}
	}
	for i, n := range g.Globals() {
		if at := w.m.words[w.p.global(i)]; at != uint64(places[n]) {
			t.Fatalf("%v: the global root %d has %d; by the graph %d", w.done, i, at, places[n])
		}
	}
	for n, at := range places[1:] {
		refs, data, _ := g.Object(n + 1)
		want := []uint64{w.m.words[at]}
		for _, n := range refs {
			want = append(want, uint64(places[n]))
		}
		want = append(want, data...)
		if r, d := fieldsOf(want[0]); r != len(refs) || d != len(data) || !slices.Equal(w.m.words[at:at+len(want)], want) {
			t.Fatalf("%v: the object at %d is %v; by the graph %v, %v at %v", w.done, at, w.m.words[at:at+len(want)], refs, data, places)
		}
	}
}

// end holds all that is left.
func (s *several) end() {
	s.t.Helper()
	s.alike()
	s.is.agrees(s.t)
}

// orders runs agents in all orders in which their touches may come, but for those in which more often than so many times one goes on while the last one might. It answers how many orders there were.
func orders(t *testing.T, p plan, ahead []first, acts [][]act, switches int) int {
	t.Helper()
	var picks, of []int // which one of how many that may go on was picked, step by step
	for n := 1; ; n++ {
		s := start(t, p, 3, ahead, acts)
		for i, last, left := 0, -1, switches; ; i++ {
			l := s.ready()
			if len(l) == 0 {
				break
			}
			may := slices.Contains(l, last)
			if may && left == 0 {
				l = []int{last}
			}
			if i == len(picks) {
				picks, of = append(picks, 0), append(of, 0)
			}
			of[i] = len(l)
			x := l[picks[i]]
			if may && x != last {
				left--
			}
			last = x
			s.step(x)
			s.alike()
			s.is.apart(t)
			s.is.dyed(t)
		}
		s.end()
		for len(picks) > 0 && picks[len(picks)-1] == of[len(of)-1]-1 {
			picks, of = picks[:len(picks)-1], of[:len(of)-1]
		}
		if len(picks) == 0 {
			return n
		}
		picks[len(picks)-1]++
	}
}

// two are two threads, both with a shared object of two references and a datum in the slot 0, which is in the global root 0 and leads to itself; and with a Local one of their own, of one reference and a datum, in the slot 1.
func two() []first {
	l := []first{
		{0, an(script.Alloc, 0, 2, 3)}, {0, an(script.Put, 0, 0)}, {0, an(script.Store, 0, 0, 0)},
		{1, an(script.Get, 0, 0)},
	}
	for i := range 2 {
		l = append(l, first{i, an(script.Alloc, 1, 1, 2)}, first{i, an(script.Write, 1, 0, uint8(10+i))})
	}
	return l
}

// P17.2, P17.3: two who write and read one object, and one global root, at once, in all orders of their touches, or in all with few switches between them.
func TestOrders(t *testing.T) {
	store, put, load, get := an(script.Store, 0, 0, 1), an(script.Put, 0, 1), an(script.Load, 2, 0, 0), an(script.Get, 2, 0)
	clear, drop := an(script.Store, 0, 0, 2), an(script.Put, 0, 2)
	set, see := an(script.Write, 0, 0, 5), an(script.Read, 0, 0)
	sync, prep := turn(Sync, 0), turn(Prep, 0)
	for _, x := range []struct {
		acts     [][]act
		switches int
		n        int // how many orders there are, where no one's touches hang on another one's; else 0
	}{
		{[][]act{{set}, {see}}, 99, 6},
		{[][]act{{set, see}, {see, set}}, 99, 70},
		{[][]act{{load}, {load}}, 99, 6},
		{[][]act{{clear}, {load, get}}, 99, 20},
		{[][]act{{drop}, {get}}, 99, 3},
		{[][]act{{drop, get}, {get, drop}}, 99, 0},
		{[][]act{{clear, load}, {load, clear}}, 99, 0},
		{[][]act{{store}, {load}}, 99, 0},
		{[][]act{{put}, {get, an(script.Read, 2, 0), an(script.Load, 2, 2, 0)}}, 99, 0},
		{[][]act{{store, an(script.Write, 1, 0, 77)}, {load, an(script.Read, 2, 0)}}, 99, 0},
		{[][]act{{store, see}, {store, load}}, 3, 0},
		{[][]act{{sync, drop}, {sync, drop}}, 99, 0},
		{[][]act{{sync, clear}, {sync, clear}}, 99, 0},
		{[][]act{{sync, clear}, {load, an(script.Store, 0, 1, 2)}}, 99, 0},
		{[][]act{{sync, store}, {sync, store}}, 3, 0},
		{[][]act{{sync, store, load}, {sync, put, get}}, 3, 0},
		{[][]act{{sync, put}, {prep, store, get}}, 3, 0},
		{[][]act{{put, an(script.Store, 1, 0, 0)}, {get, an(script.Store, 2, 0, 1), an(script.Load, 2, 0, 0)}}, 3, 0},
	} {
		if n := orders(t, lay(t, 2, 1, 3), two(), x.acts, x.switches); n < 3 || x.n != 0 && n != x.n {
			t.Errorf("%d orders of %v; want %d", n, x.acts, x.n)
		}
	}
}

// P17.2, P17.3: while the collector goes from phase to phase: by the one that was read a thread goes on.
func TestPhases(t *testing.T) {
	clear, drop, store := an(script.Store, 0, 0, 2), an(script.Put, 0, 2), an(script.Store, 0, 0, 1)
	run, sync := turn(Run, 1), turn(Sync, 0)
	p := lay(t, 1, 1, 2)
	ahead := []first{{0, an(script.Alloc, 0, 2, 3)}, {0, an(script.Put, 0, 0)}, {0, an(script.Store, 0, 0, 0)}, {0, an(script.Alloc, 1, 1, 2)}}
	for _, x := range []struct {
		acts [][]act
		n    int
	}{
		{[][]act{{clear}, {phase(ToPrep), phase(ToSync), phase(Snap)}}, 20},
		{[][]act{{run, clear}, {phase(Snap), phase(Mark), phase(Term), phase(Sweep)}}, 0},
		{[][]act{{run, drop, drop}, {phase(Snap), phase(Sweep)}}, 0},
		{[][]act{{sync, clear, drop}, {phase(ToSync), phase(Snap)}}, 0},
		{[][]act{{sync, store}, {phase(Sweep)}}, 0},
		{[][]act{{turn(Prep, 0), drop, clear, an(script.Alloc, 2, 0, 1)}, {phase(Mark), phase(Idle)}}, 0},
	} {
		if n := orders(t, p, ahead, x.acts, 99); n < 5 || x.n != 0 && n != x.n {
			t.Errorf("%d orders of %v; want %d", n, x.acts, x.n)
		}
	}
}

// P17.2, P17.3: by hand: two store to one reference; each one holds, and shades, what it found there.
func TestBothFind(t *testing.T) {
	acts := [][]act{{turn(Sync, 0), an(script.Store, 0, 0, 1)}, {turn(Sync, 0), an(script.Store, 0, 0, 1)}}
	s := start(t, lay(t, 2, 1, 3), 3, two(), acts)
	objects := s.is.objects()
	shared, a, b := objects[0], objects[1], objects[2]
	at := func(i int) uint64 { return s.is.m.words[i] }
	if at(shared+1) != uint64(shared) || at(a+2) != 10 || at(b+2) != 11 {
		t.Fatalf("objects %v, words %v", objects, s.is.m.words)
	}
	// Each one: the phase, two headers, an Update, a header and a reference of what is published, a header and an Update that shade; then the Update of the word.
	for _, i := range []int{0, 1} {
		for range 8 {
			s.step(i)
		}
	}
	s.step(1)
	if held := s.is.actors[1].runner.held(); at(shared+1) != uint64(b) || !slices.Equal(held, []int{shared}) {
		t.Errorf("the word %d, held %v", at(shared+1), held)
	}
	s.step(0)
	if held := s.is.actors[0].runner.held(); at(shared+1) != uint64(a) || !slices.Equal(held, []int{b}) {
		t.Errorf("the word %d, held %v", at(shared+1), held)
	}
	for l := s.ready(); len(l) > 0; l = s.ready() {
		s.step(l[0])
	}
	for _, x := range objects {
		if h := at(x); h&(colourBit|greyBit) != colourBit|greyBit {
			t.Errorf("the header at %d is %d", x, h)
		}
	}
	s.is.dyed(t)
	s.end()
}

// P17.2: who is stopped in an operation has held what it held, and its point is told only if it was there.
func TestStopped(t *testing.T) {
	for _, y := range []act{an(script.Store, 0, 0, 1), an(script.Put, 0, 1), an(script.Alloc, 2, 1, 1), an(script.Alloc, 2, 1, 40), an(script.Load, 2, 0, 0), an(script.Write, 0, 0, 9)} {
		for n := 0; ; n++ {
			s := start(t, lay(t, 2, 1, 5), 3, two(), [][]act{{turn(Sync, 0), y}})
			was := s.is.points
			for range n {
				s.step(0)
				s.alike()
				s.is.apart(t)
			}
			if s.is.agents[0].Done() {
				break
			}
			is, touches := s.is.actors[0].state(), len(s.is.m.marks)
			s.is.agents[0].Stop()
			s.want.agents[0].Stop()
			s.alike()
			if s.is.actors[0].state() != is || len(s.is.m.marks) != touches || s.is.points > was+1 || len(s.is.done) != len(two()) {
				t.Fatalf("%v, stopped behind %d touches: %v, %d touches, %v; had %v", y, n, s.is.actors[0].state(), len(s.is.m.marks)-touches, s.is.done, is)
			}
		}
	}
}

// anyActs are acts of any threads: a row of operations each, among them such as are refused; with statuses, colours and phases as they come in a cycle, of which the colour is that, if it is to have begun, or else as they come ahead of its beginning.
func anyActs(pick func(below int) int, threads, rows int, begun bool, colour uint8) [][]act {
	acts := make([][]act, threads+1)
	for i := range acts {
		for range 1 + pick(rows) {
			switch {
			case i == threads && begun:
				acts[i] = append(acts[i], phase([]uint64{Snap, Mark, Term}[pick(3)]))
			case i == threads:
				acts[i] = append(acts[i], phase(uint64(pick(3))))
			case pick(9) > 0:
				acts[i] = append(acts[i], anyOperation(pick))
			case begun && pick(2) == 0:
				acts[i] = append(acts[i], turn(Run, colour))
			case begun:
				acts[i] = append(acts[i], turn(Sync, 1-colour))
			default:
				acts[i] = append(acts[i], turn(uint8(pick(3)), 1-colour))
			}
		}
	}
	return acts
}

// anyOperation is one with arguments that are mostly such as may be.
func anyOperation(pick func(below int) int) act {
	slot := func() uint8 { return uint8(pick(3+pick(2)) + pick(2)*pick(2)*pick(2)) }
	switch do := uint8(1 + pick(11)); do {
	case script.Alloc:
		size := uint8(pick(9))
		if pick(20) == 0 {
			size = uint8(pick(98))
		}
		return an(do, slot(), uint8(pick(int(size)+1)), size)
	case script.Load:
		return an(do, slot(), slot(), uint8(pick(3)))
	case script.Store:
		return an(do, slot(), uint8(pick(3)), slot())
	case script.Read, script.Write:
		return an(do, slot(), uint8(pick(3)), uint8(pick(256)))
	case script.Get, script.Move:
		return an(do, slot(), slot())
	default:
		return an(do, slot(), slot())
	}
}

// P17.2, P17.3: many, in any order, ahead of a cycle's beginning and in it: what they tell is what the graph says, what is shared leads to nothing Local, and what is written and overwritten in Sync is not white.
func TestMany(t *testing.T) {
	pick := some(17)
	for n := 1; n <= 64; n *= 2 {
		for round := range 24 {
			colour, begun := uint8(round&1), round>>1&1 == 1
			var ahead []first
			if begun {
				for i := range n {
					ahead = append(ahead, first{i, turn(Sync, 1-colour)})
				}
				ahead = append(ahead, first{-1, phase(Snap)})
			}
			acts := anyActs(pick, n, 4+400/n, begun, colour)
			s := start(t, lay(t, n, pick(9), 1+pick(28)), 1+pick(5), ahead, acts)
			k := 0
			for l := s.ready(); len(l) > 0; l = s.ready() {
				if s.step(l[pick(len(l))]); k%31 == 0 {
					s.alike()
					s.is.apart(t)
					s.is.dyed(t)
				}
				k++
			}
			s.is.apart(t)
			s.is.dyed(t)
			s.end()
		}
	}
}

// P17.3: one thread, one operation behind the other, in any statuses, colours and phases: what it tells is what the graph says.
func TestOneBehindTheOther(t *testing.T) {
	pick := some(3)
	for range 300 {
		w := byThreads(t, lay(t, 1+pick(3), pick(4), 1+pick(12)), 1+pick(5))
		for range 1 + pick(300) {
			y := anyOperation(pick)
			switch pick(12) {
			case 0:
				y = turn(uint8(pick(3)), uint8(pick(2)))
			case 1:
				y = phase(uint64(pick(7)))
			}
			w.do(w.m, pick(w.p.threads), y)
			w.apart(t)
			// Behind a Store or a Put; others may be of another colour later.
			w.dyed(t)
			w.ended = nil
		}
		w.agrees(t)
	}
}
