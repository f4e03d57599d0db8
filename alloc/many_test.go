package alloc

import (
	"slices"
	"testing"

	"demesne/agent"
	"demesne/api"
)

// The kinds of acts.
const (
	makes   = iota // an object of a size
	drops          // the object that was made first, of those that are there: its header is Free; of a run the entry is Spent, so that it waits
	empties        // the block of the small object that was made first: its objects are gone, its cells are off the list, and it waits
	count          // how many there are
)

// act is what one of several does; of makes the collector may walk.
type act struct {
	kind, size int
	walks      bool
}

// told is what an agent was told of an object that it asked for.
type told struct {
	at   int
	e    api.Errno
	size int
}

// maker makes objects, by the program or by its model, and takes places off the list.
type maker interface {
	make(m api.Mem, walks bool, size int) (int, api.Errno)
	drop(from, to int)
	rows() rows
}

// byProgram is a maker of the program.
type byProgram struct{ k Maker }

func (x *byProgram) make(m api.Mem, walks bool, size int) (int, api.Errno) {
	x.k.M, x.k.Walks = m, walks
	return x.k.Make(size/2, size)
}

func (x *byProgram) drop(from, to int) { x.k.Free.Drop(from, to) }

func (x *byProgram) rows() rows { return rowsOf(x.k.Free) }

// byModel is one of the model.
type byModel struct{ o model }

func (x *byModel) make(m api.Mem, walks bool, size int) (int, api.Errno) {
	x.o.m, x.o.walks = m, walks
	return x.o.make(size/2, size)
}

func (x *byModel) drop(from, to int) {
	for c, row := range x.o.free {
		x.o.free[c] = slices.DeleteFunc(row, func(at int) bool { return from <= at && at < to })
	}
}

func (x *byModel) rows() rows { return x.o.free }

// actor is an agent with its maker, and what came of its acts.
type actor struct {
	maker
	a     *agent.Agent
	taken int // the place that is taken, but of which no object was told yet; or 0
	live  []object
	told  []told
	last  mark // the last touch of the map that was its own
}

// world is agents over one memory, each with acts that it does one behind the other.
type world struct {
	p      plan
	m      *tape
	actors []*actor
}

// newWorld is one of makers, over a memory that is begun.
func newWorld(t *testing.T, p plan, acts [][]act, of func(x *actor, owner int) maker) *world {
	w := &world{p: p, m: newTape(p.filled(all(p.blocks))...)}
	for b := range p.blocks {
		w.m.words[p.entry(b)] = 0
	}
	for i, l := range acts {
		x := &actor{}
		x.maker = of(x, i)
		x.a, _ = agent.New(w.m, func(m api.Mem) {
			for _, y := range l {
				w.do(m, x, i, y)
			}
		})
		t.Cleanup(x.a.Stop)
		w.actors = append(w.actors, x)
	}
	return w
}

// do does an act.
func (w *world) do(m api.Mem, x *actor, owner int, y act) {
	switch {
	case y.kind == makes:
		at, e := x.make(m, y.walks, y.size)
		x.told, x.taken = append(x.told, told{at, e, y.size}), 0
		if e == api.OK {
			x.live = append(x.live, object{at, y.size / 2, y.size})
		}
	case y.kind == drops && len(x.live) > 0:
		o := x.live[0]
		x.live = x.live[1:]
		m.Write(o.at, 32*uint64(owner))
		if run := (o.size + 32) / 32; o.size > 8 {
			m.Write(w.p.entry((o.at-w.p.start(0))/32), 5+32*uint64(run)+128*uint64(owner))
		}
	case y.kind == empties:
		i := slices.IndexFunc(x.live, func(o object) bool { return o.size <= 8 })
		if i < 0 {
			return
		}
		block := (x.live[i].at - w.p.start(0)) / 32
		from := w.p.start(block)
		x.live = slices.DeleteFunc(x.live, func(o object) bool { return from <= o.at && o.at < from+32 })
		x.drop(from, from+32)
		m.Write(w.p.entry(block), 4+128*uint64(owner))
	}
}

// several are a world of the program and one of the model, that go on side by side.
type several struct {
	t    *testing.T
	acts [][]act
	is   *world
	want *world
}

// begin makes both.
func begin(t *testing.T, p plan, acts [][]act) *several {
	t.Helper()
	s := &several{t: t, acts: acts}
	s.is = newWorld(t, p, acts, func(x *actor, owner int) maker {
		k := Maker{L: p.l, Owner: uint8(owner), Free: listing(rows{})}
		k.Hold = func(at int) { x.taken = at }
		return &byProgram{k}
	})
	s.want = newWorld(t, p, acts, func(x *actor, owner int) maker {
		return &byModel{model{p: p, owner: uint64(owner), hold: func(at int) { x.taken = at }}}
	})
	return s
}

// step steps an agent of both, and holds what came of it against the model, and against what objects must be.
func (s *several) step(i int) {
	t := s.t
	t.Helper()
	for _, w := range []*world{s.is, s.want} {
		from, x := len(w.m.marks), w.actors[i]
		n := len(x.told)
		if e := x.a.Step(); e != api.OK || len(w.m.marks) != from+1 {
			t.Fatalf("a step of %d of %v: %d, %v", i, s.acts, e, w.m.marks[from:])
		}
		if m := w.m.marks[from]; m.at == 0 {
			x.last = m
		}
		if len(x.told) > n {
			s.tell(w, x, x.told[n:])
		}
	}
	is, want := s.is, s.want
	if m, o := is.m.marks[len(is.m.marks)-1], want.m.marks[len(want.m.marks)-1]; m != o {
		t.Fatalf("the agent %d of %v touched %v; want %v", i, s.acts, m, o)
	}
	x, y := is.actors[i], want.actors[i]
	if x.taken != y.taken || !slices.Equal(x.told, y.told) {
		t.Fatalf("the agent %d of %v was told %v, and holds %d; want %v, %d", i, s.acts, x.told, x.taken, y.told, y.taken)
	}
	if !x.rows().alike(y.rows()) {
		t.Fatalf("the agent %d of %v has the list %v; want %v", i, s.acts, x.rows(), y.rows())
	}
}

// tell holds what an agent is told, as it is told, against what P15.2 says, and writes its objects' fields, as who has them may.
func (s *several) tell(w *world, x *actor, l []told) {
	t := s.t
	t.Helper()
	for _, y := range l {
		if y.e != api.OK {
			s.refused(x, y)
			continue
		}
		for i := y.at + 1; i <= y.at+y.size; i++ {
			if w.m.words[i] != 0 {
				t.Fatalf("%v: %v: the word %d is %d", s.acts, y, i, w.m.words[i])
			}
			w.m.words[i] = 1<<50 + uint64(i)
		}
	}
}

// refused holds that no cell was there, and no run was free at the agent's last touch of the map.
func (s *several) refused(x *actor, y told) {
	s.t.Helper()
	run := 1
	if y.size > 8 {
		run = (y.size + 32) / 32
	} else if n := len(x.rows()[classOf(y.size)]); n > 0 {
		s.t.Fatalf("%v: %v, with %d cells on the list", s.acts, y, n)
	}
	if y.e != api.ErrMem || y.at != 0 || first(x.last.is, run) >= 0 {
		s.t.Fatalf("%v: %v, with the map %b", s.acts, y, x.last.is)
	}
}

// apart holds that all objects that are there, and what is taken, lie apart, and are as they were.
func (s *several) apart() {
	s.t.Helper()
	var live []object
	for i, x := range s.is.actors {
		for _, o := range x.live {
			if h := s.is.m.words[o.at]; h != 2+32*uint64(i)+2048*uint64(o.refs)+262144*uint64(o.size) {
				s.t.Fatalf("%v: the header of %v is %d", s.acts, o, h)
			}
			for at := o.at + 1; at <= o.at+o.size; at++ {
				if s.is.m.words[at] != 1<<50+uint64(at) {
					s.t.Fatalf("%v: the word %d of %v is %d", s.acts, at, o, s.is.m.words[at])
				}
			}
		}
		live = append(live, x.live...)
		if x.taken != 0 {
			live = append(live, object{x.taken, 0, s.acts[i][s.at(i)].size})
		}
	}
	apart(s.t, s.is.p, live)
}

// at is the act that an agent is at that has taken a place: as many objects were told as makes are ahead of it.
func (s *several) at(i int) int {
	n := len(s.is.actors[i].told)
	for k, y := range s.acts[i] {
		if y.kind == makes {
			n--
		}
		if n < 0 {
			return k
		}
	}
	return -1
}

// ready are the agents that are not at their ends.
func (s *several) ready() []int {
	var l []int
	for i, x := range s.is.actors {
		if !x.a.Done() {
			l = append(l, i)
		}
	}
	return l
}

// end holds what is left against the model.
func (s *several) end() {
	s.t.Helper()
	s.apart()
	if !slices.Equal(s.is.m.words, s.want.m.words) {
		s.t.Fatalf("%v: the words %v; want %v", s.acts, s.is.m.words, s.want.m.words)
	}
	for i := range s.acts {
		if !s.is.actors[i].a.Done() || !s.want.actors[i].a.Done() {
			s.t.Fatalf("%v: the agent %d is not at its end", s.acts, i)
		}
	}
}

// orders runs agents in all orders in which their touches may come, but for those in which more often than so many times one goes on while the last one might. It answers how many orders there were.
func orders(t *testing.T, p plan, acts [][]act, switches int) int {
	t.Helper()
	var picks, of []int // which one of how many that may go on was picked, step by step
	for n := 1; ; n++ {
		s := begin(t, p, acts)
		for i, last, left := 0, -1, switches; ; i++ {
			l := s.ready()
			if len(l) == 0 {
				break
			}
			may := slices.Contains(l, last)
			if may && left == 0 {
				l = []int{last}
			}
			if i == len(picks) {
				picks, of = append(picks, 0), append(of, 0)
			}
			of[i] = len(l)
			x := l[picks[i]]
			if may && x != last {
				left--
			}
			last = x
			s.step(x)
			s.apart()
		}
		s.end()
		for len(picks) > 0 && picks[len(picks)-1] == of[len(of)-1]-1 {
			picks, of = picks[:len(picks)-1], of[:len(of)-1]
		}
		if len(picks) == 0 {
			return n
		}
		picks[len(picks)-1]++
	}
}

// P15.2: two and three who make objects, in all orders of their touches, or in all with few switches between them.
func TestOrders(t *testing.T) {
	of := func(size int) act { return act{kind: makes, size: size} }
	walked := func(size int) act { return act{kind: makes, size: size, walks: true} }
	drop, empty := act{kind: drops}, act{kind: empties}
	for _, x := range []struct {
		blocks, switches int
		acts             [][]act
	}{
		{1, 99, [][]act{{of(5)}, {of(5)}}},
		{1, 99, [][]act{{of(9)}, {of(5)}}},
		{1, 99, [][]act{{walked(9)}, {walked(10)}}},
		{1, 99, [][]act{{walked(5), walked(6)}, {of(5)}}},
		{1, 99, [][]act{{walked(5), drop}, {walked(9)}}},
		{1, 99, [][]act{{walked(9), drop, of(9)}, {walked(5)}}},
		{1, 4, [][]act{{walked(5), empty, of(5)}, {walked(5)}}},
		{1, 4, [][]act{{walked(5)}, {walked(5)}, {walked(9)}}},
		{1, 2, [][]act{{of(5), empty}, {of(5), empty}, {of(9), drop}}},
		{2, 3, [][]act{{walked(5)}, {walked(6)}}},
		{2, 2, [][]act{{of(5), empty, of(40)}, {of(9), drop, of(5)}}},
		{2, 2, [][]act{{walked(40), drop}, {of(5)}}},
		{2, 99, [][]act{{walked(40)}, {walked(9)}}},
		{3, 1, [][]act{{of(95), drop, of(3)}, {of(5), drop, of(6)}}},
		{3, 1, [][]act{{of(33)}, {of(8), of(7), drop, of(40)}, {walked(40), drop}}},
	} {
		if n := orders(t, lay(t, 3, 0, x.blocks), x.acts, x.switches); n < 2 {
			t.Errorf("%d orders of %v", n, x.acts)
		}
	}
}

// P15.2: by hand: two see the same block free; who claims it first has it, the other one is out of memory.
func TestRace(t *testing.T) {
	s := begin(t, lay(t, 2, 0, 1), [][]act{{{kind: makes, size: 1}}, {{kind: makes, size: 1}}})
	// Each one's entry is read twice, to look for more and for what waits; then the map is touched.
	for _, i := range []int{0, 1, 1, 0, 1, 0} {
		s.step(i)
	}
	if x := s.is.actors[0]; !x.a.Done() || !slices.Equal(x.told, []told{{0, api.ErrMem, 1}}) {
		t.Errorf("told %v", x.told)
	}
	for range 18 {
		s.step(1)
	}
	// 16 headers and the entry, the field: then the header is left.
	if x := s.is.actors[1]; x.a.Done() || x.taken != s.is.p.start(0) {
		t.Errorf("taken %d; want %d", x.taken, s.is.p.start(0))
	}
	s.step(1)
	if x := s.is.actors[1]; !slices.Equal(x.told, []told{{s.is.p.start(0), api.OK, 1}}) {
		t.Errorf("told %v", x.told)
	}
	s.end()
}

// P15.2: many, in any order, who also leave objects and blocks behind.
func TestMany(t *testing.T) {
	pick := some(15)
	for n := 1; n <= 64; n *= 2 {
		for _, blocks := range []int{1, 4, 20, 64} {
			acts := make([][]act, n)
			for i := range acts {
				for range 1 + pick(24) {
					y := act{kind: max(0, pick(count+3)-3), size: pick(10), walks: pick(3) == 0}
					if pick(3) == 0 {
						y.size = pick(96)
					}
					acts[i] = append(acts[i], y)
				}
			}
			s := begin(t, lay(t, n, 0, blocks), acts)
			k := 0
			for l := s.ready(); len(l) > 0; l = s.ready() {
				if s.step(l[pick(len(l))]); k%97 == 0 {
					s.apart()
				}
				k++
			}
			s.end()
		}
	}
}
