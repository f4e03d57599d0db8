package sweep

import (
	"slices"
	"strings"
	"testing"

	"demesne/agent"
	"demesne/alloc"
	"demesne/api"
	"demesne/give"
	"demesne/list"
)

// deed is what one of several does, for an owner or as another one may.
type deed struct {
	kind, owner int
	walks       bool
	size        int
	at          int
	v           uint64
}

// The kinds of deeds.
const (
	sweeps = iota // for an owner
	makes         // an object of a size, for an owner
	gives         // all blocks that wait back, of whatever owner, as a collector does
	writes        // a word
)

// object is one that was made, or that could not be.
type object struct {
	owner, size, at int
	e               api.Errno
}

// world is agents over one memory, with deeds that each one does one behind the other, and a list of each owner.
type world struct {
	p      plan
	m      *tape
	lists  []*list.List
	agents []*agent.Agent
	made   []object
}

// newWorld makes agents, which the test stops in its end.
func newWorld(t *testing.T, h *heap, deeds [][]deed, sweep func(w *world, m api.Mem, d deed)) *world {
	t.Helper()
	w := &world{p: h.p, m: newTape(h.words, nil)}
	for _, r := range h.free {
		w.lists = append(w.lists, listing(r))
	}
	for _, l := range deeds {
		a, e := agent.New(w.m, func(m api.Mem) {
			for _, d := range l {
				w.do(m, d, sweep)
			}
		})
		if e != api.OK {
			t.Fatalf("an agent: %d", e)
		}
		t.Cleanup(a.Stop)
		w.agents = append(w.agents, a)
	}
	return w
}

// do does a deed.
func (w *world) do(m api.Mem, d deed, sweep func(w *world, m api.Mem, d deed)) {
	switch d.kind {
	case sweeps:
		sweep(w, m, d)
	case makes:
		k := alloc.Maker{M: m, L: w.p.l, Owner: uint8(d.owner), Free: w.lists[d.owner], Walks: d.walks}
		at, e := k.Make(d.size/2, d.size)
		w.made = append(w.made, object{d.owner, d.size, at, e})
	case gives:
		give.Waiting(m, w.p.l, func(uint8) bool { return true })
	case writes:
		m.Write(d.at, d.v)
	}
}

// several are a world of the program and one of the model, that go on side by side.
type several struct {
	first    *heap
	deeds    [][]deed
	is, want *world
	wild     bool // someone writes what is none of its own
}

// begin makes both.
func begin(t *testing.T, h *heap, deeds [][]deed) *several {
	t.Helper()
	s := &several{first: h, deeds: deeds}
	s.is = newWorld(t, h, deeds, func(w *world, m api.Mem, d deed) {
		Sweep(m, w.p.l, uint8(d.owner), w.lists[d.owner], d.walks)
	})
	s.want = newWorld(t, h, deeds, func(w *world, m api.Mem, d deed) {
		o := &model{m: m, p: w.p, owner: d.owner, free: w.lists[d.owner], walks: d.walks}
		o.sweep()
	})
	s.wild = slices.ContainsFunc(slices.Concat(deeds...), func(d deed) bool { return d.kind == writes })
	return s
}

// step steps an agent of both, and holds what it touches, and the lists behind that, against the model.
func (s *several) step(t *testing.T, i int) {
	t.Helper()
	is, want := s.is, s.want
	for _, w := range []*world{is, want} {
		n := len(w.m.acts)
		if e := w.agents[i].Step(); e != api.OK || len(w.m.acts) != n+1 {
			t.Fatalf("a step of %d of %v: %d, %s", i, s.deeds, e, texts(w.m.acts[n:]))
		}
	}
	if n := len(want.m.acts) - 1; is.m.acts[n] != want.m.acts[n] || !slices.Equal(is.made, want.made) || is.agents[i].Done() != want.agents[i].Done() {
		t.Fatalf("%d of %v: %s, made %v; want %s, %v", i, s.deeds, texts(is.m.acts), is.made, texts(want.m.acts), want.made)
	}
	for owner, l := range is.lists {
		if r, k := rowsOf(l), rowsOf(want.lists[owner]); !r.alike(k) {
			t.Fatalf("%d of %v, behind %s: the list of %d is %v; want %v", i, s.deeds, texts(is.m.acts), owner, r, k)
		}
	}
}

// sound holds what must be so at every step: each list has its owner's own free cells, no free block is something in the table, and what stays is as it was.
func (s *several) sound(t *testing.T) {
	t.Helper()
	if s.wild {
		return
	}
	w, words := s.is, s.is.m.words
	for owner, l := range w.lists {
		if !lists(w.p, owner, words, rowsOf(l)) {
			t.Fatalf("%v, behind %s: the list of %d is %v, of %v", s.deeds, texts(w.m.acts), owner, rowsOf(l), words)
		}
	}
	for block := range w.p.blocks {
		if words[0]>>block&1 == 1 && words[w.p.entry(block)] != 0 {
			t.Fatalf("%v, behind %s: the map %b, the entry of %d %d", s.deeds, texts(w.m.acts), words[0], block, words[w.p.entry(block)])
		}
		s.stay(t, block, false)
	}
}

// sweeps is how often an owner sweeps.
func (s *several) sweeps(owner int) int {
	n := 0
	for _, d := range slices.Concat(s.deeds...) {
		if d.kind == sweeps && d.owner == owner {
			n++
		}
	}
	return n
}

// stay holds that the objects of a block that nobody takes back are as they were, but for their marks, if their owner sweeps: these are gone when it is over.
func (s *several) stay(t *testing.T, block int, over bool) {
	t.Helper()
	p, words := s.first.p, s.first.words
	entry := words[p.entry(block)]
	owner := int(entry / 128)
	var cells []int
	switch entry % 8 {
	case 1:
		cells = p.cells(block, int(entry/8%4))
	case 2:
		cells = []int{p.start(block)}
	}
	times := s.sweeps(owner)
	for _, at := range cells {
		w := words[at]
		if kindOf(w) < 2 || kindOf(w) == 2 && (times > 1 || times == 1 && goes(owner, w)) {
			continue
		}
		is := s.is.m.words[at : at+1+int(w>>18)]
		swept := times == 1 && stays(owner, w)
		asItWas := is[0] == w && !(swept && over) || is[0] == w-markBit && swept
		if !asItWas || !slices.Equal(is[1:], words[at+1:at+len(is)]) {
			t.Fatalf("%v, behind %s: at %d lies %v; there was %v", s.deeds, texts(s.is.m.acts), at, is, words[at:at+len(is)])
		}
	}
}

// over holds what follows, when all are at their ends.
func (s *several) over(t *testing.T) {
	t.Helper()
	if !slices.Equal(s.is.m.words, s.want.m.words) {
		t.Fatalf("%v: left %v; want %v", s.deeds, s.is.m.words, s.want.m.words)
	}
	if s.wild {
		return
	}
	for block := range s.is.p.blocks {
		s.stay(t, block, true)
	}
	s.apart(t)
}

// apart holds that the objects that were made, of owners that do not sweep, lie apart, and are as they were made.
func (s *several) apart(t *testing.T) {
	t.Helper()
	of := map[int]int{}
	for i, o := range s.is.made {
		if o.e != api.OK || s.sweeps(o.owner) > 0 {
			continue
		}
		if w := head(2, o.owner, uint64(o.size/2), uint64(o.size)); s.is.m.words[o.at] != w {
			t.Fatalf("%v: the object %v has the header %d; want %d", s.deeds, o, s.is.m.words[o.at], w)
		}
		for at := o.at; at <= o.at+o.size; at++ {
			if n, ok := of[at]; ok || at > o.at && s.is.m.words[at] != 0 {
				t.Fatalf("%v: the objects %v and %v, the word %d", s.deeds, s.is.made[n], o, s.is.m.words[at])
			}
			of[at] = i
		}
	}
}

// ready are the agents that are not at their ends.
func (s *several) ready() []int {
	var l []int
	for i, a := range s.is.agents {
		if !a.Done() {
			l = append(l, i)
		}
	}
	return l
}

// orders runs agents in all orders in which their touches may come, but for those in which more often than so many times one goes on while the last one might. It answers how many orders there were.
func orders(t *testing.T, h *heap, deeds [][]deed, switches int) int {
	t.Helper()
	var picks, of []int // which one of how many that may go on was picked, step by step
	for n := 1; ; n++ {
		s := begin(t, h, deeds)
		for i, last, left := 0, -1, switches; ; i++ {
			l := s.ready()
			if len(l) == 0 {
				break
			}
			may := slices.Contains(l, last)
			if may && left == 0 {
				l = []int{last}
			}
			if i == len(picks) {
				picks, of = append(picks, 0), append(of, 0)
			}
			of[i] = len(l)
			x := l[picks[i]]
			if may && x != last {
				left--
			}
			last = x
			s.step(t, x)
			s.sound(t)
		}
		s.over(t)
		for len(picks) > 0 && picks[len(picks)-1] == of[len(of)-1]-1 {
			picks, of = picks[:len(picks)-1], of[:len(of)-1]
		}
		if len(picks) == 0 {
			return n
		}
		picks[len(picks)-1]++
	}
}

// laid is a heap of blocks that are laid one behind the other.
func laid(p plan, l ...kind) *heap {
	h := &heap{p: p, words: p.filled(0), free: make([]rows, p.threads)}
	block := 0
	for _, lay := range l {
		// Each block's cells are on its owner's list, which its entry names.
		var r rows
		n := lay(h.words, block, &r)
		if w := h.words[p.entry(block)]; w%8 == 1 {
			for class, row := range r {
				h.free[w/128][class] = append(h.free[w/128][class], row...)
			}
		}
		block += n
	}
	return h
}

// P19.1, P19.2: two and three owners that sweep at once, in all orders of their touches, or in all with few switches between them; also beside one that makes objects, and one that gives blocks back that wait.
func TestOrders(t *testing.T) {
	sweep := func(owner int) deed { return deed{kind: sweeps, owner: owner} }
	walked := func(owner int) deed { return deed{kind: sweeps, owner: owner, walks: true} }
	made := func(owner, size int) deed { return deed{kind: makes, owner: owner, size: size, walks: true} }
	back := deed{kind: gives}
	p := lay(t, 3, 0, 2)
	goes := func(owner int) uint64 { return head(2, owner, 1, 1) }
	mixed := func(owner int) kind { return p.small(3, owner, goes(owner), goes(owner)+markBit, listed(owner)) }
	gone := func(owner int) kind { return p.small(3, owner, goes(owner), listed(owner)) }
	run := func(owner int) kind { return p.run(1, owner, goes(owner)) }
	for _, x := range []struct {
		lay      []kind
		deeds    [][]deed
		switches int
		n        int // how many orders there are, where no one's touches hang on another one's; else 0
	}{
		{[]kind{p.kind(1, emptied(0)), p.kind(1, spent(1, 1))}, [][]deed{{sweep(0)}, {sweep(1)}}, 99, 70},
		{[]kind{run(0), run(1)}, [][]deed{{sweep(0)}, {sweep(1)}}, 99, 3432},
		{[]kind{run(0), run(1)}, [][]deed{{walked(0)}, {walked(1)}}, 99, 252},
		{[]kind{run(1), p.kind(1, emptied(0))}, [][]deed{{walked(0)}, {sweep(1)}}, 99, 36},
		{[]kind{mixed(0), run(1)}, [][]deed{{sweep(0)}, {walked(1)}}, 99, 792},
		{[]kind{gone(0), gone(1)}, [][]deed{{sweep(0)}, {sweep(1)}}, 3, 0},
		{[]kind{gone(0), gone(1)}, [][]deed{{walked(0)}, {walked(1)}, {back}}, 2, 0},
		{[]kind{gone(0), p.open()}, [][]deed{{walked(0)}, {back, made(1, 5), made(1, 5)}}, 3, 0},
		{[]kind{run(0), gone(0)}, [][]deed{{walked(0)}, {back}, {made(1, 9), made(1, 8)}}, 2, 0},
		{[]kind{mixed(0), mixed(1)}, [][]deed{{sweep(0), made(0, 8)}, {sweep(1), made(1, 7), sweep(1)}}, 2, 0},
		{[]kind{gone(0), mixed(1)}, [][]deed{{sweep(0), made(0, 5)}, {made(1, 8), made(1, 6)}}, 3, 0},
		{[]kind{p.run(2, 0, goes(0))}, [][]deed{{sweep(0)}, {made(1, 9), made(2, 9)}}, 4, 0},
		{[]kind{p.run(2, 0, goes(0))}, [][]deed{{sweep(0)}, {made(1, 33)}}, 3, 0},
		{[]kind{p.kind(2, spent(2, 0))}, [][]deed{{sweep(0)}, {made(1, 5)}, {made(2, 9)}}, 2, 0},
	} {
		if n := orders(t, laid(p, x.lay...), x.deeds, x.switches); n < 6 || x.n != 0 && n != x.n {
			t.Errorf("%d orders of %v; want %d", n, x.deeds, x.n)
		}
	}
}

// P19.1: where others write in between, at whatever touch, each touch goes by what is there then.
func TestOneWrites(t *testing.T) {
	p := lay(t, 2, 0, 2)
	h := laid(p, p.small(3, 0, head(2, 0, 1, 1), listed(0), free(1)), p.run(1, 0, head(2, 0, 2, 40)))
	a, b := p.start(0), p.start(1)
	for _, at := range []int{0, p.entry(0), p.entry(1), a, a + 1, a + 9, a + 18, a + 27, b} {
		for _, v := range []uint64{
			0, 1, 3, 1 << 60, free(0), listed(0), listed(1), head(2, 0, 1, 1), head(2, 0, 1, 1) + markBit, head(2, 1, 0, 0), head(3, 0, 0, 0),
			small(3, 0), small(2, 0), small(3, 1), large(1, 0), emptied(0), spent(1, 0), spent(2, 0), tail,
		} {
			for _, walks := range []bool{true, false} {
				orders(t, h, [][]deed{{{kind: sweeps, walks: walks}}, {{kind: writes, at: at, v: v}}}, 99)
			}
		}
	}
}

// P19.1, P19.2: by hand: the collector gives back what a sweep emptied, ahead of the sweep's next touch, and another one makes an object there; none of the cells is on the sweeper's list any more.
func TestEmptiedAtOnce(t *testing.T) {
	p := lay(t, 2, 0, 1)
	h := laid(p, p.small(3, 0, head(2, 0, 1, 1), listed(0)))
	s := begin(t, h, [][]deed{{{kind: sweeps, walks: true}, {kind: makes, size: 8, walks: true}}, {{kind: gives}, {kind: makes, owner: 1, size: 8}}})
	do := func(agent int, acts string) {
		t.Helper()
		n := len(s.is.m.acts)
		for range len(strings.Fields(acts)) {
			s.step(t, agent)
			s.sound(t)
		}
		if got := texts(s.is.m.acts[n:]); got != acts {
			t.Fatalf("%s; want %s", got, acts)
		}
	}
	do(0, "r5 r6 w6=1 r15 r24 w24=1")
	if r := rowsOf(s.is.lists[0]); !r.alike(rows{3: {24, 6, 15}}) {
		t.Errorf("the list is %v", r)
	}
	do(0, "w5=4")
	if r := rowsOf(s.is.lists[0]); !r.alike(rows{}) {
		t.Errorf("the list is %v", r)
	}
	do(1, "r5 w5=0 u0=1 r5 r5 u0=0 w6=33 w15=33 w24=33 w5=153 w7=0")
	// It is out of memory: nothing is on its list, no block is its own or free.
	do(0, "r5 u0=0")
	do(1, "w8=0 w9=0 w10=0 w11=0 w12=0 w13=0 w14=0 w6=2105378")
	s.over(t)
	if want := []object{{0, 8, 0, api.ErrMem}, {1, 8, 6, api.OK}}; !slices.Equal(s.is.made, want) {
		t.Errorf("made %v; want %v", s.is.made, want)
	}
}

// P19.1: who is stopped, behind whatever touch, touches nothing more, and its list stays as it is.
func TestStopped(t *testing.T) {
	pick := some(5)
	for range 60 {
		h := lays(t, pick)
		d := deed{kind: sweeps, owner: pick(h.p.threads), walks: pick(2) == 0}
		whole, _ := given{p: h.p, owner: d.owner, words: h.words, free: h.free[d.owner], walks: d.walks}.play(t)
		touches := slices.DeleteFunc(whole.acts, func(a act) bool { return a.kind == came || a.kind == went })
		for n := 0; n <= len(touches); n += 1 + pick(7) {
			s := begin(t, h, [][]deed{{d}})
			for range n {
				s.step(t, 0)
				s.sound(t)
			}
			was := rowsOf(s.is.lists[d.owner])
			s.is.agents[0].Stop()
			if is := s.is.m.acts; !slices.Equal(is, touches[:n]) || !slices.Equal(s.is.m.words, s.want.m.words) || !rowsOf(s.is.lists[d.owner]).alike(was) {
				t.Fatalf("stopped behind %d touches: %s; want %s", n, texts(is), texts(touches[:n]))
			}
		}
	}
}

// P19.1, P19.2: many owners, in any order of their touches: each sweeps, makes objects, or both.
func TestMany(t *testing.T) {
	pick := some(6)
	for range 120 {
		h := lays(t, pick)
		deeds := make([][]deed, h.p.threads+pick(2))
		for owner := range deeds {
			for range 1 + pick(4) {
				d := deed{kind: pick(2), owner: owner, walks: true, size: pick(10 + pick(2)*pick(86))}
				if owner == h.p.threads {
					d = deed{kind: gives}
				}
				deeds[owner] = append(deeds[owner], d)
			}
		}
		manyTouch(t, h, deeds, pick)
	}
	// As many as there may be, each with a block of its own.
	p := lay(t, 64, 0, 59)
	var l []kind
	deeds := make([][]deed, 64)
	for owner := range deeds {
		if owner < 59 {
			l = append(l, []kind{
				p.small(owner%4, owner, head(2, owner, 0, 1), listed(owner)), p.run(1, owner, head(2, owner, 0, 30)),
				p.small(owner%4, owner, free(owner), head(2, owner, 1, 1)+markBit, head(2, owner, 0, 0)), p.kind(1, emptied(owner)),
			}[owner/4%4])
		}
		deeds[owner] = []deed{{kind: sweeps, owner: owner, walks: owner%3 == 0}, {kind: makes, owner: owner, size: 2 * (owner % 8)}}
	}
	manyTouch(t, laid(p, l...), deeds, pick)
}

// manyTouch has agents do their deeds, in any order of their touches.
func manyTouch(t *testing.T, h *heap, deeds [][]deed, pick func(below int) int) {
	t.Helper()
	s := begin(t, h, deeds)
	n := 0
	for l := s.ready(); len(l) > 0; l = s.ready() {
		if s.step(t, l[pick(len(l))]); n%7 == 0 {
			s.sound(t)
		}
		n++
	}
	s.over(t)
}
