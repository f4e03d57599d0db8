package trace

import (
	"slices"
	"testing"

	"demesne/agent"
	"demesne/api"
	"demesne/shade"
)

// deed is what one of several does: one of the calls; or, as others may, it shades an object, or writes a word.
type deed struct {
	kind, at int
	v        uint64
}

// The kinds of deeds, behind the calls.
const (
	shades = passing + 1 + iota
	writes
)

// several are agents over one memory, with deeds that each one does one behind the other, in a cycle of a colour; and others that do by the model what they do, over another one.
type several struct {
	given
	deeds         [][]deed
	m, want       *tape
	met, wantMet  [][]bool // by agents, of each call that is over, whether there was a grey object
	agents, model []*agent.Agent
}

// begin makes agents, which the test stops in its end.
func begin(t *testing.T, g given, deeds [][]deed) *several {
	t.Helper()
	s := &several{given: g, deeds: deeds, m: newTape(g.words), want: newTape(g.words)}
	s.met, s.wantMet = make([][]bool, len(deeds)), make([][]bool, len(deeds))
	for i, l := range deeds {
		s.agents = append(s.agents, s.does(t, s.m, l, func(m api.Mem, d deed) {
			if d.kind == shades {
				shade.Shade(m, d.at, g.colour)
			} else {
				s.met[i] = append(s.met[i], call(d.kind, m, g.p, g.colour, s.m.tell))
			}
		}))
		s.model = append(s.model, s.does(t, s.want, l, func(m api.Mem, d deed) {
			if d.kind == shades {
				model{m, g.p, g.colour}.shade(uint64(d.at))
			} else {
				s.wantMet[i] = append(s.wantMet[i], by(d.kind, m, g.p, g.colour, s.want.tell))
			}
		}))
	}
	return s
}

// does is an agent over a memory that does deeds one behind the other.
func (s *several) does(t *testing.T, m *tape, l []deed, do func(m api.Mem, d deed)) *agent.Agent {
	t.Helper()
	a, e := agent.New(m, func(m api.Mem) {
		for _, d := range l {
			if d.kind == writes {
				m.Write(d.at, d.v)
			} else {
				do(m, d)
			}
		}
	})
	if e != api.OK {
		t.Fatalf("an agent: %d", e)
	}
	t.Cleanup(a.Stop)
	return a
}

// step steps an agent, and holds what it does, what it is told, and all words, against the model.
func (s *several) step(t *testing.T, i int) {
	t.Helper()
	n := len(s.want.acts)
	if e := s.agents[i].Step(); e != api.OK {
		t.Fatalf("a step of %d of %v: %d", i, s.deeds, e)
	}
	if e := s.model[i].Step(); e != api.OK {
		t.Fatalf("a step of %d of %v, by the model: %d", i, s.deeds, e)
	}
	if !slices.Equal(s.m.acts[min(n, len(s.m.acts)):], s.want.acts[n:]) || !slices.Equal(s.m.words, s.want.words) {
		t.Fatalf("%d of %v: %s; want %s", i, s.deeds, texts(s.m.acts), texts(s.want.acts))
	}
	is, want := s.agents[i].Done(), s.model[i].Done()
	if is != want || !slices.Equal(s.met[i], s.wantMet[i]) {
		t.Fatalf("%d of %v, behind %s, is at its end: %v, met %v; want %v, %v", i, s.deeds, texts(s.m.acts), is, s.met[i], want, s.wantMet[i])
	}
}

// ready are the agents that are not at their ends.
func (s *several) ready() []int {
	var l []int
	for i, a := range s.agents {
		if !a.Done() {
			l = append(l, i)
		}
	}
	return l
}

// dark holds, where no one writes, that nothing black that was not black ahead leads to a white object.
func (s *several) dark(t *testing.T, l []int) {
	t.Helper()
	for _, at := range l {
		if tells(s.m.words[at], s.colour) != black || tells(s.words[at], s.colour) == black {
			continue
		}
		for i := 1; i <= refsOf(s.words[at]); i++ {
			if to := int(s.words[at+i]); to != 0 && tells(s.m.words[to], s.colour) == white {
				t.Fatalf("%v, behind %s: the black one at %d leads to the white one at %d", s.deeds, texts(s.m.acts), at, to)
			}
		}
	}
}

// orders runs agents in all orders in which their touches may come, and answers how many there were. What follows is held where no one writes.
func orders(t *testing.T, g given, deeds [][]deed) int {
	t.Helper()
	wrote := slices.ContainsFunc(slices.Concat(deeds...), func(d deed) bool { return d.kind == writes })
	l := g.objects()
	var picks, of []int // which one of how many that were ready was picked, step by step
	for n := 1; ; n++ {
		s := begin(t, g, deeds)
		for i := 0; ; i++ {
			ready := s.ready()
			if len(ready) == 0 {
				break
			}
			if i == len(picks) {
				picks, of = append(picks, 0), append(of, 0)
			}
			of[i] = len(ready)
			if s.step(t, ready[picks[i]]); !wrote {
				s.dark(t, l)
			}
		}
		for len(picks) > 0 && picks[len(picks)-1] == of[len(of)-1]-1 {
			picks, of = picks[:len(picks)-1], of[:len(of)-1]
		}
		if len(picks) == 0 {
			return n
		}
		picks[len(picks)-1]++
	}
}

// three is an arena of one block, of the class 3, with three objects: the first one grey, the others white; each leads to the next one, and the last one to the first one. And where they are.
func three(t *testing.T) (given, []int) {
	t.Helper()
	g := given{lay(t, 1, 1, 1), 1, make([]uint64, 38)}
	l := []int{6, 15, 24}
	g.words[g.p.root(0)], g.words[g.p.entry(0)] = 24, small(3, 0)
	for i, at := range l {
		g.words[at], g.words[at+1] = global(white, 1, 1, 1), uint64(l[(i+1)%3])
	}
	g.words[6] = global(grey, 1, 1, 1)
	return g, l
}

// P21.1 to P21.4: who passes, walks, or shades roots, and others who shade, in all orders of their touches: what is met is what is there then.
func TestOrders(t *testing.T) {
	pass, root, walk := deed{kind: passing}, deed{kind: rooting}, deed{kind: walks}
	by := func(at int) deed { return deed{kind: shades, at: at} }
	g, l := three(t)
	for _, x := range []struct {
		deeds [][]deed
		n     int
	}{
		{[][]deed{{pass}}, 1},
		{[][]deed{{root}, {by(l[2])}}, 10},
		{[][]deed{{pass}, {by(l[0])}}, 16},
		{[][]deed{{pass}, {by(l[1])}}, 81},
		{[][]deed{{pass}, {by(l[2])}}, 121},
		{[][]deed{{walk}, {by(l[2]), by(l[1])}}, 70},
		{[][]deed{{root, pass}, {by(l[1])}}, 126},
		{[][]deed{{root}, {walk}}, 35},
		{[][]deed{{pass}, {root}}, 631},
		{[][]deed{{root}, {by(l[2])}, {walk}}, 1036},
		{[][]deed{{pass}, {by(l[2]), by(l[1])}}, 1121},
	} {
		if n := orders(t, g, x.deeds); n != x.n {
			t.Errorf("%d orders of %v; want %d", n, x.deeds, x.n)
		}
	}
}

// P21.1 to P21.3: where others write in between, what is met is what is there then: entries, headers, references, roots.
func TestOthersWrite(t *testing.T) {
	g, l := three(t)
	for which := walks; which <= passing; which++ {
		for _, at := range []int{g.p.root(0), g.p.entry(0), l[0], l[0] + 1, l[1], l[1] + 1, l[2], l[2] + 1} {
			for _, v := range []uint64{
				0, 32, 33, uint64(l[0]), uint64(l[1]), uint64(l[2]), global(white, 1, 1, 1), global(grey, 1, 0, 1), global(grey, 1, 1, 1), global(black, 1, 1, 1),
				head(2, 0, 1, 1), 1 << 60, small(3, 0), small(2, 0), large(1, 0), 4, 5 + 32,
			} {
				orders(t, g, [][]deed{{{kind: which}}, {{kind: writes, at: at, v: v}}})
			}
		}
	}
}

// P21.1, P21.3: a block that is carved, and gets an object, while the arena is walked: whoever reads its entry ahead of that meets no header there (4 orders), else all three are met (15).
func TestCarved(t *testing.T) {
	g, l := three(t)
	for i, at := range l {
		g.words[at], g.words[at+1] = 0, uint64(l[(i+1)%3])
	}
	g.words[g.p.entry(0)] = 0
	to := func(at int, v uint64) deed { return deed{writes, at, v} }
	carves := []deed{to(l[0], 1), to(l[1], 1), to(l[2], 1), to(g.p.entry(0), small(3, 0)), to(l[1], head(2, 0, 1, 1)), to(l[1], global(grey, 1, 1, 1))}
	for which := walks; which <= passing; which += passing - walks {
		if n := orders(t, g, [][]deed{{{kind: which}}, carves}); n != 19 {
			t.Errorf("the call %d: %d orders; want 19", which, n)
		}
	}
}

// P21.1 to P21.3: who is stopped, behind whatever touch, touches nothing more, and tells no one.
func TestStopped(t *testing.T) {
	pick := some(4)
	for i := range 60 {
		h := lays(t, pick)
		which := walks + i%3
		whole, _ := h.play(t, which)
		for n := 0; n <= len(whole.acts); n += 1 + pick(7) {
			s := begin(t, h.given, [][]deed{{{kind: which}}})
			for range n {
				if !s.agents[0].Done() {
					s.step(t, 0)
				}
			}
			over := s.agents[0].Done()
			s.agents[0].Stop()
			if is := s.m.acts; !slices.Equal(is, whole.acts[:len(is)]) || !slices.Equal(is, s.want.acts) || !slices.Equal(s.m.words, s.want.words) || over != (len(s.met[0]) == 1) {
				t.Fatalf("stopped behind %d touches: %s; want %s", n, texts(is), texts(s.want.acts))
			}
		}
	}
}

// P21.1 to P21.4: many agents, in any order of their touches: collectors that go through passes, and others who shade; and once also such as write.
func TestMany(t *testing.T) {
	pick := some(5)
	for n := 1; n <= 64; n *= 2 {
		for i := range 6 {
			h := lays(t, pick)
			l, places := h.objects(), append(h.all, h.p.start(0))
			deeds := make([][]deed, n)
			for k := range deeds {
				for range 1 + pick(4) {
					d := deed{kind: pick(4)}
					if d.kind == shades {
						d.at = places[pick(len(places))]
					}
					if i == 0 && pick(2) == 0 {
						d = deed{writes, pick(h.p.words()), h.words[pick(h.p.words())]}
					}
					deeds[k] = append(deeds[k], d)
				}
			}
			s := begin(t, h.given, deeds)
			for ready := s.ready(); len(ready) > 0; ready = s.ready() {
				if s.step(t, ready[pick(len(ready))]); i > 0 && pick(20) == 0 {
					s.dark(t, l)
				}
			}
			if i > 0 {
				s.dark(t, l)
			}
		}
	}
}
