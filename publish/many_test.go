package publish

import (
	"slices"
	"testing"

	"demesne/agent"
	"demesne/api"
)

// act is what one of several does: it publishes from a place in a colour; or it touches one word there, as others may: it writes, or dyes.
type act struct {
	kind, at int
	colour   uint8
	v        uint64
}

// The kinds of acts.
const (
	publishes = iota
	writes    // a word
	dyes      // a Global object, as a collector does: it is of the colour, and grey if v is not 0
)

// dyed is what a word is behind an act that dyes.
func dyed(w uint64, x act) uint64 {
	if kindOf(w) != 3 {
		return w
	}
	return w&^(colourBit|greyBit) | colourBit*uint64(x.colour) | greyBit*x.v
}

// several are agents over one memory, each with a worklist, and with acts that it does one behind the other; and what they should be by the model.
type several struct {
	m      *tape
	first  plain
	agents []*agent.Agent
	acts   [][]act
	work   [][]int
	words  plain // as the model has them
	model  []actor
}

// actor is an agent of the model: how many of its acts are over, and how it goes on with one that publishes.
type actor struct {
	over int
	m    *model
}

// begin makes agents, which the test stops in its end.
func begin(t *testing.T, words plain, acts [][]act) *several {
	t.Helper()
	s := &several{m: newTape(nil, words...), first: words, acts: acts, words: slices.Clone(words)}
	s.work, s.model = make([][]int, len(acts)), make([]actor, len(acts))
	for i, l := range acts {
		a, e := agent.New(s.m, func(m api.Mem) {
			for _, x := range l {
				s.do(m, i, x)
			}
		})
		if e != api.OK {
			t.Fatalf("an agent: %d", e)
		}
		t.Cleanup(a.Stop)
		s.agents = append(s.agents, a)
	}
	return s
}

// do does an act of an agent on a memory.
func (s *several) do(m api.Mem, i int, x act) {
	switch x.kind {
	case publishes:
		Publish(m, x.at, x.colour, &s.work[i])
	case writes:
		m.Write(x.at, x.v)
	case dyes:
		m.Update(x.at, func(w uint64) uint64 { return dyed(w, x) })
	}
}

// expect does the next touch of an agent in the model.
func (s *several) expect(i int) mark {
	p := &s.model[i]
	x := s.acts[i][p.over]
	k := mark{at: x.at, kind: write, was: s.words.Read(x.at), is: x.v}
	if x.kind == publishes {
		if p.m == nil {
			p.m = newModel(x.at, x.colour)
		}
		k = p.m.next(s.words)
		k.work = ""
		if !p.m.done() {
			return k
		}
	} else {
		if x.kind == dyes {
			k.kind, k.is = update, dyed(k.was, x)
		}
		s.words.Write(x.at, k.is)
	}
	p.over, p.m = p.over+1, nil
	return k
}

// step steps an agent, and holds the touch, the words and the worklists against the model.
func (s *several) step(t *testing.T, i int) {
	t.Helper()
	want, before := s.expect(i), len(s.m.marks)
	if e := s.agents[i].Step(); e != api.OK {
		t.Fatalf("a step of %d: %d", i, e)
	}
	if marks := s.m.marks[before:]; !slices.Equal(marks, []mark{want}) {
		t.Fatalf("the agent %d of %v touched %v; want %v", i, s.acts, marks, want)
	}
	if !slices.Equal(s.m.words, s.words) {
		t.Fatalf("%v: the words %v; want %v", s.acts, s.m.words, s.words)
	}
	for k, p := range s.model {
		var work []int
		if p.m != nil {
			work = p.m.work
		}
		if !slices.Equal(s.work[k], work) {
			t.Fatalf("the agent %d of %v has the worklist %v; want %v", k, s.acts, s.work[k], work)
		}
		if over := p.over == len(s.acts[k]); s.agents[k].Done() != over {
			t.Fatalf("the agent %d of %v is at its end: %v; want %v", k, s.acts, !over, over)
		}
	}
}

// waits holds that behind each touch whatever should wait does.
func (s *several) waits(t *testing.T) {
	t.Helper()
	if x := waits(s.first, s.m.words, slices.Concat(s.work...)); x >= 0 {
		t.Fatalf("%v: behind %v the object at %d waits nowhere, with %v", s.acts, s.m.marks, x, s.work)
	}
}

// end holds that all that hangs on what was published is Global then, and nothing else has changed; if there are such that dye, but for colour and grey.
func (s *several) end(t *testing.T) {
	t.Helper()
	rest := ^uint64(colourBit | greyBit)
	want := slices.Clone(s.first)
	for _, l := range s.acts {
		for _, x := range l {
			for at := range hangs(s.first, x.at) {
				if x.kind == publishes {
					want[at] = published(want[at], x.colour)
				}
			}
		}
	}
	for at, w := range s.m.words {
		is := w == want[at]
		if kindOf(w) == 3 {
			is = w&rest == want[at]&rest
		}
		if !is || len(slices.Concat(s.work...)) != 0 {
			t.Fatalf("%v: the words %v, worklists %v; want %v, but for colours", s.acts, s.m.words, s.work, want)
		}
	}
}

// ready are the agents that are not at their ends.
func (s *several) ready() []int {
	var l []int
	for i, a := range s.agents {
		if !a.Done() {
			l = append(l, i)
		}
	}
	return l
}

// orders runs agents in all orders in which their touches may come, and answers how many there were. What follows is held where no one writes.
func orders(t *testing.T, words plain, acts [][]act) int {
	t.Helper()
	wrote := slices.ContainsFunc(slices.Concat(acts...), func(x act) bool { return x.kind == writes })
	var picks, of []int // which one of how many that were ready was picked, step by step
	for n := 1; ; n++ {
		s := begin(t, words, acts)
		for i := 0; ; i++ {
			l := s.ready()
			if len(l) == 0 {
				break
			}
			if i == len(picks) {
				picks, of = append(picks, 0), append(of, 0)
			}
			of[i] = len(l)
			s.step(t, l[picks[i]])
			if !wrote {
				s.waits(t)
			}
		}
		if !wrote {
			s.end(t)
		}
		for len(picks) > 0 && picks[len(picks)-1] == of[len(of)-1]-1 {
			picks, of = picks[:len(picks)-1], of[:len(of)-1]
		}
		if len(picks) == 0 {
			return n
		}
		picks[len(picks)-1]++
	}
}

// P16.1, P16.2: two and three who publish at once, in all orders of their touches: what is each one's own, what they have in common that is shared, and also what is Local and led to by both.
func TestOrders(t *testing.T) {
	p := func(at int, colour uint8) act { return act{kind: publishes, at: at, colour: colour} }
	mine, yours := head(2, 1, 1)+32, head(2, 1, 1)+64
	for _, x := range []struct {
		words plain
		acts  [][]act
		n     int // how many orders there are, where no one's touches hang on another one's; else 0
	}{
		{plain{0, mine, 3, mine, 0, yours, 7, yours, 0}, [][]act{{p(1, 0)}, {p(5, 1)}}, 924},
		{plain{0, mine, 5, yours, 5, head(3, 1, 1), 1}, [][]act{{p(1, 0)}, {p(3, 1)}}, 70},
		{plain{0, mine, 5, mine, 1, yours, 3}, [][]act{{p(1, 0)}, {p(5, 1)}}, 0},
		{plain{0, mine, 3, mine, 1}, [][]act{{p(1, 1)}, {p(1, 0)}}, 0},
		{plain{0, mine, 5, yours, 5, head(2, 2, 2), 1, 3}, [][]act{{p(1, 0)}, {p(3, 1)}}, 0},
		{plain{0, mine, 3, head(2, 0, 0)}, [][]act{{p(1, 1)}, {p(3, 0), p(1, 0)}}, 0},
		{plain{0, mine, 3, head(2, 0, 0), yours, 3}, [][]act{{p(1, 1)}, {p(3, 0)}, {p(4, 1)}}, 0},
		{plain{0, head(2, 0, 0), head(2, 0, 0), head(2, 0, 0)}, [][]act{{p(1, 1)}, {p(2, 0)}, {p(3, 1)}}, 90},
	} {
		if n := orders(t, x.words, x.acts); n < 10 || x.n != 0 && n != x.n {
			t.Errorf("%d orders of %v; want %d", n, x.acts, x.n)
		}
	}
}

// P16.1, P16.2: while the collector blackens and shades what is Global, in all orders of their touches.
func TestOthersDye(t *testing.T) {
	p := act{kind: publishes, at: 1, colour: 1}
	d := func(at int, colour uint8, grey uint64) act { return act{kind: dyes, at: at, colour: colour, v: grey} }
	for _, words := range []plain{
		{0, head(2, 2, 2), 4, 5, head(2, 0, 1), head(3, 0, 0)},
		{0, head(2, 1, 1), 3, 18 + head(0, 1, 1), 1},
	} {
		for _, at := range []int{1, 3, 4, 5} {
			// Seven touches, whatever the colours are, and three.
			if n := orders(t, words, [][]act{{p}, {d(1, 1, 1), d(at, 0, 0), d(at, 0, 1)}}); n != 120 {
				t.Errorf("%d orders; want 120", n)
			}
		}
	}
}

// P16.1: where others write what is published in between, each touch goes by what is there then.
func TestOthersWrite(t *testing.T) {
	words := plain{0, head(2, 2, 3), 5, 6, 7, head(2, 0, 0), head(2, 1, 1), 5}
	for at := range words {
		for _, v := range []uint64{0, 1, 2, 5, 6, 7, 18, head(2, 1, 1), head(2, 2, 2), head(3, 1, 2), 1 << 60} {
			orders(t, words, [][]act{{{kind: publishes, at: 1}}, {{kind: writes, at: at, v: v}, {kind: writes, at: len(words) - 1 - at, v: 2}}})
		}
	}
}

// P16.1, P16.2: who is stopped, behind whatever touch, leaves on the worklist what is still to be looked into; whoever takes it up publishes all that is left.
func TestStopped(t *testing.T) {
	pick := some(4)
	for range 60 {
		words := make(plain, 10+pick(30))
		starts := heap(pick, words, false)
		at, colour := starts[0], uint8(pick(2))
		touches := len(newModel(at, colour).all(slices.Clone(words)))
		for n := range touches + 1 {
			s := begin(t, words, [][]act{{{kind: publishes, at: at, colour: colour}}})
			for range n {
				s.step(t, 0)
				s.waits(t)
			}
			s.agents[0].Stop()
			if len(s.m.marks) != n || !slices.Equal(s.m.words, s.words) {
				t.Fatalf("stopped behind %d touches: %v, %v", n, s.m.marks, s.m.words)
			}
			s.waits(t)
			Publish(s.m, at, colour, &s.work[0])
			s.end(t)
		}
	}
}

// P16.1, P16.2: many, in any order, each of which publishes what it will, while others dye.
func TestMany(t *testing.T) {
	pick := some(5)
	for n := 1; n <= 64; n *= 2 {
		for range 6 {
			words := make(plain, 60+pick(300))
			starts := heap(pick, words, false)
			acts := make([][]act, n)
			for i := range acts {
				for range 1 + pick(6) {
					x := act{kind: publishes, at: starts[pick(len(starts))], colour: uint8(pick(2))}
					if pick(3) == 0 {
						x.kind, x.v = dyes, uint64(pick(2))
					}
					acts[i] = append(acts[i], x)
				}
			}
			s := begin(t, words, acts)
			for l := s.ready(); len(l) > 0; l = s.ready() {
				s.step(t, l[pick(len(l))])
				s.waits(t)
			}
			s.end(t)
		}
	}
}
