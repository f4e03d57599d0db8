package give

import (
	"slices"
	"testing"

	"demesne/agent"
	"demesne/api"
	"demesne/table"
)

// The kinds of acts.
const (
	claims = iota // a run
	sets          // the entries of the run that was claimed last: Head and Tails
	backs         // gives back the run that was claimed first, of those that it holds
	leaves        // makes that one Emptied, or Spent, so that it waits
	tidies        // gives back what waits of its owners
)

// act is what one of several does.
type act struct {
	kind, run int
	owners    uint64 // of whom Waiting is told that it may give back
}

// span is a run of blocks.
type span struct{ block, run int }

// several are agents over one memory, each with acts that it does one behind the other. The agent's number is its owner's.
type several struct {
	t      *testing.T
	p      plan
	m      *tape
	agents []*agent.Agent
	acts   [][]act
	told   [][]span // by agents, of each claim that is over: its run, or one of no blocks
	model  []actor
	words  []uint64 // as the model has them
}

// actor is an agent of the model.
type actor struct {
	done   int    // so many of its acts are over
	todo   []mark // the touches that are left of the act, but for what the words were
	next   int    // the block at which Waiting is
	held   []span
	giving []span // claimed, but being given back
	told   []span
}

// begin makes agents over an arena that is begun, which the test stops in its end.
func begin(t *testing.T, p plan, acts [][]act) *several {
	t.Helper()
	s := &several{t: t, p: p, m: newTape(make([]uint64, p.words())...), acts: acts}
	Begin(s.m, p.l)
	s.words, s.told, s.model = slices.Clone(s.m.words), make([][]span, len(acts)), make([]actor, len(acts))
	for i, l := range acts {
		a, e := agent.New(s.m, func(m api.Mem) {
			var held []span
			for _, x := range l {
				held = s.do(m, i, x, held)
			}
		})
		if e != api.OK {
			t.Fatalf("an agent: %d", e)
		}
		t.Cleanup(a.Stop)
		s.agents = append(s.agents, a)
	}
	return s
}

// do does an act of an agent that holds some runs, and answers which ones it holds then.
func (s *several) do(m api.Mem, i int, x act, held []span) []span {
	switch {
	case x.kind == claims:
		at, ok := Claim(m, s.p.l, x.run)
		if !ok {
			s.told[i] = append(s.told[i], span{at, 0})
			return held
		}
		s.told[i] = append(s.told[i], span{at, x.run})
		return append(held, span{at, x.run})
	case x.kind == tidies:
		Waiting(m, s.p.l, func(owner uint8) bool { return x.owners>>owner&1 == 1 })
		return held
	case len(held) == 0:
		return held
	case x.kind == sets:
		last := held[len(held)-1]
		Set(m, s.p.l, last.block, table.Entry{Kind: table.Head, Run: uint8(last.run), Owner: uint8(i)})
		for b := last.block + 1; b < last.block+last.run; b++ {
			Set(m, s.p.l, b, table.Entry{Kind: table.Tail})
		}
		return held
	case x.kind == leaves && held[0].run == 1:
		Set(m, s.p.l, held[0].block, table.Entry{Kind: table.Emptied, Owner: uint8(i)})
	case x.kind == leaves:
		Set(m, s.p.l, held[0].block, table.Entry{Kind: table.Spent, Run: uint8(held[0].run), Owner: uint8(i)})
	case x.kind == backs:
		Back(m, s.p.l, held[0].block, held[0].run)
	}
	return held[1:]
}

// settle goes on with an agent of the model to the first act that touches something, and says what the touches of that will be.
func (s *several) settle(i int) {
	p := &s.model[i]
	for len(p.todo) == 0 && p.done < len(s.acts[i]) {
		x := s.acts[i][p.done]
		switch {
		case x.kind == claims:
			p.todo = []mark{{kind: update}}
		case x.kind == tidies:
			p.next = 0
			p.todo = []mark{{kind: read, at: s.p.entry(0)}}
		case len(p.held) == 0:
			p.done++
		case x.kind == sets:
			last := p.held[len(p.held)-1]
			p.todo = []mark{{kind: write, at: s.p.entry(last.block), is: 2 + 32*uint64(last.run) + 128*uint64(i)}}
			for b := last.block + 1; b < last.block+last.run; b++ {
				p.todo = append(p.todo, mark{kind: write, at: s.p.entry(b), is: 3})
			}
		case x.kind == leaves:
			w := 4 + 128*uint64(i)
			if p.held[0].run > 1 {
				w = 5 + 32*uint64(p.held[0].run) + 128*uint64(i)
			}
			p.todo = []mark{{kind: write, at: s.p.entry(p.held[0].block), is: w}}
		case x.kind == backs:
			p.giving = p.held[:1]
			p.held = p.held[1:]
			p.todo = s.giveBack(p.giving[0])
		}
	}
}

// giveBack are the touches that give a run back.
func (s *several) giveBack(r span) []mark {
	var l []mark
	for b := r.block + r.run - 1; b >= r.block; b-- {
		l = append(l, mark{kind: write, at: s.p.entry(b)})
	}
	return append(l, mark{kind: update})
}

// expect does the next touch of an agent in the model: what it is, as the chapter says.
func (s *several) expect(i int) mark {
	s.settle(i)
	p := &s.model[i]
	x, k := s.acts[i][p.done], p.todo[0]
	p.todo = p.todo[1:]
	w := &s.words[k.at]
	k.was = *w
	switch {
	case k.kind == write:
		*w = k.is
	case k.kind == update && x.kind == claims:
		at, ok := first(*w, x.run)
		r := span{at, 0}
		if ok {
			r.run = x.run
			*w &^= the(at, x.run)
			p.held = append(slices.Clone(p.held), r)
		}
		p.told = append(p.told, r)
	case k.kind == update:
		*w |= the(p.giving[0].block, p.giving[0].run)
		p.giving = nil
	case k.kind == read:
		e := told(*w)
		if (e.Kind == table.Emptied || e.Kind == table.Spent) && x.owners>>e.Owner&1 == 1 {
			p.giving = []span{{p.next, max(1, int(e.Run))}}
			p.todo = s.giveBack(p.giving[0])
		}
	}
	k.is = *w
	s.over(i, x)
	return k
}

// over looks whether an agent of the model is behind its act.
func (s *several) over(i int, x act) {
	p := &s.model[i]
	switch {
	case len(p.todo) > 0:
		return
	case x.kind == tidies && p.next < s.p.blocks-1:
		p.next++
		p.todo = []mark{{kind: read, at: s.p.entry(p.next)}}
		return
	case x.kind == leaves:
		p.held = p.held[1:]
	}
	p.done++
}

// step steps an agent, and holds the touch, the words, and what all were told against the model.
func (s *several) step(i int) {
	t := s.t
	t.Helper()
	want, before := s.expect(i), len(s.m.marks)
	if e := s.agents[i].Step(); e != api.OK {
		t.Fatalf("a step of %d: %d", i, e)
	}
	if marks := s.m.marks[before:]; !slices.Equal(marks, []mark{want}) {
		t.Fatalf("the agent %d of %v touched %v; want %v", i, s.acts, marks, want)
	}
	if s.m.words[want.at] != want.is {
		t.Fatalf("the word %d is %d; want %d", want.at, s.m.words[want.at], want.is)
	}
	for k, p := range s.model {
		if !slices.Equal(s.told[k], p.told) {
			t.Fatalf("the agent %d of %v was told %v; want %v", k, s.acts, s.told[k], p.told)
		}
	}
	s.share()
}

// share holds, by what the memory and the agents tell, that each block is free, or claimed by one, or being given back, or that it waits: and no block is two of these.
func (s *several) share() {
	s.t.Helper()
	var of [64]int
	for b := range s.p.blocks {
		of[b] = int(s.m.words[0] >> b & 1)
	}
	count := func(l []span) {
		for _, r := range l {
			for b := r.block; b < r.block+r.run; b++ {
				of[b]++
			}
		}
	}
	var giving uint64
	for _, p := range s.model {
		count(p.held)
		count(p.giving)
		for _, r := range p.giving {
			giving |= the(r.block, r.run)
		}
	}
	for b := range s.p.blocks {
		e := told(s.m.words[s.p.entry(b)])
		if e.Kind >= table.Emptied && giving>>b&1 == 0 {
			count([]span{{b, max(1, int(e.Run))}})
		}
	}
	for b := range s.p.blocks {
		if of[b] != 1 {
			s.t.Fatalf("%v: the block %d is one's %d times; the map %b, behind %v", s.acts, b, of[b], s.m.words[0], s.m.marks)
		}
		if s.m.words[0]>>b&1 == 1 && s.m.words[s.p.entry(b)] != 0 {
			s.t.Fatalf("%v: the entry of the free block %d is %d", s.acts, b, s.m.words[s.p.entry(b)])
		}
	}
	if s.m.words[0]&^all(s.p.blocks) != 0 {
		s.t.Fatalf("%v: the map %b of %d blocks", s.acts, s.m.words[0], s.p.blocks)
	}
}

// ready are the agents that are not at their ends.
func (s *several) ready() []int {
	var l []int
	for i, a := range s.agents {
		if !a.Done() {
			l = append(l, i)
		}
	}
	return l
}

// end holds what is left against the model: all that is not the arena's own was never touched.
func (s *several) end() {
	s.t.Helper()
	if !slices.Equal(s.m.words, s.words) {
		s.t.Fatalf("%v: the words %v; want %v", s.acts, s.m.words, s.words)
	}
	for i, p := range s.model {
		if s.settle(i); s.model[i].done != len(s.acts[i]) {
			s.t.Fatalf("the agent %d of %v ended behind %d acts", i, s.acts, p.done)
		}
	}
	for _, k := range s.m.marks {
		if k.at != 0 && (k.at < s.p.entry(0) || k.at >= s.p.entry(s.p.blocks)) {
			s.t.Fatalf("%v: touched %v", s.acts, k)
		}
	}
}

// allOrders runs agents in all orders in which their touches may come, and answers how many orders there were.
func allOrders(t *testing.T, p plan, acts [][]act) int {
	t.Helper()
	var picks, of []int // which one of how many that were ready was picked, step by step
	for n := 1; ; n++ {
		s := begin(t, p, acts)
		for i := 0; ; i++ {
			l := s.ready()
			if len(l) == 0 {
				break
			}
			if i == len(picks) {
				picks, of = append(picks, 0), append(of, 0)
			}
			of[i] = len(l)
			s.step(l[picks[i]])
		}
		s.end()
		for len(picks) > 0 && picks[len(picks)-1] == of[len(of)-1]-1 {
			picks, of = picks[:len(picks)-1], of[:len(of)-1]
		}
		if len(picks) == 0 {
			return n
		}
		picks[len(picks)-1]++
	}
}

// P14.5: two who claim and give back, in all orders of their touches.
func TestTwo(t *testing.T) {
	c, d, e := act{kind: claims, run: 1}, act{kind: claims, run: 2}, act{kind: claims, run: 3}
	b, s := act{kind: backs}, act{kind: sets}
	for _, blocks := range []int{1, 2, 3, 4} {
		p := plans(t, blocks)[0]
		for _, acts := range [][][]act{
			{{c}, {c}},
			{{c, b}, {c, b}},
			{{c, s, b}, {c, s, b}},
			{{c, c, b, b}, {d, b}},
			{{c, b, c, b}, {c, b, c}},
			{{d, s, b}, {d, s, b}},
			{{d, b, c}, {c, b, d}},
			{{e, b, d}, {c, b, c, b}},
			{{e, s, b}, {e, d, c, b}},
			{{b, c}, {b, s, d}},
		} {
			allOrders(t, p, acts)
		}
	}
	// Of one touch and one touch there are two orders; of four and four as many as there are ways to lay four among eight.
	p := plans(t, 2)[0]
	if n := allOrders(t, p, [][]act{{c}, {c}}); n != 2 {
		t.Errorf("%d orders; want 2", n)
	}
	if n := allOrders(t, p, [][]act{{c, s, b}, {c, s, b}}); n != 70 {
		t.Errorf("%d orders; want 70", n)
	}
}

// P14.5: three, in all orders of their touches.
func TestThree(t *testing.T) {
	c, d := act{kind: claims, run: 1}, act{kind: claims, run: 2}
	b := act{kind: backs}
	for _, blocks := range []int{1, 2, 3} {
		p := plans(t, blocks)[1]
		allOrders(t, p, [][]act{{c, b}, {c, b}, {c, b}})
		allOrders(t, p, [][]act{{c, b}, {d, b}, {c}})
		allOrders(t, p, [][]act{{d, b}, {d}, {c, b}})
	}
}

// P14.4, P14.5: also where one gives back what waits, while others claim and leave blocks, in all orders of their touches.
func TestOneWaits(t *testing.T) {
	c, d, e := act{kind: claims, run: 1}, act{kind: claims, run: 2}, act{kind: claims, run: 3}
	b, s, left := act{kind: backs}, act{kind: sets}, act{kind: leaves}
	w := act{kind: tidies, owners: 1<<64 - 1}
	for _, blocks := range []int{1, 2, 3} {
		p := plans(t, blocks)[0]
		for _, acts := range [][][]act{
			{{c, left}, {w}},
			{{c, s, left, c}, {w}},
			{{d, s, left}, {w}},
			{{d, s, left, c, left}, {w}},
			{{e, s, left, d}, {w}},
			{{c, left}, {c, b}, {w}},
			{{c, left}, {d, left}, {w}},
			{{c, left}, {c, left}, {act{kind: tidies, owners: 1}}},
		} {
			allOrders(t, p, acts)
		}
	}
}

// P14.5: by hand: while blocks are being given back nobody claims them; from the last touch on who comes first has them.
func TestWhileGivenBack(t *testing.T) {
	c, d := act{kind: claims, run: 1}, act{kind: claims, run: 2}
	s := begin(t, plans(t, 2)[0], [][]act{{d, {kind: sets}, {kind: backs}}, {c, c, c, c, c, d}})
	for _, x := range []int{0, 0, 0, 1, 0, 1, 0, 1, 0, 1, 1, 1} {
		s.step(x)
	}
	s.end()
	if want := []span{{0, 0}, {0, 0}, {0, 0}, {0, 1}, {1, 1}, {0, 0}}; !slices.Equal(s.told[1], want) {
		t.Errorf("told %v; want %v", s.told[1], want)
	}
}

// P14.5: many, in any order.
func TestMany(t *testing.T) {
	pick := some(14)
	for n := 1; n <= 64; n *= 2 {
		for _, blocks := range []int{1, 5, 64} {
			acts := make([][]act, n)
			for i := range acts {
				for range 1 + pick(30) {
					x := act{kind: pick(tidies), run: 1 + pick(3)}
					// One alone gives back what waits: two would do so at once.
					if i == 0 && pick(5) == 0 {
						x.kind, x.owners = tidies, uint64(pick(1<<31))<<33^uint64(pick(1<<31))
					}
					acts[i] = append(acts[i], x)
				}
			}
			s := begin(t, plans(t, blocks)[2], acts)
			for l := s.ready(); len(l) > 0; l = s.ready() {
				s.step(l[pick(len(l))])
			}
			s.end()
		}
	}
}
