package shade

import (
	"slices"
	"testing"

	"demesne/agent"
	"demesne/api"
)

// act is what one of several does: it shades an object, blackens it, or writes a word there.
type act struct {
	kind, at int
	v        uint64
}

// The kinds of acts.
const (
	shades = iota
	blackens
	writes
)

// several are agents over one memory, each with acts that it does one behind the other, in the cycle of a colour.
type several struct {
	m      *tape
	colour uint8
	agents []*agent.Agent
	acts   [][]act
	told   [][]bool // by agents, of each act of theirs that is over
	model  []actor
	words  []uint64 // as the model has them
}

// actor is an agent of the model: what it has been told, and whether its act has read what is white and is still to update that.
type actor struct {
	told   []bool
	second bool
}

// begin makes agents, which the test stops in its end.
func begin(t *testing.T, colour uint8, words []uint64, acts [][]act) *several {
	t.Helper()
	s := &several{m: newTape(words...), colour: colour, acts: acts, words: slices.Clone(words)}
	s.told, s.model = make([][]bool, len(acts)), make([]actor, len(acts))
	for i, l := range acts {
		a, e := agent.New(s.m, func(m api.Mem) {
			for _, x := range l {
				s.told[i] = append(s.told[i], s.do(m, x))
			}
		})
		if e != api.OK {
			t.Fatalf("an agent: %d", e)
		}
		t.Cleanup(a.Stop)
		s.agents = append(s.agents, a)
	}
	return s
}

// do does an act on a memory.
func (s *several) do(m api.Mem, x act) bool {
	switch x.kind {
	case shades:
		return Shade(m, x.at, s.colour)
	case blackens:
		Blacken(m, x.at)
	case writes:
		m.Write(x.at, x.v)
	}
	return false
}

// ready are the agents that are not at their ends.
func (s *several) ready() []int {
	var l []int
	for i, a := range s.agents {
		if !a.Done() {
			l = append(l, i)
		}
	}
	return l
}

// expect does the next touch of an agent in the model: what it is, as the chapter says.
func (s *several) expect(i int) mark {
	p := &s.model[i]
	x := s.acts[i][len(p.told)]
	w := &s.words[x.at]
	k := mark{kind: update, at: x.at, was: *w}
	met := tells(*w, s.colour)
	switch {
	case x.kind == blackens:
		*w = blackened(*w)
		p.told = append(p.told, false)
	case x.kind == writes:
		k.kind, *w = write, x.v
		p.told = append(p.told, false)
	case !p.second && met == White:
		k.kind, p.second = read, true
	case !p.second:
		k.kind = read
		p.told = append(p.told, met == Grey)
	default:
		*w = shaded(*w, s.colour)
		p.told, p.second = append(p.told, met == White || met == Grey), false
	}
	k.is = *w
	return k
}

// step steps an agent, and holds the touch, the words, and what all were told against the model.
func (s *several) step(t *testing.T, i int) {
	t.Helper()
	want, before := s.expect(i), len(s.m.marks)
	if e := s.agents[i].Step(); e != api.OK {
		t.Fatalf("a step of %d: %d", i, e)
	}
	if marks := s.m.marks[before:]; !slices.Equal(marks, []mark{want}) {
		t.Fatalf("the agent %d of %v touched %v; want %v", i, s.acts, marks, want)
	}
	if !slices.Equal(s.m.words, s.words) {
		t.Fatalf("words %v; want %v", s.m.words, s.words)
	}
	for k, p := range s.model {
		if !slices.Equal(s.told[k], p.told) {
			t.Fatalf("the agent %d of %v was told %v; want %v", k, s.acts, s.told[k], p.told)
		}
	}
}

// end holds what was done against what follows of it, where no one writes: each white object that is shaded is shaded once, and is never white again; and only colour and grey of Global objects change.
func (s *several) end(t *testing.T, first []uint64) {
	t.Helper()
	times, whites := make([]int, len(first)), make([]int, len(first))
	for _, k := range s.m.marks {
		was, is := Tell(k.was, s.colour), Tell(k.is, s.colour)
		switch {
		case was == White && is != White:
			times[k.at]++
			if is != Grey || k.kind != update {
				t.Fatalf("%v: a white object became %d", k, is)
			}
		case was != White && is == White:
			t.Fatalf("%v: white again", k)
		case is == Grey && was != Grey, was == None && k.was != k.is, (k.was^k.is)&^(colourBit|greyBit) != 0:
			t.Fatalf("%v: that may not be", k)
		}
	}
	for _, l := range s.acts {
		for _, x := range l {
			if x.kind == shades && tells(first[x.at], s.colour) == White {
				whites[x.at] = 1
			}
		}
	}
	if !slices.Equal(times, whites) {
		t.Fatalf("%v over %v: shaded %v times; want %v", s.acts, first, times, whites)
	}
}

// allOrders runs agents in all orders in which their touches may come, and answers how many orders there were.
func allOrders(t *testing.T, colour uint8, words []uint64, acts [][]act, wrote bool) int {
	t.Helper()
	var picks, of []int // which one of how many that were ready was picked, step by step
	for n := 1; ; n++ {
		s := begin(t, colour, words, acts)
		for i := 0; ; i++ {
			l := s.ready()
			if len(l) == 0 {
				break
			}
			if i == len(picks) {
				picks, of = append(picks, 0), append(of, 0)
			}
			of[i] = len(l)
			s.step(t, l[picks[i]])
		}
		if !wrote {
			s.end(t, words)
		}
		for len(picks) > 0 && picks[len(picks)-1] == of[len(of)-1]-1 {
			picks, of = picks[:len(picks)-1], of[:len(of)-1]
		}
		if len(picks) == 0 {
			return n
		}
		picks[len(picks)-1]++
	}
}

// firsts are words to begin with: a Global object's of either colour, grey or not, a Local one's, a Free one's, and no header's.
func firsts() []uint64 {
	form := uint64(6*32 + 1<<11 + 2<<18)
	return []uint64{3 + form, 7 + form, 11 + form, 15 + form, 2 + form, 32, 19 + form}
}

// P13.2 to P13.4: several who shade and blacken one object, in all orders of their touches.
func TestOneObject(t *testing.T) {
	s, b := act{kind: shades}, act{kind: blackens}
	for _, acts := range [][][]act{
		{{s}, {s}},
		{{s}, {b}},
		{{s, s}, {s, s}},
		{{s, b}, {s, b}},
		{{s, b, s}, {s, s}},
		{{s}, {s}, {s}},
		{{s}, {s}, {b, b}},
		{{s, b}, {s}, {b}},
		{{s}, {s}, {s}, {b}},
	} {
		for _, w := range firsts() {
			for colour := range uint8(2) {
				allOrders(t, colour, []uint64{w}, acts, false)
			}
		}
	}
}

// P13.4: two who shade a white object have six orders: whoever is first shades it, and both are told so, unless it is blackened in between.
func TestTwoShade(t *testing.T) {
	acts := [][]act{{{kind: shades}}, {{kind: shades}}}
	// Two orders in which one is done ahead of the other, who then meets grey by its one Read; four in which both read ahead.
	if n := allOrders(t, 1, []uint64{3}, acts, false); n != 6 {
		t.Errorf("%d orders; want 6", n)
	}
	for _, x := range []struct {
		order []int
		told  [3]bool
		is    uint64
	}{
		{[]int{0, 0, 1, 2}, [3]bool{true, true, false}, 7},
		{[]int{0, 0, 2, 1}, [3]bool{true, false, false}, 7},
		{[]int{0, 1, 0, 1, 2}, [3]bool{true, true, false}, 7},
		{[]int{0, 1, 0, 2, 1}, [3]bool{true, false, false}, 7},
		{[]int{1, 0, 1, 2, 0}, [3]bool{false, true, false}, 7},
		{[]int{2, 0, 1, 1, 0}, [3]bool{true, true, false}, 15},
		{[]int{0, 2, 1, 0, 1}, [3]bool{true, true, false}, 15},
	} {
		s := begin(t, 1, []uint64{3}, append(slices.Clone(acts), []act{{kind: blackens}}))
		for _, i := range x.order {
			s.step(t, i)
		}
		var told [3]bool
		for i := range told {
			told[i] = s.told[i][0]
		}
		if told != x.told || s.m.words[0] != x.is || len(s.ready()) != 0 {
			t.Errorf("in the order %v: told %v, the word %d; want %v, %d", x.order, told, s.m.words[0], x.told, x.is)
		}
	}
}

// P13.2 to P13.4: several who shade and blacken several objects, in all orders of their touches.
func TestSeveralObjects(t *testing.T) {
	s := func(at int) act { return act{kind: shades, at: at} }
	b := func(at int) act { return act{kind: blackens, at: at} }
	for _, acts := range [][][]act{
		{{s(0), s(1)}, {s(1), s(0)}},
		{{s(0), s(1), b(0)}, {s(1), b(1)}},
		{{s(0), s(1)}, {s(0)}, {b(1), s(1)}},
		{{s(0), s(2)}, {s(2), b(0), b(2)}},
	} {
		for i, w := range firsts() {
			for colour := range uint8(2) {
				next := firsts()[(i+1)%len(firsts())]
				allOrders(t, colour, []uint64{w, next, 3, 15}, acts, false)
			}
		}
	}
}

// P13.2, P13.3: also where one writes another header there in between: made Local, freed, made anew, of the other cycle.
func TestOthersWrite(t *testing.T) {
	for _, v := range firsts() {
		for _, w := range firsts() {
			for colour := range uint8(2) {
				acts := [][]act{{{kind: shades}, {kind: blackens}}, {{kind: shades}}, {{kind: writes, v: v}}}
				allOrders(t, colour, []uint64{w}, acts, true)
			}
		}
	}
}

// P13.4: many who shade and blacken many objects, in any order.
func TestMany(t *testing.T) {
	next := uint64(13)
	some := func(below int) int {
		next = next*6364136223846793005 + 1442695040888963407
		return int(next >> 33 % uint64(below))
	}
	all := slices.Concat(globals(), globals(), strangers())
	for n := 1; n <= 64; n *= 2 {
		for colour := range uint8(2) {
			words := make([]uint64, 1+some(20))
			for i := range words {
				words[i] = all[some(len(all))]
			}
			acts := make([][]act, n)
			for i := range acts {
				for range 1 + some(30) {
					acts[i] = append(acts[i], act{kind: some(4) / 3, at: some(len(words))})
				}
			}
			s := begin(t, colour, words, acts)
			for l := s.ready(); len(l) > 0; l = s.ready() {
				s.step(t, l[some(len(l))])
			}
			s.end(t, words)
		}
	}
}
