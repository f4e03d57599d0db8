package mark

import (
	"slices"
	"testing"

	"demesne/agent"
	"demesne/api"
)

// deed is what one of several does: it marks for an owner; or it touches one word there, as others may: it writes, or dyes.
type deed struct {
	kind, owner, room int
	from              []int
	at                int
	v                 uint64
}

// The kinds of deeds.
const (
	marks  = iota
	writes // a word
	dyes   // a Global object, as a collector does: its colour and grey are those of v
)

// bits are those of a header that a collector writes.
const bits = colourBit | greyBit

// dyed is what a word is behind a deed that dyes.
func dyed(w, v uint64) uint64 {
	if kindOf(w) != 3 {
		return w
	}
	return w&^bits | v&bits
}

// several are agents over one memory, with deeds that each one does one behind the other; and others that do by the model what they do, over another one.
type several struct {
	p             plan
	first         []uint64
	deeds         [][]deed
	m, want       *tape
	agents, model []*agent.Agent
}

// begin makes agents, which the test stops in its end.
func begin(t *testing.T, p plan, words []uint64, deeds [][]deed) *several {
	t.Helper()
	s := &several{p: p, first: words, deeds: deeds, m: newTape(words), want: newTape(words)}
	for _, l := range deeds {
		s.agents = append(s.agents, does(t, s.m, l, func(m api.Mem, d deed) {
			k := Marker{M: m, L: p.l, Owner: uint8(d.owner), Room: d.room, Global: s.m.tell}
			k.Mark(d.from)
		}))
		s.model = append(s.model, does(t, s.want, l, func(m api.Mem, d deed) {
			o := &model{m: m, p: p, owner: d.owner, room: d.room, tell: s.want.tell}
			o.mark(d.from)
		}))
	}
	return s
}

// does is an agent over a memory that does deeds one behind the other.
func does(t *testing.T, m *tape, l []deed, mark func(m api.Mem, d deed)) *agent.Agent {
	t.Helper()
	a, e := agent.New(m, func(m api.Mem) {
		for _, d := range l {
			switch d.kind {
			case marks:
				mark(m, d)
			case writes:
				m.Write(d.at, d.v)
			case dyes:
				m.Update(d.at, func(w uint64) uint64 { return dyed(w, d.v) })
			}
		}
	})
	if e != api.OK {
		t.Fatalf("an agent: %d", e)
	}
	t.Cleanup(a.Stop)
	return a
}

// step steps an agent, and holds what it does, and all words, against the model.
func (s *several) step(t *testing.T, i int) {
	t.Helper()
	n := len(s.want.acts)
	if e := s.agents[i].Step(); e != api.OK {
		t.Fatalf("a step of %d of %v: %d", i, s.deeds, e)
	}
	if e := s.model[i].Step(); e != api.OK {
		t.Fatalf("a step of %d of %v, by the model: %d", i, s.deeds, e)
	}
	if !slices.Equal(s.m.acts[min(n, len(s.m.acts)):], s.want.acts[n:]) || !slices.Equal(s.m.words, s.want.words) {
		t.Fatalf("%d of %v: %s; want %s", i, s.deeds, texts(s.m.acts), texts(s.want.acts))
	}
	if is, want := s.agents[i].Done(), s.model[i].Done(); is != want {
		t.Fatalf("%d of %v, behind %s, is at its end: %v; want %v", i, s.deeds, texts(s.m.acts), is, want)
	}
}

// ready are the agents that are not at their ends.
func (s *several) ready() []int {
	var l []int
	for i, a := range s.agents {
		if !a.Done() {
			l = append(l, i)
		}
	}
	return l
}

// over holds that all is marked that each owner's places reach, and nothing else is changed, but for colours; where no one writes.
func (s *several) over(t *testing.T) {
	t.Helper()
	want := slices.Clone(s.first)
	for _, d := range slices.Concat(s.deeds...) {
		own, _ := given{p: s.p, owner: d.owner, words: s.first, from: d.from}.reached()
		for at := range own {
			if d.kind == marks {
				want[at] |= markBit
			}
		}
	}
	for at, w := range s.m.words {
		if w != want[at] && (kindOf(w) != 3 || w&^bits != want[at]&^bits) {
			t.Fatalf("%v: left %v; want %v", s.deeds, s.m.words, want)
		}
	}
}

// orders runs agents in all orders in which their touches may come, and answers how many there were. What follows is held where no one writes.
func orders(t *testing.T, p plan, words []uint64, deeds [][]deed) int {
	t.Helper()
	wrote := slices.ContainsFunc(slices.Concat(deeds...), func(d deed) bool { return d.kind == writes })
	var picks, of []int // which one of how many that were ready was picked, step by step
	for n := 1; ; n++ {
		s := begin(t, p, words, deeds)
		for i := 0; ; i++ {
			l := s.ready()
			if len(l) == 0 {
				break
			}
			if i == len(picks) {
				picks, of = append(picks, 0), append(of, 0)
			}
			of[i] = len(l)
			s.step(t, l[picks[i]])
		}
		if !wrote {
			s.over(t)
		}
		for len(picks) > 0 && picks[len(picks)-1] == of[len(of)-1]-1 {
			picks, of = picks[:len(picks)-1], of[:len(of)-1]
		}
		if len(picks) == 0 {
			return n
		}
		picks[len(picks)-1]++
	}
}

// P18.1, P18.2: two owners that mark at once, in all orders of their touches, also where each one's objects lead to the other's, and to shared ones.
func TestOrders(t *testing.T) {
	p := lay(t, 2, 0, 1)
	a := p.start(0)
	mine, yours, shared := head(2, 0, 1, 1), head(2, 1, 1, 1), head(3, 1, 1, 1)
	by := func(owner int, from ...int) deed { return deed{kind: marks, owner: owner, room: 1, from: from} }
	for _, x := range []struct {
		row   []uint64
		deeds [][]deed
		n     int
	}{
		{[]uint64{mine, 0, yours, 0}, [][]deed{{by(0, a)}, {by(1, a+2)}}, 70},
		{[]uint64{mine, 2, yours, 0}, [][]deed{{by(0, a)}, {by(1, a+2)}}, 126},
		{[]uint64{mine, 2, yours, 4, shared, 0}, [][]deed{{by(0, a)}, {by(1, a+2)}}, 252},
		{[]uint64{mine, 4, yours, 4, shared, 0}, [][]deed{{by(0, a, a+2)}, {by(1, a, a+2)}}, 924},
		{[]uint64{mine, 2, yours, 0, shared, 2}, [][]deed{{by(0, a)}, {by(1, a+2)}, {{kind: dyes, at: a + 4, v: bits}}}, 1260},
	} {
		words := make([]uint64, p.words())
		words[p.entry(0)] = small(0, 0)
		for i, w := range x.row {
			if words[a+i] = w; i%2 == 1 && w != 0 {
				words[a+i] = uint64(a) + w
			}
		}
		if n := orders(t, p, words, x.deeds); n != x.n {
			t.Errorf("%d orders of %v; want %d", n, x.deeds, x.n)
		}
	}
}

// P18.1: where others write in between what is marked, each touch goes by what is there then.
func TestOthersWrite(t *testing.T) {
	p := lay(t, 2, 0, 1)
	a := p.start(0)
	words := make([]uint64, p.words())
	words[p.entry(0)] = small(2, 1)
	for i, to := range map[int]int{1: 5, 2: 10, 3: 15, 11: 20} {
		words[a+i] = uint64(a + to)
	}
	words[a], words[a+5], words[a+10] = head(2, 1, 3, 3), head(2, 1, 0, 1), head(2, 1, 1, 1)
	words[a+15], words[a+20] = head(2, 0, 0, 0), head(3, 1, 0, 0)
	by := deed{kind: marks, owner: 1, room: 1, from: []int{a}}
	for _, at := range []int{p.entry(0), a, a + 1, a + 2, a + 3, a + 5, a + 6, a + 10, a + 11, a + 15, a + 20} {
		for _, v := range []uint64{0, 1, uint64(a), uint64(a + 20), head(2, 1, 1, 1), head(2, 1, 2, 2) | markBit, head(3, 1, 1, 1), 1 << 60, small(2, 1), small(1, 1), large(1, 1), small(2, 0)} {
			orders(t, p, words, [][]deed{{by}, {{kind: writes, at: at, v: v}}})
		}
	}
}

// P18.1: who is stopped, behind whatever touch, touches nothing more, and tells no one.
func TestStopped(t *testing.T) {
	pick := some(6)
	for range 40 {
		h := lays(t, pick, false)
		if len(h.all) == 0 {
			continue
		}
		d := deed{kind: marks, owner: h.owner, room: 1 + pick(3), from: h.all[len(h.all)-1:]}
		whole, _ := given{h.p, d.owner, d.room, h.words, d.from}.play(t)
		for n := 0; n <= len(whole.acts); n += 1 + pick(7) {
			s := begin(t, h.p, h.words, [][]deed{{d}})
			for range n {
				if !s.agents[0].Done() {
					s.step(t, 0)
				}
			}
			s.agents[0].Stop()
			if is := s.m.acts; !slices.Equal(is, whole.acts[:len(is)]) || !slices.Equal(is, s.want.acts) || !slices.Equal(s.m.words, s.want.words) {
				t.Fatalf("stopped behind %d touches: %s; want %s", n, texts(is), texts(s.want.acts))
			}
		}
	}
}

// P18.1, P18.2: many owners, in any order of their touches, each of which marks what it will, while others dye.
func TestMany(t *testing.T) {
	pick := some(7)
	for n := 1; n <= 64; n *= 2 {
		for range 5 {
			h := lays(t, pick, false)
			if len(h.all) == 0 {
				continue
			}
			deeds := make([][]deed, n)
			for i := range deeds {
				for range 1 + pick(4) {
					d := deed{kind: marks, owner: pick(h.p.threads), room: 1 + pick(4), from: h.places()}
					if pick(2) == 0 {
						d = deed{kind: dyes, at: h.all[pick(len(h.all))], v: uint64(pick(16))}
					}
					deeds[i] = append(deeds[i], d)
				}
			}
			s := begin(t, h.p, h.words, deeds)
			for l := s.ready(); len(l) > 0; l = s.ready() {
				s.step(t, l[pick(len(l))])
			}
			s.over(t)
		}
	}
}
