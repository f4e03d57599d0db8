package agent

import (
	"math"
	"runtime"
	"slices"
	"testing"

	"demesne/api"
	"demesne/arena"
)

// What a program is handed is a memory.
var _ api.Mem = (*memory)(nil)

// The kinds of touches.
const (
	read = iota
	write
	update
)

// kinds are all of them.
func kinds() []int { return []int{read, write, update} }

// mark is a touch that was done: of what kind, where, what the word was, and what it is.
type mark struct {
	kind, at int
	was, is  uint64
}

// tape is a memory that keeps what was done to it. It does not ask more than once, and lets a panic of who is asked through.
type tape struct {
	words []uint64
	marks []mark
}

func newTape(words ...uint64) *tape { return &tape{words: slices.Clone(words)} }

func (m *tape) Read(at int) uint64 {
	return m.touch(read, at, func(v uint64) uint64 { return v })
}

func (m *tape) Write(at int, v uint64) {
	m.touch(write, at, func(uint64) uint64 { return v })
}

func (m *tape) Update(at int, f func(v uint64) uint64) uint64 {
	return m.touch(update, at, f)
}

func (m *tape) touch(kind, at int, f func(v uint64) uint64) uint64 {
	if at < 0 || at >= len(m.words) || f == nil {
		m.marks = append(m.marks, mark{kind: kind, at: at})
		return 0
	}
	was := m.words[at]
	is := f(was)
	m.words[at] = is
	m.marks = append(m.marks, mark{kind, at, was, is})
	return was
}

// holds holds a tape's words, and what was done to it, against what they should be.
func (m *tape) holds(t *testing.T, words []uint64, marks []mark) {
	t.Helper()
	if !slices.Equal(m.words, words) || !slices.Equal(m.marks, marks) {
		t.Fatalf("the words are %v, behind %v; want %v, behind %v", m.words, m.marks, words, marks)
	}
}

// act is a touch that a program does.
type act struct {
	kind, at int
	v        uint64
}

// do does an act, and answers what the program gets by it.
func (x act) do(m api.Mem) uint64 {
	switch x.kind {
	case read:
		return m.Read(x.at)
	case write:
		m.Write(x.at, x.v)
		return 0
	}
	return m.Update(x.at, x.of)
}

// of is what an act's Update says of a word.
func (x act) of(v uint64) uint64 { return v*3 + x.v }

// doer is a program that does acts, and keeps what it got, and whether it has come to its end.
type doer struct {
	acts []act
	got  []uint64
	end  bool
}

func (p *doer) run(m api.Mem) {
	for _, x := range p.acts {
		p.got = append(p.got, x.do(m))
	}
	p.end = true
}

// mustNew makes an agent, which the test stops in its end.
func mustNew(t *testing.T, m api.Mem, run func(m api.Mem)) *Agent {
	t.Helper()
	a, e := New(m, run)
	if a == nil || e != api.OK {
		t.Fatalf("New = %v, %d; want an agent", a, e)
	}
	t.Cleanup(a.Stop)
	return a
}

// mustStep steps an agent that is not at its end, and tells whether it is behind that.
func mustStep(t *testing.T, a *Agent, end bool) {
	t.Helper()
	if a.Done() {
		t.Fatal("Done ahead of a step that should be there")
	}
	if e := a.Step(); e != api.OK {
		t.Fatalf("Step = %d; want OK", e)
	}
	if a.Done() != end {
		t.Fatalf("Done behind a step = %v; want %v", a.Done(), end)
	}
}

// isOver holds that an agent is at its end, or stopped, and stays so, and that its memory is not touched.
func isOver(t *testing.T, a *Agent, m *tape) {
	t.Helper()
	words, marks := slices.Clone(m.words), slices.Clone(m.marks)
	for range 3 {
		if !a.Done() {
			t.Fatal("Done = false; want true")
		}
		if e := a.Step(); e != api.ErrState {
			t.Fatalf("Step behind the end = %d; want ErrState", e)
		}
		m.holds(t, words, marks)
	}
}

// P12.1: the chapter's example.
func TestExample(t *testing.T) {
	m, _ := arena.New(2)
	m.Write(1, 7)
	a := mustNew(t, m, func(m api.Mem) { m.Write(0, m.Read(1)+1) })
	if a.Done() || m.Touched() != 1 {
		t.Fatalf("behind New: Done = %v, touched %d", a.Done(), m.Touched())
	}
	mustStep(t, a, false)
	if m.Touched() != 2 || m.Last() != 1 {
		t.Fatalf("behind a step: touched %d, at last %d", m.Touched(), m.Last())
	}
	mustStep(t, a, true)
	if m.Touched() != 3 || m.Last() != 0 || !slices.Equal(m.All(), []uint64{8, 7}) {
		t.Fatalf("behind two steps: touched %d, at last %d, words %v", m.Touched(), m.Last(), m.All())
	}
	if e := a.Step(); e != api.ErrState || m.Touched() != 3 {
		t.Fatalf("a third step = %d, touched %d", e, m.Touched())
	}
}

// P12.1: New: none, and the error; a program that is handed in without a memory is not run.
func TestNewRefuses(t *testing.T) {
	ran := false
	run := func(api.Mem) { ran = true }
	for _, x := range []struct {
		m   api.Mem
		run func(m api.Mem)
	}{{nil, run}, {newTape(1), nil}, {nil, nil}} {
		if a, e := New(x.m, x.run); a != nil || e != api.ErrNil || ran {
			t.Errorf("New(%v, %v) = %v, %d, ran %v; want none, ErrNil", x.m, x.run != nil, a, e, ran)
		}
	}
}

// P12.1, P12.2: no agent at all.
func TestNil(t *testing.T) {
	var a *Agent
	for range 2 {
		if e := a.Step(); e != api.ErrNil {
			t.Errorf("Step of nil = %d; want ErrNil", e)
		}
		if !a.Done() {
			t.Error("Done of nil = false; want true")
		}
		a.Stop()
	}
}

// P12.1: a program that touches nothing is at its end from the beginning: all of it was done.
func TestTouchesNothing(t *testing.T) {
	m := newTape(4, 5)
	ran, deferred := 0, 0
	a := mustNew(t, m, func(api.Mem) {
		defer func() { deferred++ }()
		ran++
	})
	if ran != 1 || deferred != 1 {
		t.Errorf("it ran %d times, and deferred %d times; want 1, 1", ran, deferred)
	}
	isOver(t, a, m)
	a.Stop()
	isOver(t, a, m)
	if ran != 1 || deferred != 1 {
		t.Errorf("behind Stop it ran %d times, and deferred %d times; want 1, 1", ran, deferred)
	}
	m.holds(t, []uint64{4, 5}, nil)
}

// P12.1: a program of one touch, of each kind.
func TestOneTouch(t *testing.T) {
	for _, kind := range kinds() {
		m := newTape(4, 5)
		x := act{kind, 1, 7}
		p := &doer{acts: []act{x}}
		a := mustNew(t, m, p.run)
		m.holds(t, []uint64{4, 5}, nil)
		mustStep(t, a, true)
		want := []struct {
			got  uint64
			mark mark
		}{{5, mark{read, 1, 5, 5}}, {0, mark{write, 1, 5, 7}}, {5, mark{update, 1, 5, 22}}}[kind]
		m.holds(t, []uint64{4, want.mark.is}, []mark{want.mark})
		if !p.end || !slices.Equal(p.got, []uint64{want.got}) {
			t.Errorf("kind %d: got %v, end %v; want %d", kind, p.got, p.end, want.got)
		}
		isOver(t, a, m)
	}
}

// stepThrough steps a program of acts to its end, and holds each step against the same acts, done straight on a memory that is alike.
func stepThrough(t *testing.T, m *tape, acts []act) {
	t.Helper()
	straight := newTape(m.words...)
	p := &doer{acts: acts}
	a := mustNew(t, m, p.run)
	var got []uint64
	for i, x := range acts {
		m.holds(t, straight.words, straight.marks)
		if p.end || !slices.Equal(p.got, got) {
			t.Fatalf("%v, ahead of the act %d: got %v, end %v; want %v", acts, i, p.got, p.end, got)
		}
		got = append(got, x.do(straight))
		mustStep(t, a, i == len(acts)-1)
	}
	m.holds(t, straight.words, straight.marks)
	if !p.end || !slices.Equal(p.got, got) {
		t.Fatalf("%v, in the end: got %v, end %v; want %v", acts, p.got, p.end, got)
	}
	isOver(t, a, m)
}

// P12.1: programs of all rows of up to four kinds, each kind first, between, and last, of one place and of several.
func TestRowsOfKinds(t *testing.T) {
	var rows func(acts []act)
	rows = func(acts []act) {
		if len(acts) > 0 {
			stepThrough(t, newTape(11, 12, 13), acts)
		}
		if len(acts) == 4 {
			return
		}
		for _, kind := range kinds() {
			for at := range 2 {
				rows(append(slices.Clone(acts), act{kind, at, uint64(len(acts)) + 20}))
			}
		}
	}
	rows(nil)
}

// P12.1: words of all sizes go to the program and back as they are.
func TestWords(t *testing.T) {
	for _, v := range []uint64{0, 1, 1<<32 - 1, 1 << 32, 1 << 63, math.MaxUint64} {
		stepThrough(t, newTape(v, 0), []act{{read, 0, 0}, {write, 1, v}, {read, 1, 0}, {update, 0, v}, {read, 0, 0}})
	}
}

// P12.1: New and each Step let the program go on to its next touch, and no further; what stands between touches is done by the way.
func TestGoesOn(t *testing.T) {
	m := newTape(0)
	var log []int
	a := mustNew(t, m, func(m api.Mem) {
		defer func() { log = append(log, 5) }()
		log = append(log, 1)
		m.Read(0)
		log = append(log, 2)
		m.Write(0, 1)
		log = append(log, 3)
		m.Update(0, func(uint64) uint64 { return 2 })
		log = append(log, 4)
	})
	for _, want := range [][]int{{1}, {1, 2}, {1, 2, 3}, {1, 2, 3, 4, 5}} {
		if !slices.Equal(log, want) || len(m.marks) != len(want)-1 && !a.Done() {
			t.Fatalf("behind %d touches the program has done %v; want %v", len(m.marks), log, want)
		}
		a.Step()
	}
	isOver(t, a, m)
}

// P12.1: a touch is done when the agent steps, on the word as it is then; an Update's function is asked once, at once.
func TestTouchesTheWordAsItIs(t *testing.T) {
	m := newTape(1)
	var asked []uint64
	var got []uint64
	a := mustNew(t, m, func(m api.Mem) {
		got = append(got, m.Read(0))
		got = append(got, m.Update(0, func(v uint64) uint64 {
			asked = append(asked, v)
			return v + 100
		}))
		got = append(got, m.Read(0))
	})
	for i, v := range []uint64{5, 6} {
		m.words[0] = v
		if len(asked) != 0 || len(got) != i {
			t.Fatalf("ahead of the step %d: asked of %v, got %v", i, asked, got)
		}
		a.Step()
	}
	if !slices.Equal(asked, []uint64{6}) || m.words[0] != 106 {
		t.Fatalf("the Update asked of %v, and made it %d; want 6, 106", asked, m.words[0])
	}
	m.words[0] = 8
	mustStep(t, a, true)
	if !slices.Equal(got, []uint64{5, 6, 8}) || len(asked) != 1 {
		t.Fatalf("got %v, asked of %v; want 5 6 8, and 6", got, asked)
	}
}

// P12.1: the program goes by what it read: as often as a word says.
func TestGoesByWhatItRead(t *testing.T) {
	for n := range 20 {
		m := newTape(uint64(n), 0)
		a := mustNew(t, m, func(m api.Mem) {
			for range m.Read(0) {
				m.Update(1, func(v uint64) uint64 { return v + 2 })
			}
		})
		for i := range n + 1 {
			mustStep(t, a, i == n)
			if m.words[1] != 2*uint64(i) {
				t.Fatalf("behind %d steps of %d the word is %d", i+1, n+1, m.words[1])
			}
		}
		isOver(t, a, m)
	}
}

// P12.1: what a program defers in the ordinary way is a part of it, touches too.
func TestDefersInTheOrdinaryWay(t *testing.T) {
	m := newTape(1, 2)
	a := mustNew(t, m, func(m api.Mem) {
		defer func() { m.Write(1, 9) }()
		m.Read(0)
	})
	mustStep(t, a, false)
	m.holds(t, []uint64{1, 2}, []mark{{read, 0, 1, 1}})
	mustStep(t, a, true)
	m.holds(t, []uint64{1, 9}, []mark{{read, 0, 1, 1}, {write, 1, 2, 9}})
	isOver(t, a, m)
}

// P12.1: a touch outside the memory is the memory's own affair: the agent hands it on, as one touch.
func TestOutsideTheMemory(t *testing.T) {
	for _, at := range []int{-1, 2, 3, api.MaxWords, math.MinInt, math.MaxInt} {
		for _, kind := range kinds() {
			m := newTape(4, 5)
			p := &doer{acts: []act{{kind, at, 7}, {read, 1, 0}}}
			a := mustNew(t, m, p.run)
			mustStep(t, a, false)
			m.holds(t, []uint64{4, 5}, []mark{{kind: kind, at: at}})
			mustStep(t, a, true)
			if !slices.Equal(p.got, []uint64{0, 5}) {
				t.Fatalf("kind %d at %d: got %v; want 0 5", kind, at, p.got)
			}
		}
	}
}

// P12.1: likewise over an arena, which touches nothing then.
func TestOutsideAnArena(t *testing.T) {
	m, _ := arena.New(1)
	p := &doer{acts: []act{{read, 1, 0}, {write, -1, 3}, {update, 1, 3}, {write, 0, 3}}}
	a := mustNew(t, m, p.run)
	for i := range p.acts {
		if m.Touched() != 0 {
			t.Fatalf("behind %d steps: touched %d", i, m.Touched())
		}
		mustStep(t, a, i == len(p.acts)-1)
	}
	if m.Touched() != 1 || m.Read(0) != 3 || !slices.Equal(p.got, []uint64{0, 0, 0, 0}) {
		t.Fatalf("touched %d, the word %d, got %v", m.Touched(), m.Read(0), p.got)
	}
}

// P12.1: an Update by a function that is none is the memory's own affair, too.
func TestUpdateByNone(t *testing.T) {
	m := newTape(4)
	got := uint64(99)
	a := mustNew(t, m, func(m api.Mem) { got = m.Update(0, nil) })
	mustStep(t, a, true)
	m.holds(t, []uint64{4}, []mark{{kind: update}})
	if got != 0 {
		t.Errorf("Update by none = %d; want 0", got)
	}
}

// P12.1 (R1): a program that panics, or leaves its goroutine, is at its end by that, ahead of a touch or behind one; what it defers is done.
func TestEndsByAPanic(t *testing.T) {
	for i, end := range []func(){
		func() { panic("no") },
		func() { panic(nil) },
		func() { panic(api.ErrArg) },
		func() { var none []int; none[0]++ },
		runtime.Goexit,
	} {
		for touches := range 3 {
			m := newTape(0)
			deferred := false
			a := mustNew(t, m, func(m api.Mem) {
				defer func() { deferred = true }()
				for range touches {
					m.Update(0, func(v uint64) uint64 { return v + 1 })
				}
				end()
			})
			for k := range touches {
				mustStep(t, a, k == touches-1)
			}
			if !deferred || m.words[0] != uint64(touches) {
				t.Fatalf("end %d behind %d touches: deferred %v, the word %d", i, touches, deferred, m.words[0])
			}
			isOver(t, a, m)
		}
	}
}

// P12.1: a program may recover what it has thrown itself, and goes on.
func TestRecoversItsOwn(t *testing.T) {
	m := newTape(1, 2)
	var got any
	a := mustNew(t, m, func(m api.Mem) {
		func() {
			defer func() { got = recover() }()
			panic(m.Read(0))
		}()
		m.Write(1, 5)
	})
	mustStep(t, a, false)
	mustStep(t, a, true)
	m.holds(t, []uint64{1, 5}, []mark{{read, 0, 1, 1}, {write, 1, 2, 5}})
	if got != uint64(1) {
		t.Errorf("recovered %v; want 1", got)
	}
}

// P12.1 (R1): an Update's function that panics does so in its program, as it would without an agent: no Step panics.
func TestUpdateByPanic(t *testing.T) {
	m := newTape(1, 2)
	var got any
	a := mustNew(t, m, func(m api.Mem) {
		func() {
			defer func() { got = recover() }()
			m.Update(0, func(uint64) uint64 { panic("no") })
			t.Error("it goes on behind a panic")
		}()
		m.Write(1, 5)
		m.Update(0, func(uint64) uint64 { panic("no more") })
		t.Error("it goes on behind a panic that it does not recover")
	})
	mustStep(t, a, false)
	if got != "no" {
		t.Errorf("recovered %v; want no", got)
	}
	mustStep(t, a, false)
	mustStep(t, a, true)
	m.holds(t, []uint64{1, 5}, []mark{{write, 1, 2, 5}})
	isOver(t, a, m)
}

// P12.1: over a memory that catches the panic itself, as an arena does, the program goes on.
func TestUpdateByPanicThatIsCaught(t *testing.T) {
	m, _ := arena.New(1)
	m.Write(0, 7)
	var got []uint64
	a := mustNew(t, m, func(m api.Mem) {
		got = append(got, m.Update(0, func(uint64) uint64 { panic("no") }), m.Read(0))
	})
	mustStep(t, a, false)
	mustStep(t, a, true)
	if !slices.Equal(got, []uint64{7, 7}) {
		t.Errorf("got %v; want 7 7", got)
	}
}

// P12.1: what an Update's function touches by the program's memory is no touch: a step has one, and it is the Update's.
func TestUpdateThatTouches(t *testing.T) {
	m := newTape(3, 4)
	var got []uint64
	a := mustNew(t, m, func(m api.Mem) {
		got = append(got, m.Update(0, func(v uint64) uint64 {
			m.Write(1, 9)
			asks := func(uint64) uint64 {
				t.Error("an Update in an Update asks")
				return 9
			}
			return v + 10 + m.Read(1) + m.Update(1, asks)
		}))
		got = append(got, m.Read(1))
	})
	mustStep(t, a, false)
	m.holds(t, []uint64{13, 4}, []mark{{update, 0, 3, 13}})
	mustStep(t, a, true)
	if !slices.Equal(got, []uint64{3, 4}) {
		t.Errorf("got %v; want 3 4", got)
	}
}

// P12.1 (R1): a program, and a function of its own, that would step the agent that it is run by: it may not be stepped while it is.
func TestStepsItself(t *testing.T) {
	m := newTape(0, 0)
	var a *Agent
	steps := func() {
		if a.Done() {
			t.Error("Done by the program ahead of its end = true")
		}
		if e := a.Step(); e != api.ErrState {
			t.Errorf("Step by the program = %d; want ErrState", e)
		}
	}
	a = mustNew(t, m, func(m api.Mem) {
		m.Write(0, 1)
		steps()
		m.Update(1, func(v uint64) uint64 {
			steps()
			return v + 1
		})
		steps()
		m.Read(0)
		steps()
	})
	for i := range 3 {
		mustStep(t, a, i == 2)
	}
	m.holds(t, []uint64{1, 1}, []mark{{write, 0, 0, 1}, {update, 1, 0, 1}, {read, 0, 1, 1}})
	isOver(t, a, m)
}

// P12.1: who keeps the memory behind the program's end touches nothing by it.
func TestKeptMemory(t *testing.T) {
	for _, end := range []func(a *Agent){
		func(a *Agent) { a.Step() },
		func(a *Agent) { a.Stop() },
	} {
		m := newTape(4)
		var kept api.Mem
		a := mustNew(t, m, func(m api.Mem) {
			kept = m
			m.Read(0)
		})
		end(a)
		words, marks := slices.Clone(m.words), slices.Clone(m.marks)
		for range 3 {
			kept.Write(0, 9)
			v := kept.Read(0)
			was := kept.Update(0, func(uint64) uint64 {
				t.Error("a kept memory's Update asks")
				return 9
			})
			if v != 0 || was != 0 {
				t.Errorf("a kept memory answers %d, %d; want 0, 0", v, was)
			}
		}
		m.holds(t, words, marks)
	}
}
