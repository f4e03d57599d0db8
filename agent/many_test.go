package agent

import (
	"slices"
	"testing"

	"demesne/api"
	"demesne/arena"
)

// orders answers all orders in which agents of so many touches each may step: rows of agents' numbers.
func orders(touches []int) [][]int {
	var all [][]int
	var mix func(row, left []int)
	mix = func(row, left []int) {
		last := true
		for i, n := range left {
			if n == 0 {
				continue
			}
			last = false
			next := slices.Clone(left)
			next[i]--
			mix(append(slices.Clone(row), i), next)
		}
		if last {
			all = append(all, row)
		}
	}
	mix(nil, touches)
	return all
}

// inOrder runs programs over one memory in an order, and holds each step against the same acts, done straight, one behind the other, in that order.
func inOrder(t *testing.T, words []uint64, programs [][]act, order []int) {
	t.Helper()
	m, straight := newTape(words...), newTape(words...)
	l := make([]*Agent, len(programs))
	doers := make([]*doer, len(programs))
	got := make([][]uint64, len(programs))
	for i, acts := range programs {
		doers[i] = &doer{acts: acts}
		l[i] = mustNew(t, m, doers[i].run)
	}
	for _, i := range order {
		x := programs[i][len(got[i])]
		got[i] = append(got[i], x.do(straight))
		mustStep(t, l[i], len(got[i]) == len(programs[i]))
		m.holds(t, straight.words, straight.marks)
		for k, p := range doers {
			if !slices.Equal(p.got, got[k]) {
				t.Fatalf("%v in the order %v: the program %d got %v; want %v", programs, order, k, p.got, got[k])
			}
		}
	}
	for i, a := range l {
		if !a.Done() || !doers[i].end {
			t.Fatalf("%v in the order %v: the program %d is not at its end", programs, order, i)
		}
	}
}

// P12.3: several agents over one memory, in all orders.
func TestAllOrders(t *testing.T) {
	for _, programs := range [][][]act{
		{{{read, 0, 0}, {write, 0, 1}}, {{write, 0, 2}, {read, 0, 0}}},
		{{{update, 0, 1}, {update, 0, 2}, {read, 0, 0}}, {{update, 0, 3}, {update, 0, 4}, {read, 1, 0}}},
		{{{read, 0, 0}, {update, 1, 5}, {write, 0, 6}}, {{update, 0, 7}, {read, 1, 0}}, {{write, 1, 8}, {update, 0, 9}, {read, 0, 0}}},
		{{{write, 0, 1}}, {{write, 0, 2}}, {{write, 0, 3}}, {{update, 0, 4}, {read, 0, 0}}},
		{{{read, 2, 0}, {read, -1, 0}}, {{write, 2, 1}, {write, 1, 1}}, {}},
	} {
		var touches []int
		for _, acts := range programs {
			touches = append(touches, len(acts))
		}
		for _, order := range orders(touches) {
			inOrder(t, []uint64{11, 12}, programs, order)
		}
	}
}

// P12.3: many agents of many touches, in any order.
func TestAnyOrder(t *testing.T) {
	next := uint64(12)
	some := func(below int) int {
		next = next*6364136223846793005 + 1442695040888963407
		return int(next >> 33 % uint64(below))
	}
	for n := 1; n <= 64; n *= 2 {
		var order []int
		programs := make([][]act, n)
		for i := range programs {
			for range 10 + some(20) {
				programs[i] = append(programs[i], act{some(3), some(7) - 1, uint64(some(1 << 20))})
				order = append(order, i)
			}
		}
		for i := range order {
			k := some(i + 1)
			order[i], order[k] = order[k], order[i]
		}
		inOrder(t, []uint64{1, 2, 3, 4, 5}, programs, order)
	}
}

// P12.3: two touches of one agent may have one of another agent between; one Update has not.
func TestBetween(t *testing.T) {
	apart := func(m api.Mem) { m.Write(0, m.Read(0)+1) }
	atOnce := func(m api.Mem) { m.Update(0, func(v uint64) uint64 { return v + 1 }) }
	for _, x := range []struct {
		run   func(m api.Mem)
		order []int
		want  uint64
	}{
		{apart, []int{0, 0, 1, 1}, 2},
		{apart, []int{0, 1, 0, 1}, 1},
		{apart, []int{0, 1, 1, 0}, 1},
		{apart, []int{1, 0, 0, 1}, 1},
		{apart, []int{1, 1, 0, 0}, 2},
		{atOnce, []int{0, 1}, 2},
		{atOnce, []int{1, 0}, 2},
	} {
		m, _ := arena.New(1)
		l := []*Agent{mustNew(t, m, x.run), mustNew(t, m, x.run)}
		for i, who := range x.order {
			if e := l[who].Step(); e != api.OK || m.Touched() != uint64(i)+1 {
				t.Fatalf("the step %d of %v: %d, touched %d", i, x.order, e, m.Touched())
			}
		}
		if v := m.Read(0); v != x.want || !l[0].Done() || !l[1].Done() {
			t.Errorf("in the order %v: %d; want %d", x.order, v, x.want)
		}
	}
}

// P12.3: an agent that waits for a word does one touch a step, till another one has written it.
func TestWaits(t *testing.T) {
	m := newTape(0, 0)
	waits := mustNew(t, m, func(m api.Mem) {
		for m.Read(0) == 0 {
		}
		m.Write(1, 6)
	})
	writes := mustNew(t, m, func(m api.Mem) { m.Write(0, 5) })
	for range 100 {
		mustStep(t, waits, false)
	}
	mustStep(t, writes, true)
	mustStep(t, waits, false)
	mustStep(t, waits, true)
	if !slices.Equal(m.words, []uint64{5, 6}) || len(m.marks) != 103 {
		t.Errorf("words %v, behind %d touches", m.words, len(m.marks))
	}
}

// P12.3: agents over memories of their own have nothing to do with each other.
func TestApart(t *testing.T) {
	m, other := newTape(1), newTape(2)
	run := func(m api.Mem) { m.Write(0, m.Read(0)*10) }
	a, b := mustNew(t, m, run), mustNew(t, other, run)
	mustStep(t, a, false)
	mustStep(t, a, true)
	other.holds(t, []uint64{2}, nil)
	mustStep(t, b, false)
	a.Stop()
	mustStep(t, b, true)
	m.holds(t, []uint64{10}, []mark{{read, 0, 1, 1}, {write, 0, 1, 10}})
	other.holds(t, []uint64{20}, []mark{{read, 0, 2, 2}, {write, 0, 2, 20}})
}

// within is a program that runs two others by agents of its own, over the memory that it is handed, by turns; it stops them whatever happens.
func within(t *testing.T, one, two func(m api.Mem), end *bool) func(m api.Mem) {
	return func(m api.Mem) {
		var l []*Agent
		for _, run := range []func(m api.Mem){one, two} {
			a, e := New(m, run)
			if e != api.OK {
				t.Errorf("New in a program = %d", e)
			}
			defer a.Stop()
			l = append(l, a)
		}
		for !l[0].Done() || !l[1].Done() {
			for _, a := range l {
				if done := a.Done(); (a.Step() == api.OK) == done {
					t.Error("a step in a program")
				}
			}
		}
		*end = true
	}
}

// P12.3: what a program is handed is a memory as any other one: agents over it do a touch of it each step.
func TestWithin(t *testing.T) {
	m := newTape(0, 0)
	one := func(m api.Mem) { m.Write(0, m.Read(0)+1) }
	two := func(m api.Mem) { m.Update(0, func(v uint64) uint64 { return v + 10 }) }
	end := false
	a := mustNew(t, m, within(t, one, two, &end))
	for i := range 3 {
		mustStep(t, a, i == 2)
	}
	m.holds(t, []uint64{1, 0}, []mark{{read, 0, 0, 0}, {update, 0, 0, 10}, {write, 0, 10, 1}})
	if !end {
		t.Error("the program is not at its end")
	}
}

// P12.2, P12.3: a program that is stopped while it steps agents of its own does not go on; it stops them in what it defers, and what they defer is done.
func TestStopWithin(t *testing.T) {
	for steps := range 3 {
		m := newTape(0, 0)
		var log []string
		program := func(name string) func(m api.Mem) {
			return func(m api.Mem) {
				defer func() {
					m.Write(1, 99)
					log = append(log, name)
				}()
				for range 2 {
					m.Update(0, func(v uint64) uint64 { return v + 1 })
				}
				log = append(log, name+" goes on")
			}
		}
		end := false
		a := mustNew(t, m, within(t, program("one"), program("two"), &end))
		for range steps {
			mustStep(t, a, false)
		}
		before := len(log)
		a.Stop()
		isOver(t, a, m)
		if end || m.words[0] != uint64(steps) || m.words[1] != 0 {
			t.Fatalf("stopped behind %d steps: end %v, words %v", steps, end, m.words)
		}
		if behind := log[before:]; !slices.Equal(behind, []string{"two", "one"}) {
			t.Fatalf("stopped behind %d steps: done %v; want two, one", steps, behind)
		}
	}
}
