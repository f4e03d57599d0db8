package agent

import (
	"runtime"
	"slices"
	"testing"
	"testing/synctest"

	"demesne/api"
)

// P12.2: Stop ahead of the first touch, behind each one, and behind the last one, once and twice.
func TestStop(t *testing.T) {
	acts := []act{{read, 0, 0}, {update, 1, 7}, {write, 0, 5}, {read, 1, 0}, {update, 0, 1}}
	for steps := range len(acts) + 1 {
		for times := 1; times <= 2; times++ {
			straight := newTape(3, 4)
			m := newTape(3, 4)
			p := &doer{acts: acts}
			a := mustNew(t, m, p.run)
			var got []uint64
			for i, x := range acts[:steps] {
				got = append(got, x.do(straight))
				mustStep(t, a, i == len(acts)-1)
			}
			for range times {
				a.Stop()
			}
			isOver(t, a, m)
			m.holds(t, straight.words, straight.marks)
			if p.end != (steps == len(acts)) || !slices.Equal(p.got, got) {
				t.Fatalf("stopped behind %d touches: got %v, end %v; want %v", steps, p.got, p.end, got)
			}
			a.Stop()
			isOver(t, a, m)
		}
	}
}

// P12.2: of each kind, the touch at which a program is stopped is not done, its function not asked, and the program does not go on.
func TestStopAtEachKind(t *testing.T) {
	for _, kind := range kinds() {
		for ahead := range 2 {
			m := newTape(3, 4)
			asked, went := false, false
			a := mustNew(t, m, func(m api.Mem) {
				for range ahead {
					m.Read(0)
				}
				switch kind {
				case read:
					m.Read(1)
				case write:
					m.Write(1, 9)
				case update:
					m.Update(1, func(uint64) uint64 {
						asked = true
						return 9
					})
				}
				went = true
			})
			for range ahead {
				mustStep(t, a, false)
			}
			a.Stop()
			if asked || went || len(m.marks) != ahead {
				t.Fatalf("kind %d: asked %v, went on %v, behind %v", kind, asked, went, m.marks)
			}
			isOver(t, a, m)
		}
	}
}

// deferring is a program that defers, in two functions one in the other, and does so many touches ahead of that; it logs what it comes by.
func deferring(t *testing.T, touches int, log *[]string) func(m api.Mem) {
	says := func(s string) { *log = append(*log, s) }
	touch := func(m api.Mem) {
		m.Write(0, 99)
		asks := func(v uint64) uint64 {
			t.Error("what is deferred asks")
			return 99
		}
		if v, was := m.Read(1), m.Update(1, asks); v != 0 || was != 0 {
			t.Errorf("what is deferred reads %d, %d; want 0, 0", v, was)
		}
	}
	return func(m api.Mem) {
		defer says("first")
		defer func() {
			says("second")
			touch(m)
			says("second's end")
		}()
		func() {
			defer m.Write(1, 98)
			defer func() {
				touch(m)
				says("third's end")
			}()
			for range touches {
				m.Read(0)
			}
			says("there")
			m.Read(0)
			says("beyond")
		}()
		says("far beyond")
	}
}

// P12.2, P12.3: what a stopped program defers is done by the time that Stop has answered, all of it, and in order; it touches nothing.
func TestStopDefers(t *testing.T) {
	for touches := range 4 {
		m := newTape(3, 4)
		var log []string
		a := mustNew(t, m, deferring(t, touches, &log))
		for range touches {
			mustStep(t, a, false)
		}
		if !slices.Equal(log, []string{"there"}) {
			t.Fatalf("ahead of Stop: %v", log)
		}
		marks := slices.Clone(m.marks)
		a.Stop()
		want := []string{"there", "third's end", "second", "second's end", "first"}
		if !slices.Equal(log, want) {
			t.Fatalf("stopped behind %d touches: %v; want %v", touches, log, want)
		}
		m.holds(t, []uint64{3, 4}, marks)
		isOver(t, a, m)
		if !slices.Equal(log, want) {
			t.Fatalf("behind the end: %v; want %v", log, want)
		}
	}
}

// P12.2: a program that is stopped at a touch of what it defers goes on no further there; what else it defers is done.
func TestStopInWhatIsDeferred(t *testing.T) {
	for _, ends := range []func(){func() {}, func() { panic("no") }} {
		m := newTape(3, 4)
		var log []string
		a := mustNew(t, m, func(m api.Mem) {
			defer func() { log = append(log, "first") }()
			defer func() {
				m.Write(0, 1)
				log = append(log, "second")
				m.Write(0, 2)
				log = append(log, "beyond")
			}()
			m.Read(1)
			ends()
		})
		mustStep(t, a, false)
		mustStep(t, a, false)
		a.Stop()
		if !slices.Equal(log, []string{"second", "first"}) {
			t.Fatalf("done: %v; want second, first", log)
		}
		m.holds(t, []uint64{1, 4}, []mark{{read, 1, 4, 4}, {write, 0, 3, 1}})
		isOver(t, a, m)
	}
}

// P12.2: an agent that has come to its end is not stopped: Stop does nothing to it.
func TestStopBehindTheEnd(t *testing.T) {
	m := newTape(3)
	deferred := 0
	a := mustNew(t, m, func(m api.Mem) {
		defer func() { deferred++ }()
		m.Write(0, 5)
	})
	mustStep(t, a, true)
	for range 2 {
		a.Stop()
		isOver(t, a, m)
		m.holds(t, []uint64{5}, []mark{{write, 0, 3, 5}})
		if deferred != 1 {
			t.Fatalf("deferred %d times; want once", deferred)
		}
	}
}

// P12.2 (R1): what a stopped program defers may wait for a word, in vain: it is broken off, Stop ends, and the rest is done.
func TestStopOfWhatWaits(t *testing.T) {
	for i, waits := range []func(m api.Mem){
		func(m api.Mem) {
			for m.Read(0) == 0 {
			}
		},
		func(m api.Mem) {
			for done := false; !done; {
				m.Update(0, func(v uint64) uint64 {
					done = true
					return v
				})
			}
		},
	} {
		m := newTape(7)
		var log []string
		a := mustNew(t, m, func(m api.Mem) {
			defer func() { log = append(log, "first") }()
			defer func() {
				m.Write(0, 1)
				log = append(log, "second")
			}()
			defer func() {
				waits(m)
				log = append(log, "third")
			}()
			m.Read(0)
		})
		a.Stop()
		if !slices.Equal(log, []string{"second", "first"}) {
			t.Errorf("wait %d: done: %v; want second, first", i, log)
		}
		isOver(t, a, m)
		m.holds(t, []uint64{7}, nil)
	}
}

// P12.2: what a stopped program defers may touch each word of the greatest memory, for nothing, and be done.
func TestStopOfWhatTouchesMuch(t *testing.T) {
	m := newTape(7)
	done := false
	a := mustNew(t, m, func(m api.Mem) {
		defer func() {
			for at := range api.MaxWords {
				m.Write(at, 0)
			}
			done = true
		}()
		m.Read(0)
	})
	a.Stop()
	if !done {
		t.Error("what is deferred is broken off")
	}
	m.holds(t, []uint64{7}, nil)
}

// P12.2 (R1): a program that stops the agent by which it is run, by itself, or in an Update's function, ends at that touch, or at its next one.
func TestStopsItself(t *testing.T) {
	var a *Agent
	stops := func() {
		a.Stop()
		a.Stop()
		if !a.Done() || a.Step() != api.ErrState {
			t.Error("stopped by its program, it is not over")
		}
	}
	for i, part := range []func(m api.Mem){
		func(m api.Mem) {
			m.Write(0, 5)
			stops()
		},
		func(m api.Mem) {
			m.Update(0, func(uint64) uint64 {
				stops()
				return 5
			})
			t.Error("it goes on behind the touch at which it was stopped")
		},
	} {
		m := newTape(3, 4)
		deferred, went := false, false
		a = mustNew(t, m, func(m api.Mem) {
			defer func() {
				m.Write(1, 9)
				deferred = true
			}()
			part(m)
			m.Write(1, 8)
			went = true
		})
		mustStep(t, a, true)
		isOver(t, a, m)
		if !slices.Equal(m.words, []uint64{5, 4}) || len(m.marks) != 1 {
			t.Fatalf("part %d: words %v, behind %v", i, m.words, m.marks)
		}
		if went || !deferred {
			t.Fatalf("part %d: went on %v, deferred %v; want false, true", i, went, deferred)
		}
	}
}

// P12.2 (R1): what a program defers may stop its agent, too, when the program is stopped, or has come to its end.
func TestStopsItselfAtItsEnd(t *testing.T) {
	for _, end := range []func(a *Agent){
		func(a *Agent) { a.Step() },
		func(a *Agent) { a.Stop() },
	} {
		m := newTape(3)
		var a *Agent
		deferred := false
		a = mustNew(t, m, func(m api.Mem) {
			defer func() {
				a.Stop()
				deferred = a.Done() && a.Step() == api.ErrState
			}()
			m.Read(0)
		})
		end(a)
		isOver(t, a, m)
		if !deferred {
			t.Error("what it defers finds the agent as if it were not stopped")
		}
	}
}

// P12.2, P12.3: an agent that is stopped leaves others over the same memory as they are.
func TestStopLeavesOthers(t *testing.T) {
	for which := range 3 {
		for steps := range 3 {
			m := newTape(0, 0, 0, 0)
			var l []*Agent
			for i := range 3 {
				l = append(l, mustNew(t, m, func(m api.Mem) {
					defer m.Write(3, 99)
					for range 3 {
						m.Update(i, func(v uint64) uint64 { return v + uint64(i) + 1 })
					}
				}))
			}
			for range steps {
				for _, a := range l {
					mustStep(t, a, false)
				}
			}
			l[which].Stop()
			isOver(t, l[which], m)
			for i, a := range l {
				for k := steps; k < 3 && i != which; k++ {
					mustStep(t, a, false)
				}
			}
			for i := range l {
				times := 3
				if i == which {
					times = steps
				}
				if m.words[i] != uint64(times*(i+1)) {
					t.Fatalf("agent %d stopped behind %d steps: words %v", which, steps, m.words)
				}
			}
			if m.words[3] != 0 {
				t.Fatalf("what a stopped program defers touches: %v", m.words)
			}
		}
	}
}

// P12.1, P12.2: behind an agent's end, and behind Stop, nothing of it goes on running: the test fails, if what was begun in it does not end.
func TestNothingGoesOn(t *testing.T) {
	for steps := range 4 {
		for stops := range 3 {
			if steps < 3 && stops == 0 {
				continue
			}
			synctest.Test(t, func(t *testing.T) {
				p := &doer{acts: []act{{read, 0, 0}, {write, 0, 1}, {update, 0, 1}}}
				a, e := New(newTape(3), p.run)
				if e != api.OK {
					t.Fatal(e)
				}
				for range steps {
					a.Step()
				}
				for range stops {
					a.Stop()
				}
				if !a.Done() {
					t.Fatal("it is not at its end")
				}
			})
		}
	}
}

// P12.1: nor does anything, where New answers an error.
func TestNothingBegins(t *testing.T) {
	synctest.Test(t, func(t *testing.T) {
		New(nil, func(m api.Mem) { m.Read(0) })
		New(newTape(1), nil)
	})
}

// P12.2: by the time that Stop has answered nothing of the program is under way, also if what it defers takes long.
func TestStopWaits(t *testing.T) {
	for range 50 {
		left := 0
		a := mustNew(t, newTape(3), func(m api.Mem) {
			defer func() {
				for range 100 {
					runtime.Gosched()
					left++
				}
			}()
			m.Read(0)
		})
		a.Stop()
		if left != 100 {
			t.Fatalf("Stop has answered with %d of 100 rounds done", left)
		}
	}
}
