package publish

import (
	"math"
	"slices"
	"testing"

	"demesne/api"
	"demesne/arena"
	"demesne/word"
)

// put is the word of a header that may be.
func put(t *testing.T, h word.Head) uint64 {
	t.Helper()
	w, e := word.Put(h)
	if e != api.OK {
		t.Fatalf("Put(%+v): %d", h, e)
	}
	return w
}

// P16.1: the chapter's example, over an arena.
func TestExample(t *testing.T) {
	local := func(refs uint8) word.Head { return word.Head{Kind: word.Local, Owner: 5, Refs: refs, Size: 2} }
	global := func(colour, refs uint8) word.Head {
		return word.Head{Kind: word.Global, Colour: colour, Owner: 5, Refs: refs, Size: 2}
	}
	for _, c := range []word.Head{global(0, 1), global(1, 0), {Kind: word.Global, Grey: true}, {Kind: word.Global, Colour: 1, Grey: true, Owner: 3}} {
		m, _ := arena.New(20)
		for at, w := range map[int]uint64{
			4: put(t, local(2)), 5: 8, 6: 12, // a: to b and c
			8: put(t, local(1)), 9: 4, 10: 12, // b: to a, and a datum
			12: put(t, c), 13: 16, 16: put(t, local(0)), // c, to an object that it should not lead to
		} {
			m.Write(at, w)
		}
		want, was := m.All(), m.Touched()
		want[4], want[8] = put(t, global(1, 2)), put(t, global(1, 1))
		var work []int
		Publish(m, 4, 1, &work)
		if !slices.Equal(m.All(), want) || len(work) != 0 {
			t.Errorf("words %v, the worklist %v; want %v", m.All(), work, want)
		}
		// Of a: an Update, a header, two references, two Updates; of b: a header, a reference, an Update.
		if n := m.Touched() - was; n != 9 {
			t.Errorf("%d touches; want 9", n)
		}
	}
}

// P16.1: objects that lead to each other, touch by touch, by hand: each touch behind what the worklist is ahead of it; r reads, u updates.
func TestByHand(t *testing.T) {
	l := func(refs, size uint64) uint64 { return head(2, refs, size) }
	for _, x := range []struct {
		name    string
		words   plain
		marks   string
		becomes []int // which ones become Global, beside the first one
	}{
		{"alone", plain{0, l(0, 0)}, "[]u1 [1]r1", nil},
		{"data alone", plain{0, l(0, 3), 5, 5, 5, l(0, 0)}, "[]u1 [1]r1", nil},
		{"to nowhere", plain{0, l(2, 2), 0, 0}, "[]u1 [1]r1 [1]r2 [1]r3", nil},
		{"to itself", plain{0, l(1, 1), 1}, "[]u1 [1]r1 [1]r2 [1]u1", nil},
		{"to itself, twice", plain{0, l(2, 2), 1, 1}, "[]u1 [1]r1 [1]r2 [1]u1 [1]r3 [1]u1", nil},
		{"a ring of two", plain{0, l(1, 1), 3, l(1, 1), 1}, "[]u1 [1]r1 [1]r2 [1]u3 [3]r3 [3]r4 [3]u1", []int{3}},
		{"a ring of three", plain{0, l(1, 1), 5, l(1, 1), 1, l(1, 1), 3}, "[]u1 [1]r1 [1]r2 [1]u5 [5]r5 [5]r6 [5]u3 [3]r3 [3]r4 [3]u1", []int{3, 5}},
		{"to the same one, twice", plain{0, l(3, 3), 5, 0, 5, l(0, 1), 1}, "[]u1 [1]r1 [1]r2 [1]u5 [1 5]r3 [1 5]r4 [1 5]u5 [5]r5", []int{5}},
		{"the first one first", plain{0, l(2, 2), 6, 4, l(1, 1), 8, l(1, 1), 9, l(0, 0), l(0, 0)},
			"[]u1 [1]r1 [1]r2 [1]u6 [1 6]r3 [1 6]u4 [6 4]r6 [6 4]r7 [6 4]u9 [4 9]r4 [4 9]r5 [4 9]u8 [9 8]r9 [8]r8", []int{4, 6, 8, 9}},
		{"references, not data", plain{0, l(1, 3), 5, 6, 7, l(0, 0), l(0, 0), l(0, 0)}, "[]u1 [1]r1 [1]r2 [1]u5 [5]r5", []int{5}},
		{"to shared ones", plain{0, l(2, 2), 4, 6, 3 + 1<<11 + 1<<18, 8, 15 + 1<<11 + 1<<18, 8, l(0, 0)}, "[]u1 [1]r1 [1]r2 [1]u4 [1]r3 [1]u6", nil},
		{"to no objects", plain{0, l(3, 3), 5, 6, 7, 32, 33, 1 << 40}, "[]u1 [1]r1 [1]r2 [1]u5 [1]r3 [1]u6 [1]r4 [1]u7", nil},
		{"past no objects", plain{0, l(3, 3), 5, 6, 7, 0, 1<<25 | 2, l(0, 0)}, "[]u1 [1]r1 [1]r2 [1]u5 [1]r3 [1]u6 [1]r4 [1]u7 [7]r7", []int{7}},
		{"to a chain, and to its end", plain{0, l(2, 2), 4, 6, l(1, 1), 6, l(1, 1), 0}, "[]u1 [1]r1 [1]r2 [1]u4 [1 4]r3 [1 4]u6 [4 6]r4 [4 6]r5 [4 6]u6 [6]r6 [6]r7", []int{4, 6}},
	} {
		for colour := range uint8(2) {
			var work []int
			m := newTape(&work, x.words...)
			Publish(m, 1, colour, &work)
			want := slices.Clone(x.words)
			for _, at := range append([]int{1}, x.becomes...) {
				want[at] += 1 + colourBit*uint64(colour)
			}
			if got := texts(m.marks); got != x.marks || !slices.Equal(m.words, want) || len(work) != 0 {
				t.Errorf("%s, in %d: %s, words %v, the worklist %v; want %s, words %v", x.name, colour, got, m.words, work, x.marks, want)
			}
			play(t, x.words, 1, colour)
			follows(t, x.words, 1, colour)
		}
	}
}

// P16.1: every Local object's header becomes that of a Global one, of the colour, neither grey nor marked, with the same owner, references and size, by one Update; then so many references are read.
func TestEveryLocal(t *testing.T) {
	words := make(plain, 97)
	for owner := range uint64(64) {
		for size := range uint64(96) {
			for refs := range size + 1 {
				for i := range uint64(4) {
					colour, marked := i&1, i>>1
					words[1] = head(2, refs, size) + owner*32 + marked*markBit
					m := &counts{plain: words}
					var work []int
					Publish(m, 1, uint8(colour), &work)
					if want := head(3, refs, size) + owner*32 + colour*colourBit; words[1] != want || m.reads != 1+int(refs) || m.updates != 1 || m.writes != 0 || len(work) != 0 {
						t.Fatalf("owner %d, %d references of %d fields, marked %d: the header %d, %+v, the worklist %v; want %d", owner, refs, size, marked, words[1], m, work, want)
					}
				}
			}
		}
	}
}

// counts is a memory that counts its touches.
type counts struct {
	plain
	reads, writes, updates int
}

func (m *counts) Read(at int) uint64 {
	m.reads++
	return m.plain.Read(at)
}

func (m *counts) Write(at int, v uint64) {
	m.writes++
	m.plain.Write(at, v)
}

func (m *counts) Update(at int, f func(v uint64) uint64) uint64 {
	m.updates++
	return m.plain.Update(at, f)
}

// P16.1: what is no Local object's header is updated once, to what it is; nothing else is touched.
func TestNoLocal(t *testing.T) {
	words := make(plain, 200)
	look := func(w uint64) {
		if kindOf(w) == 2 {
			return
		}
		words[1] = w
		for colour := range uint8(2) {
			m := &counts{plain: words}
			var work []int
			Publish(m, 1, colour, &work)
			if words[1] != w || m.reads != 0 || m.writes != 0 || m.updates != 1 || len(work) != 0 {
				t.Fatalf("the word %d, in %d: %d behind it, %+v, the worklist %v", w, colour, words[1], m, work)
			}
		}
	}
	for _, owner := range []uint64{0, 1, 31, 32, 63} {
		for low := range uint64(32) {
			for w := range uint64(1 << 14) {
				look(low + owner*32 + w<<11)
			}
		}
	}
	for _, w := range []uint64{2, 18, head(2, 1, 1), head(2, 95, 95) + 63*32} {
		for at := 25; at < 64; at++ {
			look(w | 1<<at)
		}
	}
	look(1<<64 - 1)
}

// P16.1: what is not Local is not published, nor is what it leads to.
func TestFirstNotLocal(t *testing.T) {
	for _, w := range []uint64{0, 1, 32, 33, head(3, 1, 1), head(3, 1, 1) + 4, head(3, 1, 1) + 8, head(3, 1, 1) + 12, head(2, 1, 1) + 4, head(2, 1, 1) + 8, head(3, 1, 1) + 16, head(2, 2, 1), head(2, 1, 96), head(2, 1, 1) | 1<<25} {
		for colour := range uint8(2) {
			words := plain{0, w, 3, 2}
			if got := play(t, words, 1, colour); !slices.Equal(got, words) {
				t.Errorf("the first word %d, in %d: %v; want %v", w, colour, got, words)
			}
			follows(t, words, 1, colour)
		}
	}
}

// P16.1: Local objects become Global, of the colour, whoever owns them, marked or not; others on the way stay as they are.
func TestOwnersAndMarks(t *testing.T) {
	all := []uint64{0, 32, 1, 33, 16, 3, 7, 11, 15, 2, 18, 2 + 63*32, 18 + 63*32}
	for _, a := range all[9:] {
		for _, b := range all {
			for _, c := range all {
				for colour := range uint8(2) {
					form := func(w, refs uint64) uint64 {
						if w&3 < 2 {
							return w
						}
						return w + refs<<11 + 2<<18
					}
					words := plain{0, form(a, 2), 4, 7, form(b, 1), 7, 1, form(c, 2), 1, 4}
					play(t, words, 1, colour)
					follows(t, words, 1, colour)
				}
			}
		}
	}
}

// P16.1: an object as large as can be: all references are read, in order, and no datum.
func TestLarge(t *testing.T) {
	for _, refs := range []uint64{0, 1, 94, 95} {
		words := plain{7, head(2, refs, 95)}
		for i := range 95 {
			words = append(words, uint64(97+i))
		}
		for range 95 {
			words = append(words, 2)
		}
		for colour := range uint8(2) {
			got := play(t, words, 1, colour)
			follows(t, words, 1, colour)
			for i := range 95 {
				if is := kindOf(got[97+i]) == 3; is != (uint64(i) < refs) {
					t.Fatalf("of %d references the one of the number %d: %v", refs, i, is)
				}
			}
		}
	}
}

// P16.1, P16.2: a chain of as many objects as there may be, ahead and back, and a thicket of the largest ones.
func TestLong(t *testing.T) {
	const n, large = api.MaxWords / 2, 96
	ahead, back, thicket := make(plain, api.MaxWords), make(plain, api.MaxWords), make(plain, api.MaxWords)
	for i := range n {
		ahead[2*i], ahead[2*i+1] = head(2, 1, 1), uint64((2*i+2)%api.MaxWords)
		back[2*i], back[2*i+1] = head(2, 1, 1), uint64((2*i+api.MaxWords-2)%api.MaxWords)
	}
	pick := some(16)
	for at := range thicket {
		thicket[at] = head(2, large-1, large-1)
		if at%large != 0 {
			thicket[at] = uint64(large * pick(api.MaxWords/large))
		}
	}
	for _, x := range []struct {
		words plain
		at    int
	}{{ahead, 2}, {back, api.MaxWords - 2}, {thicket, large}} {
		for colour := range uint8(2) {
			var work []int
			got, want := slices.Clone(x.words), slices.Clone(x.words)
			Publish(got, x.at, colour, &work)
			for at := range hangs(x.words, x.at) {
				want[at] = published(want[at], colour)
			}
			if !slices.Equal(got, want) || len(work) != 0 {
				t.Errorf("from %d, in %d: other words, or the worklist is: %v", x.at, colour, work)
			}
		}
	}
}

// places are some that there may be, and some that no memory has.
func places() []int {
	return []int{0, 1, 2, -1, -2, 4096, 1 << 32, math.MaxInt, math.MinInt}
}

// P16.1: a place that is none is the memory's own affair: it is asked once, and there is nothing.
func TestPlaceOutside(t *testing.T) {
	words := plain{2, 2, 2}
	for _, at := range append(places()[3:], 3, -4096, math.MaxInt-1, math.MinInt+1) {
		for colour := range uint8(2) {
			if got := play(t, words, at, colour); !slices.Equal(got, words) {
				t.Errorf("at %d: %v; want %v", at, got, words)
			}
			var work []int
			a, _ := arena.New(2)
			a.Write(0, 2)
			a.Write(1, 2)
			Publish(a, at, colour, &work)
			if !slices.Equal(a.All(), []uint64{2, 2}) || a.Touched() != 2 || len(work) != 0 {
				t.Errorf("at %d: %v, touched %d times, the worklist %v", at, a.All(), a.Touched(), work)
			}
		}
	}
}

// P16.1: references to places that there are not: each is asked for once, and the next one is read.
func TestReferencesOutside(t *testing.T) {
	for _, to := range []uint64{8, 4096, 1 << 31, 1<<32 + 7, 1<<63 - 1, 1 << 63, 1<<63 + 7, 1<<64 - 7, 1<<64 - 1} {
		for colour := range uint8(2) {
			words := plain{2, head(2, 3, 4), to, 7, to, 0, 2, 2}
			want := slices.Clone(words)
			want[1], want[7] = published(words[1], colour), published(2, colour)
			if got := play(t, words, 1, colour); !slices.Equal(got, want) {
				t.Errorf("to %d: %v; want %v", to, got, want)
			}
		}
	}
}

// P16.1: an object whose references lie behind the end of the memory has none there.
func TestCutOff(t *testing.T) {
	for colour := range uint8(2) {
		words := plain{0, 2, head(2, 9, 9), 1, 0, 1}
		if got := play(t, words, 2, colour); !slices.Equal(got, plain{0, published(2, colour), published(words[2], colour), 1, 0, 1}) {
			t.Errorf("in %d: %v", colour, got)
		}
	}
}

// P16.1: the place 0 is one as any other where it is handed in; only a reference of 0 leads to nowhere.
func TestPlaceZero(t *testing.T) {
	for colour := range uint8(2) {
		words := plain{head(2, 2, 2), 0, 3, head(2, 1, 1), 0}
		want := plain{published(words[0], colour), 0, 3, published(words[3], colour), 0}
		if got := play(t, words, 0, colour); !slices.Equal(got, want) {
			t.Errorf("in %d: %v; want %v", colour, got, want)
		}
		if got := play(t, words, 3, colour); !slices.Equal(got, plain{words[0], 0, 3, want[3], 0}) {
			t.Errorf("in %d, from the other one: %v", colour, got)
		}
	}
}

// P16.1: nothing is touched without a memory, without a worklist, or in a colour above 1; what is on the worklist stays.
func TestNothing(t *testing.T) {
	words := plain{2, head(2, 1, 1), 3, 2}
	var none *arena.Arena
	for _, at := range append(places(), 3) {
		for colour := range 256 {
			work := []int{3, 1}
			Publish(nil, at, uint8(colour), &work)
			Publish(nil, at, uint8(colour), nil)
			Publish(none, at, uint8(colour), nil)
			if !slices.Equal(work, []int{3, 1}) {
				t.Fatalf("at %d in %d, without a memory: the worklist %v", at, colour, work)
			}
			m := newTape(nil, words...)
			Publish(m, at, uint8(colour), nil)
			if colour > 1 {
				Publish(m, at, uint8(colour), &work)
			}
			if len(m.marks) != 0 || !slices.Equal(m.words, words) || !slices.Equal(work, []int{3, 1}) {
				t.Fatalf("at %d in %d: touched %s, words %v, the worklist %v", at, colour, texts(m.marks), m.words, work)
			}
		}
	}
}

// P16.1: over an arena that is nil there is nothing, and the worklist is empty in the end.
func TestNilArena(t *testing.T) {
	var none *arena.Arena
	for _, at := range places() {
		for colour := range uint8(2) {
			work := []int{3, 1}
			if Publish(none, at, colour, &work); len(work) != 0 {
				t.Errorf("at %d in %d: the worklist %v", at, colour, work)
			}
		}
	}
}

// P16.1: what is on the worklist already is looked into ahead of what comes behind it, whatever lies there.
func TestWorklistHandedIn(t *testing.T) {
	words := plain{0, head(2, 1, 1), 3, head(2, 0, 0), head(3, 1, 2), 7, 1, head(2, 1, 1), 4, 0, 1 << 40, 2}
	for _, x := range []struct {
		at      int
		work    []int
		marks   string
		becomes []int
	}{
		{1, []int{4}, "[4]u1 [4 1]r4 [4 1]r5 [4 1]u7 [1 7]r1 [1 7]r2 [1 7]u3 [7 3]r7 [7 3]r8 [7 3]u4 [3]r3", []int{1, 3, 7}},
		{1, []int{1}, "[1]u1 [1 1]r1 [1 1]r2 [1 1]u3 [1 3]r1 [1 3]r2 [1 3]u3 [3]r3", []int{1, 3}},
		{4, []int{4, 4}, "[4 4]u4 [4 4]r4 [4 4]r5 [4 4]u7 [4 7]r4 [4 7]r5 [4 7]u7 [7]r7 [7]r8 [7]u4", []int{7}},
		{9, []int{9, 10, 3, -1, 99}, "[9 10 3 -1 99]u9 [9 10 3 -1 99]r9 [10 3 -1 99]r10 [3 -1 99]r3 [-1 99]r-1 [99]r99", nil},
		{3, []int{7}, "[7]u3 [7 3]r7 [7 3]r8 [7 3]u4 [3]r3", []int{3}},
	} {
		for colour := range uint8(2) {
			work := slices.Clone(x.work)
			m := newTape(&work, words...)
			Publish(m, x.at, colour, &work)
			want := slices.Clone(words)
			for _, at := range x.becomes {
				want[at] += 1 + colourBit*uint64(colour)
			}
			if got := texts(m.marks); got != x.marks || !slices.Equal(m.words, want) || len(work) != 0 {
				t.Errorf("at %d, %v: %s, words %v, the worklist %v; want %s, words %v", x.at, x.work, got, m.words, work, x.marks, want)
			}
			play(t, words, x.at, colour, x.work...)
		}
	}
}

// P16.1: a worklist that has room behind its end, or that was used, serves as well as none.
func TestWorklistAgain(t *testing.T) {
	work := make([]int, 0, 5)
	for i := range 50 {
		colour := uint8(i % 2)
		words := plain{0, head(2, 2, 2), 4, 6, head(2, 1, 1), 6, head(2, 1, 2), 8, 1, head(2, 0, 0)}
		words[7] = 9
		want := slices.Clone(words)
		newModel(1, colour).all(want)
		m := newTape(&work, words...)
		Publish(m, 1, colour, &work)
		if !slices.Equal(m.words, want) || len(work) != 0 {
			t.Fatalf("the time %d: words %v, the worklist %v; want %v", i, m.words, work, want)
		}
	}
}

// again is a memory at which others come between: an Update asks more than once, the last time of what is there.
type again struct {
	plain
	others []uint64
}

func (m *again) Update(at int, f func(v uint64) uint64) uint64 {
	for _, w := range m.others {
		f(w)
	}
	return m.plain.Update(at, f)
}

// P16.1: what an Update was asked first does not count: what it is asked last does.
func TestAskedAgain(t *testing.T) {
	l := []uint64{0, 1, 2, 3, 18, head(2, 2, 2), head(3, 2, 2), 1 << 40}
	words := plain{0, head(2, 3, 3), 5, 8, 9, head(2, 2, 2), 1, 10, head(3, 0, 0), 0, 2}
	for _, first := range l {
		for _, second := range l {
			for colour := range uint8(2) {
				var work []int
				want := slices.Clone(words)
				newModel(1, colour).all(want)
				m := &again{slices.Clone(words), []uint64{first, second}}
				if Publish(m, 1, colour, &work); !slices.Equal(m.plain, want) || len(work) != 0 {
					t.Fatalf("asked of %d and %d first: %v, the worklist %v; want %v", first, second, m.plain, work, want)
				}
			}
		}
	}
}
