package arena

import (
	"math"
	"slices"
	"testing"

	"demesne/api"
)

// An arena is a memory.
var _ api.Mem = (*Arena)(nil)

// sizes are how many words arenas have in these tests: the edges, and some between.
var sizes = []int{1, 2, 3, 32, 100, api.MaxWords - 1, api.MaxWords}

func mustNew(t *testing.T, words int) *Arena {
	t.Helper()
	a, e := New(words)
	if a == nil || e != api.OK {
		t.Fatalf("New(%d) = %v, %d; want an arena", words, a, e)
	}
	return a
}

// looks holds all that an arena tells of itself against what it should be.
func looks(t *testing.T, a *Arena, words []uint64, touched uint64, last int) {
	t.Helper()
	if !slices.Equal(a.All(), words) {
		t.Fatalf("All() = %v; want %v", a.All(), words)
	}
	if a.Len() != len(words) || a.Touched() != touched || a.Last() != last {
		t.Fatalf("Len, Touched, Last = %d, %d, %d; want %d, %d, %d",
			a.Len(), a.Touched(), a.Last(), len(words), touched, last)
	}
}

// outside are places that an arena of so many words has not.
func outside(words int) []int {
	return []int{-1, -2, -words, -words - 1, words, words + 1, 2 * words, api.MaxWords,
		math.MinInt, math.MinInt + 1, math.MaxInt, math.MaxInt32 + 1, 1 << 32, -1 << 32}
}

// inside are places that an arena of so many words has, the first and the last one with them.
func inside(words int) []int {
	return slices.Compact([]int{0, words / 3, words / 2, words - 1})
}

// P2.1: an arena of so many words, all 0, that was not touched yet.
func TestNew(t *testing.T) {
	for _, n := range sizes {
		looks(t, mustNew(t, n), make([]uint64, n), 0, -1)
	}
}

// P2.1: none, and the error.
func TestNewRefuses(t *testing.T) {
	for _, n := range []int{0, -1, -2, math.MinInt, api.MaxWords + 1, 2 * api.MaxWords, math.MaxInt, math.MaxInt32 + 2, 1 << 32} {
		if a, e := New(n); a != nil || e != api.ErrArg {
			t.Errorf("New(%d) = %v, %d; want none, ErrArg", n, a, e)
		}
	}
}

// P2.1: what is done to one arena is not seen in another one.
func TestNewSharesNothing(t *testing.T) {
	a, b := mustNew(t, 4), mustNew(t, 4)
	a.Write(2, 9)
	looks(t, b, []uint64{0, 0, 0, 0}, 0, -1)
	b.Write(1, 5)
	looks(t, a, []uint64{0, 0, 9, 0}, 1, 2)
	looks(t, mustNew(t, 4), []uint64{0, 0, 0, 0}, 0, -1)
}

// P2.2: the chapter's example.
func TestExample(t *testing.T) {
	a := mustNew(t, 2)
	a.Write(1, 7)
	if was := a.Update(1, func(v uint64) uint64 { return v + 1 }); was != 7 {
		t.Errorf("Update(1, +1) = %d; want 7", was)
	}
	if v := a.Read(1); v != 8 {
		t.Errorf("Read(1) = %d; want 8", v)
	}
	if v := a.Read(2); v != 0 {
		t.Errorf("Read(2) = %d; want 0", v)
	}
	looks(t, a, []uint64{0, 8}, 3, 1)
}

// P2.2: the word at a place, before and after it is written, at both ends and between.
func TestReadWrite(t *testing.T) {
	for _, n := range sizes {
		a := mustNew(t, n)
		want, touched := make([]uint64, n), uint64(0)
		for _, at := range inside(n) {
			for _, v := range []uint64{1, 0, 7, 526370, 1 << 32, 1 << 63, math.MaxUint64, math.MaxUint64} {
				a.Write(at, v)
				want[at] = v
				looks(t, a, want, touched+1, at)
				if x := a.Read(at); x != v {
					t.Fatalf("of %d words: Write(%d, %d), Read = %d", n, at, v, x)
				}
				touched += 2
				looks(t, a, want, touched, at)
			}
		}
	}
}

// P2.2: f is asked once, of the word as it is; the word is what f says; the answer is what it was.
func TestUpdate(t *testing.T) {
	for _, n := range sizes {
		for _, at := range inside(n) {
			a := mustNew(t, n)
			was := uint64(0)
			for i, is := range []uint64{5, 5, 0, math.MaxUint64, 1 << 63, 1} {
				asked := []uint64{}
				x := a.Update(at, func(v uint64) uint64 {
					asked = append(asked, v)
					return is
				})
				if x != was || !slices.Equal(asked, []uint64{was}) {
					t.Fatalf("of %d words: Update(%d) = %d, f was asked of %v; want %d", n, at, x, asked, was)
				}
				want := make([]uint64, n)
				want[at] = is
				looks(t, a, want, uint64(i)+1, at)
				was = is
			}
		}
	}
}

// P2.2: words go round.
func TestUpdateGoesRound(t *testing.T) {
	a := mustNew(t, 1)
	if was := a.Update(0, func(v uint64) uint64 { return v - 1 }); was != 0 || a.Read(0) != math.MaxUint64 {
		t.Errorf("0 - 1: was %d, is %d", was, a.Read(0))
	}
	if was := a.Update(0, func(v uint64) uint64 { return v + 1 }); was != math.MaxUint64 || a.Read(0) != 0 {
		t.Errorf("the greatest + 1: was %d, is %d", was, a.Read(0))
	}
}

// P2.2: of a place that there is not: 0, nothing is changed or counted, f is not asked.
func TestNoSuchPlace(t *testing.T) {
	for _, n := range sizes {
		a := mustNew(t, n)
		want := make([]uint64, n)
		for at := range n {
			want[at] = uint64(at) + 3
			a.Write(at, want[at])
		}
		for _, at := range outside(n) {
			if at >= 0 && at < n {
				continue
			}
			if v := a.Read(at); v != 0 {
				t.Fatalf("of %d words: Read(%d) = %d; want 0", n, at, v)
			}
			a.Write(at, 99)
			asked := func(v uint64) uint64 {
				t.Fatalf("of %d words: Update(%d) asks f", n, at)
				return v
			}
			if v := a.Update(at, asked); v != 0 {
				t.Fatalf("of %d words: Update(%d) = %d; want 0", n, at, v)
			}
			if v := a.Update(at, nil); v != 0 {
				t.Fatalf("of %d words: Update(%d, none) = %d; want 0", n, at, v)
			}
			looks(t, a, want, uint64(n), n-1)
		}
	}
}

// P2.2: places that there are not leave an arena untouched that was so.
func TestNoSuchPlaceUntouched(t *testing.T) {
	for _, n := range sizes {
		a := mustNew(t, n)
		a.Read(-1)
		a.Write(n, 1)
		a.Update(n+1, func(uint64) uint64 { return 1 })
		a.Update(0, nil)
		looks(t, a, make([]uint64, n), 0, -1)
	}
}

// P2.2: of an f that is none: 0, and nothing.
func TestUpdateByNone(t *testing.T) {
	a := mustNew(t, 3)
	a.Write(0, 7)
	a.Write(2, 8)
	for at := range 3 {
		if v := a.Update(at, nil); v != 0 {
			t.Errorf("Update(%d, none) = %d; want 0", at, v)
		}
		looks(t, a, []uint64{7, 0, 8}, 2, 2)
	}
}

// P2.2 (R1): an f that panics says nothing of the word; the arena goes on.
func TestUpdateByPanic(t *testing.T) {
	for _, thing := range []any{"no", noPlace(1), nil, 7} {
		a := mustNew(t, 2)
		a.Write(0, 7)
		if was := a.Update(0, func(uint64) uint64 { panic(thing) }); was != 7 {
			t.Errorf("Update(0, panics with %v) = %d; want 7", thing, was)
		}
		looks(t, a, []uint64{7, 0}, 2, 0)
		if was := a.Update(0, func(v uint64) uint64 { return v + 1 }); was != 7 {
			t.Errorf("behind a panic: Update(0, +1) = %d; want 7", was)
		}
		looks(t, a, []uint64{8, 0}, 3, 0)
	}
}

// P2.2: touches of a nil arena, through a memory that holds one.
func TestNilTouches(t *testing.T) {
	var a *Arena
	var m api.Mem = a
	for _, at := range []int{0, 1, -1, api.MaxWords, math.MinInt, math.MaxInt} {
		if v := m.Read(at); v != 0 {
			t.Errorf("Read(%d) of nil = %d", at, v)
		}
		m.Write(at, 1)
		asked := func(v uint64) uint64 {
			t.Errorf("Update(%d) of nil asks f", at)
			return 1
		}
		if v := m.Update(at, asked); v != 0 {
			t.Errorf("Update(%d) of nil = %d", at, v)
		}
		if v := m.Update(at, nil); v != 0 {
			t.Errorf("Update(%d, none) of nil = %d", at, v)
		}
	}
}

// P2.3: each Read, Write and Update counts one, and tells its place; the looks count none.
func TestTouched(t *testing.T) {
	for _, n := range sizes {
		a := mustNew(t, n)
		touched := uint64(0)
		for _, at := range append(inside(n), 0, n-1, n-1) {
			for _, touch := range []func(){
				func() { a.Read(at) },
				func() { a.Write(at, 4) },
				func() { a.Write(at, 4) },
				func() { a.Update(at, func(v uint64) uint64 { return v }) },
			} {
				touch()
				touched++
				for range 2 {
					a.All()
					if a.Len() != n || a.Touched() != touched || a.Last() != at {
						t.Fatalf("Len, Touched, Last = %d, %d, %d; want %d, %d, %d",
							a.Len(), a.Touched(), a.Last(), n, touched, at)
					}
				}
			}
		}
	}
}

// P2.3: of nil: 0, 0, -1, none.
func TestNilLooks(t *testing.T) {
	var a *Arena
	a.Write(0, 1)
	if a.Len() != 0 || a.Touched() != 0 || a.Last() != -1 || len(a.All()) != 0 {
		t.Errorf("of nil: %d, %d, %d, %v; want 0, 0, -1, none", a.Len(), a.Touched(), a.Last(), a.All())
	}
}

// P2.3 (R3): what All answers is its caller's alone, spare room too, and stays as it is.
func TestAllIsNew(t *testing.T) {
	for _, n := range sizes {
		a := mustNew(t, n)
		a.Write(n-1, 6)
		first, want := a.All(), a.All()
		for i := range first {
			first[i] = 99
		}
		room := first[:cap(first)]
		for i := range room {
			room[i] = 98
		}
		looks(t, a, want, 1, n-1)
		if v := a.Read(n - 1); v != 6 {
			t.Fatalf("Read(%d) = %d; want 6", n-1, v)
		}
		kept := a.All()
		a.Write(0, 5)
		if !slices.Equal(kept, want) {
			t.Fatalf("what All answered has become %v; want %v", kept, want)
		}
	}
}

// model is an arena as the chapter tells it: the words, and the count.
type model struct {
	words   []uint64
	touched uint64
	last    int
}

func (m *model) has(at int) bool {
	return at >= 0 && at < len(m.words)
}

// act does one act of a kind to an arena and to its model, and holds the answers against each other.
func (m *model) act(t *testing.T, a *Arena, kind, at int, v uint64) {
	t.Helper()
	was, want := uint64(0), uint64(0)
	if m.has(at) {
		want = m.words[at]
		m.touched++
		m.last = at
	}
	switch kind {
	case 0:
		was = a.Read(at)
	case 1:
		a.Write(at, v)
		want = 0
		if m.has(at) {
			m.words[at] = v
		}
	default:
		was = a.Update(at, func(w uint64) uint64 { return w*3 + v })
		if m.has(at) {
			m.words[at] = m.words[at]*3 + v
		}
	}
	if was != want {
		t.Fatalf("act %d at %d of %d: %d; want %d", kind, at, v, was, want)
	}
}

// P2.4: behind any row of acts a word is what was written there last, no other one is changed, and each touch counts one.
func TestAnyActs(t *testing.T) {
	for _, n := range []int{1, 2, 3, 7, 32, 100} {
		a := mustNew(t, n)
		m := &model{words: make([]uint64, n), last: -1}
		next := uint64(n)
		some := func(below int) int {
			next = next*6364136223846793005 + 1442695040888963407
			return int(next >> 33 % uint64(below))
		}
		for range 3000 {
			m.act(t, a, some(3), some(n+2)-1, uint64(some(1<<30))<<34|uint64(some(1<<30)))
			looks(t, a, m.words, m.touched, m.last)
		}
	}
}

// P2.4: every place of a full arena has a word of its own.
func TestEveryPlace(t *testing.T) {
	for _, n := range sizes {
		a := mustNew(t, n)
		want := make([]uint64, n)
		for at := range n {
			a.Write(at, uint64(at)*uint64(at)+1)
			want[at] = uint64(at)*uint64(at) + 1
		}
		looks(t, a, want, uint64(n), n-1)
		for at := n - 1; at >= 0; at-- {
			if v := a.Read(at); v != want[at] {
				t.Fatalf("of %d words: Read(%d) = %d; want %d", n, at, v, want[at])
			}
			if was := a.Update(at, func(v uint64) uint64 { return ^v }); was != want[at] {
				t.Fatalf("of %d words: Update(%d) = %d; want %d", n, at, was, want[at])
			}
			want[at] = ^want[at]
		}
		looks(t, a, want, 3*uint64(n), 0)
	}
}
