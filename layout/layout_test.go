package layout

import (
	"math"
	"testing"

	"demesne/api"
)

// wild are numbers that are no place, no count and no thing's number.
var wild = []int{-1, -2, -32, -33, -4096, math.MinInt, math.MinInt + 1, math.MinInt32, math.MaxInt, math.MaxInt - 1, math.MaxInt32, 1 << 32, 1<<32 + 1, 1 << 40, 1 << 62}

// fit is how many blocks go in, found by laying one more as long as it does.
func fit(words, threads, globals int) int {
	used := 3 + threads + globals
	blocks := 0
	for blocks < 64 && used+1+32 <= words {
		used += 1 + 32
		blocks++
	}
	return blocks
}

// thing is what a place is for.
type thing struct {
	what       string
	number, at int
}

// laid is what each place of a layout is for, in the chapter's order.
func laid(threads, globals, blocks int) []thing {
	all := []thing{{"map", 0, 0}, {"phase", 0, 0}, {"request", 0, 0}}
	add := func(what string, things, words int) {
		for i := range things {
			for at := range words {
				all = append(all, thing{what, i, at})
			}
		}
	}
	add("answer", threads, 1)
	add("global", globals, 1)
	add("entry", blocks, 1)
	add("block", blocks, 32)
	return all
}

// told is what each place is for, as a layout tells it by its methods.
func told(t *testing.T, l Layout) []thing {
	t.Helper()
	all := make([]thing, l.Words())
	put := func(at int, x thing) {
		t.Helper()
		if at < 0 || at >= len(all) || all[at].what != "" {
			t.Fatalf("%+v: %v at %d, where %d places are", l, x, at, len(all))
		}
		all[at] = x
	}
	put(Map, thing{"map", 0, 0})
	put(Phase, thing{"phase", 0, 0})
	put(Request, thing{"request", 0, 0})
	for i := range l.Threads() {
		put(l.Answer(i), thing{"answer", i, 0})
	}
	for i := range l.Globals() {
		put(l.Global(i), thing{"global", i, 0})
	}
	for i := range l.Blocks() {
		put(l.Entry(i), thing{"entry", i, 0})
		for at := range 32 {
			put(l.Start(i)+at, thing{"block", i, at})
		}
	}
	return all
}

// layouts hands out layouts of all edges that the chapter names, and between
// them: of so few words that a block just goes in, of some left behind the
// last block, of as many as MaxBlocks want, and of more.
func layouts(t *testing.T, do func(l Layout, words, threads, globals int)) {
	t.Helper()
	for _, threads := range []int{1, 2, 3, 31, 32, 33, 63, 64} {
		for globals := range 9 {
			least := 3 + threads + globals + 33
			most := least + 63*33
			for _, words := range []int{least, least + 1, least + 31, least + 32, least + 33, least + 34, 1000, most - 34, most - 33, most - 1, most, most + 1, most + 33, 4095, 4096} {
				l, e := New(words, threads, globals)
				if e != api.OK {
					t.Fatalf("New(%d, %d, %d): %d", words, threads, globals, e)
				}
				do(l, words, threads, globals)
			}
		}
	}
}

// must answers a layout that there is.
func must(t *testing.T, words, threads, globals int) Layout {
	t.Helper()
	l, e := New(words, threads, globals)
	if e != api.OK {
		t.Fatalf("New(%d, %d, %d): %d", words, threads, globals, e)
	}
	return l
}

// P6.1, P6.2: the chapter's example.
func TestExample(t *testing.T) {
	l := must(t, 100, 1, 1)
	got := [8]int{l.Threads(), l.Globals(), l.Blocks(), l.Answer(0), l.Global(0), l.Entry(0), l.Start(0), l.Words()}
	if want := [8]int{1, 1, 2, 3, 4, 5, 7, 71}; got != want {
		t.Errorf("got %v; want %v", got, want)
	}
	if Map != 0 || Phase != 1 || Request != 2 {
		t.Errorf("single words: %d, %d, %d", Map, Phase, Request)
	}
}

// P6.1, P6.2, P6.3: layouts worked out by hand.
func TestByHand(t *testing.T) {
	type row struct {
		words, threads, globals         int
		blocks, answer, global          int
		entry, lastEntry, start, behind int
	}
	for _, r := range []row{
		{37, 1, 0, 1, 3, -1, 4, 4, 5, 37},
		{38, 1, 1, 1, 3, 4, 5, 5, 6, 38},
		{108, 64, 8, 1, 3, 67, 75, 75, 76, 108},
		{140, 64, 8, 1, 3, 67, 75, 75, 76, 108},
		{141, 64, 8, 2, 3, 67, 75, 76, 77, 141},
		{2115, 1, 0, 63, 3, -1, 4, 66, 67, 2083},
		{2116, 1, 0, 64, 3, -1, 4, 67, 68, 2116},
		{2117, 1, 0, 64, 3, -1, 4, 67, 68, 2116},
		{4096, 1, 0, 64, 3, -1, 4, 67, 68, 2116},
		{4096, 64, 8, 64, 3, 67, 75, 138, 139, 2187},
		{4096, 2, 3, 64, 3, 5, 8, 71, 72, 2120},
	} {
		l := must(t, r.words, r.threads, r.globals)
		got := row{r.words, l.Threads(), l.Globals(), l.Blocks(), l.Answer(0), l.Global(0), l.Entry(0), l.Entry(l.Blocks() - 1), l.Start(0), l.Words()}
		if got != r {
			t.Errorf("got %v; want %v", got, r)
		}
	}
}

// P6.1: of every arena and every count of threads and global roots, as many
// blocks as go in, or the error that the chapter names first.
func TestNew(t *testing.T) {
	for words := -2; words <= 4099; words++ {
		for _, threads := range []int{-1, 0, 1, 2, 40, 64, 65} {
			for _, globals := range []int{-1, 0, 1, 8, 9} {
				want := api.OK
				blocks := fit(words, threads, globals)
				if words < 1 || words > 4096 || threads < 1 || threads > 64 || globals < 0 || globals > 8 {
					want = api.ErrArg
				} else if blocks == 0 {
					want = api.ErrFull
				}
				l, e := New(words, threads, globals)
				if e != want {
					t.Fatalf("New(%d, %d, %d): %d; want %d", words, threads, globals, e, want)
				}
				if e != api.OK && l != (Layout{}) {
					t.Fatalf("New(%d, %d, %d) = %+v beside an error", words, threads, globals, l)
				}
				if e == api.OK && (l.Threads() != threads || l.Globals() != globals || l.Blocks() != blocks) {
					t.Fatalf("New(%d, %d, %d): %d, %d, %d; want %d blocks", words, threads, globals, l.Threads(), l.Globals(), l.Blocks(), blocks)
				}
			}
		}
	}
}

// P6.1: just as many words as a block wants, or MaxBlocks, and one fewer; for
// all threads and global roots that there may be.
func TestEdges(t *testing.T) {
	for threads := 1; threads <= api.MaxThreads; threads++ {
		for globals := 0; globals <= api.MaxGlobals; globals++ {
			ahead := 3 + threads + globals
			least, most := ahead+1+api.Block, ahead+api.MaxBlocks*(1+api.Block)
			if l, e := New(least-1, threads, globals); l != (Layout{}) || e != api.ErrFull {
				t.Fatalf("New(%d, %d, %d) = %+v, %d; want ErrFull", least-1, threads, globals, l, e)
			}
			for _, r := range [][3]int{
				{least, 1, least}, {least + api.Block, 1, least}, {least + 1 + api.Block, 2, least + 1 + api.Block},
				{most - 1, api.MaxBlocks - 1, most - 1 - api.Block}, {most, api.MaxBlocks, most},
				{most + 1, api.MaxBlocks, most}, {api.MaxWords, api.MaxBlocks, most},
			} {
				if l := must(t, r[0], threads, globals); l.Blocks() != r[1] || l.Words() != r[2] {
					t.Fatalf("New(%d, %d, %d): %d blocks, %d words; want %d, %d", r[0], threads, globals, l.Blocks(), l.Words(), r[1], r[2])
				}
			}
		}
	}
}

// P6.1: each single thing that may not be is refused by itself, however great
// or small; of an arena in which also no block goes in the argument is told.
func TestNewRefuses(t *testing.T) {
	refused := func(words, threads, globals int) {
		t.Helper()
		if l, e := New(words, threads, globals); l != (Layout{}) || e != api.ErrArg {
			t.Errorf("New(%d, %d, %d) = %+v, %d; want a zero layout, ErrArg", words, threads, globals, l, e)
		}
	}
	for _, n := range append([]int{4097, 8192, 65, 9}, wild...) {
		if n < 1 || n > api.MaxWords {
			refused(n, 1, 0)
			refused(n, api.MaxThreads, api.MaxGlobals)
		}
		if n < 1 || n > api.MaxThreads {
			refused(1000, n, 0)
			refused(1, n, 0)
		}
		if n < 0 || n > api.MaxGlobals {
			refused(1000, 1, n)
			refused(1, 1, n)
		}
	}
	refused(0, 1, 0)
	refused(1000, 0, 0)
	refused(0, 0, 0)
	refused(36, 0, 0)
	refused(36, 1, -1)
}

// P6.1: no block goes into an arena of a few words, down to one alone.
func TestNewIsFull(t *testing.T) {
	for _, r := range [][3]int{{1, 1, 0}, {1, 64, 8}, {3, 1, 0}, {4, 1, 0}, {36, 1, 0}, {37, 1, 1}, {37, 2, 0}, {44, 1, 8}, {99, 64, 0}, {107, 64, 8}, {74, 64, 8}, {75, 64, 8}} {
		if l, e := New(r[0], r[1], r[2]); l != (Layout{}) || e != api.ErrFull {
			t.Errorf("New(%v) = %+v, %d; want a zero layout, ErrFull", r, l, e)
		}
	}
}

// P6.1, P6.2, P6.3: of a zero layout there are no words and no places.
func TestZero(t *testing.T) {
	var l Layout
	if l.Threads() != 0 || l.Globals() != 0 || l.Blocks() != 0 || l.Words() != 0 {
		t.Errorf("zero layout: %d, %d, %d, %d", l.Threads(), l.Globals(), l.Blocks(), l.Words())
	}
	for _, n := range append([]int{0, 1, 2, 3, 4, 5, 31, 32, 33, 100}, wild...) {
		if l.Answer(n) != -1 || l.Global(n) != -1 || l.Entry(n) != -1 || l.Start(n) != -1 {
			t.Errorf("zero layout: %d, %d, %d, %d of %d; want -1", l.Answer(n), l.Global(n), l.Entry(n), l.Start(n), n)
		}
		if block, at, ok := l.Block(n); block != 0 || at != 0 || ok {
			t.Errorf("zero layout: Block(%d) = %d, %d, %v", n, block, at, ok)
		}
	}
}

// P6.2, P6.4: each place below Words is one thing's, in the chapter's order.
func TestPlaces(t *testing.T) {
	layouts(t, func(l Layout, words, threads, globals int) {
		got, want := told(t, l), laid(threads, globals, fit(words, threads, globals))
		if len(got) != len(want) {
			t.Fatalf("New(%d, %d, %d): %d words; want %d", words, threads, globals, len(got), len(want))
		}
		for at := range want {
			if got[at] != want[at] {
				t.Fatalf("New(%d, %d, %d): %v at %d; want %v", words, threads, globals, got[at], at, want[at])
			}
		}
	})
}

// P6.4: all lies within the arena, and no block more would go in.
func TestNoBlockMore(t *testing.T) {
	layouts(t, func(l Layout, words, threads, globals int) {
		if l.Words() > words {
			t.Fatalf("New(%d, %d, %d): %d words", words, threads, globals, l.Words())
		}
		if l.Blocks() < api.MaxBlocks && l.Words()+1+api.Block <= words {
			t.Fatalf("New(%d, %d, %d): %d words of %d blocks: one more goes in", words, threads, globals, l.Words(), l.Blocks())
		}
		if l.Blocks() < 1 || l.Blocks() > api.MaxBlocks {
			t.Fatalf("New(%d, %d, %d): %d blocks", words, threads, globals, l.Blocks())
		}
	})
}

// P6.2: -1 of a thread, a global root, a block that there is not.
func TestNoSuch(t *testing.T) {
	layouts(t, func(l Layout, words, threads, globals int) {
		none := func(what string, place func(int) int, things int) {
			for _, n := range append([]int{things, things + 1, things + 64}, wild...) {
				if at := place(n); at != -1 {
					t.Fatalf("New(%d, %d, %d): %s %d at %d; want -1", words, threads, globals, what, n, at)
				}
			}
		}
		none("answer", l.Answer, threads)
		none("global", l.Global, globals)
		none("entry", l.Entry, l.Blocks())
		none("start", l.Start, l.Blocks())
	})
}

// P6.3: of each place in and around the arena, the block in which it lies and
// how far from its beginning.
func TestBlock(t *testing.T) {
	layouts(t, func(l Layout, words, threads, globals int) {
		all := laid(threads, globals, fit(words, threads, globals))
		for at := -40; at < words+40; at++ {
			var want thing
			if at >= 0 && at < len(all) && all[at].what == "block" {
				want = all[at]
			}
			block, from, ok := l.Block(at)
			if block != want.number || from != want.at || ok != (want.what != "") {
				t.Fatalf("New(%d, %d, %d): Block(%d) = %d, %d, %v; want %v", words, threads, globals, at, block, from, ok, want)
			}
			if ok && l.Start(block)+from != at {
				t.Fatalf("New(%d, %d, %d): Block(%d) = %d, %d, which begins at %d", words, threads, globals, at, block, from, l.Start(block))
			}
		}
		for _, at := range append([]int{words, l.Words(), 4096, 1 << 13}, wild...) {
			if block, from, ok := l.Block(at); block != 0 || from != 0 || ok {
				t.Fatalf("New(%d, %d, %d): Block(%d) = %d, %d, %v; want 0, 0, false", words, threads, globals, at, block, from, ok)
			}
		}
	})
}

// P6.3: places at the edges of the example's two blocks.
func TestBlockByHand(t *testing.T) {
	l := must(t, 100, 1, 1)
	for _, r := range []struct {
		at, block, from int
		ok              bool
	}{
		{-1, 0, 0, false}, {0, 0, 0, false}, {5, 0, 0, false}, {6, 0, 0, false},
		{7, 0, 0, true}, {8, 0, 1, true}, {38, 0, 31, true},
		{39, 1, 0, true}, {40, 1, 1, true}, {70, 1, 31, true},
		{71, 0, 0, false}, {72, 0, 0, false}, {99, 0, 0, false}, {100, 0, 0, false},
	} {
		if block, from, ok := l.Block(r.at); block != r.block || from != r.from || ok != r.ok {
			t.Errorf("Block(%d) = %d, %d, %v; want %v", r.at, block, from, ok, r)
		}
	}
}

// P6.1: layouts of one arena are the same; of other threads, global roots or
// blocks they are not. (R2)
func TestSame(t *testing.T) {
	l := must(t, 1000, 2, 3)
	if l != must(t, 1000, 2, 3) {
		t.Error("one arena's layouts are unlike")
	}
	for _, other := range []Layout{{}, must(t, 1000, 3, 2), must(t, 1000, 3, 3), must(t, 1000, 2, 4), must(t, 900, 2, 3)} {
		if l == other {
			t.Errorf("%+v is the same", other)
		}
	}
}
