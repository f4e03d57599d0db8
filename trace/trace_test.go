package trace

import (
	"math"
	"slices"
	"testing"

	"demesne/api"
	"demesne/arena"
	"demesne/layout"
	"demesne/table"
	"demesne/word"
)

// byHand is an arena of two blocks, of these entries, and with these words: the global roots lie at 6 and 7, the entries at 8 and 9, the blocks begin at 10 and at 42.
func byHand(t *testing.T, colour uint8, first, second uint64, words map[int]uint64) given {
	t.Helper()
	g := given{lay(t, 3, 2, 2), colour, make([]uint64, 74)}
	g.words[8], g.words[9] = first, second
	for at, w := range words {
		g.words[at] = w
	}
	return g
}

// holds holds a call against its touches by hand, and the words that it changes.
func (g given) holds(t *testing.T, name string, which int, acts string, met bool, changed map[int]uint64) {
	t.Helper()
	m, is := g.play(t, which)
	want := slices.Clone(g.words)
	for at, w := range changed {
		want[at] = w
	}
	if got := texts(m.acts); got != acts || is != met || !slices.Equal(m.words, want) {
		t.Errorf("%s, colour %d: %v, %s; want %v, %s; left %v; want %v", name, g.colour, is, got, met, acts, m.words, want)
	}
}

// P21.3, P21.4: the chapter's example, in both colours, in an arena; and with the three the other way round.
func TestExample(t *testing.T) {
	for colour := range uint8(2) {
		for _, x := range []struct {
			a, b, c int
			met     []bool
		}{
			{10, 15, 20, []bool{true, false, false}},
			{20, 15, 10, []bool{true, true, true, false, false}},
		} {
			g := byHand(t, colour, small(2, 0), 0, map[int]uint64{
				x.a: global(grey, colour, 1, 2), x.a + 1: uint64(x.b),
				x.b: global(white, colour, 1, 2), x.b + 1: uint64(x.c),
				x.c: global(white, colour, 0, 2), x.c + 1: uint64(x.a),
			})
			m, e := arena.New(74)
			for at, w := range g.words {
				m.Write(at, w)
			}
			for i, met := range x.met {
				if is := Pass(m, g.p.l, colour); e != api.OK || is != met {
					t.Errorf("colour %d, from %d, the pass %d: %v; want %v", colour, x.a, i, is, met)
				}
			}
			g.words[x.a], g.words[x.b], g.words[x.c] = global(black, colour, 1, 2), global(black, colour, 1, 2), global(black, colour, 0, 2)
			if all := m.All(); !slices.Equal(all, g.words) {
				t.Errorf("colour %d, from %d: left %v; want %v", colour, x.a, all, g.words)
			}
		}
	}
}

// P21.1: which headers of a block are read, by its entry: told is behind each one's touch, and no word is changed.
func TestWalkByHand(t *testing.T) {
	const second = " r9 r42 t42 r44 t44 r46 t46 r48 t48 r50 t50 r52 t52 r54 t54 r56 t56 r58 t58 r60 t60 r62 t62 r64 t64 r66 t66 r68 t68 r70 t70 r72 t72"
	for _, x := range []struct {
		name  string
		entry uint64
		acts  string
	}{
		{"Slack", 0, "r8"},
		{"Small of the class 0", small(0, 2), "r8 r10 t10 r12 t12 r14 t14 r16 t16 r18 t18 r20 t20 r22 t22 r24 t24 r26 t26 r28 t28 r30 t30 r32 t32 r34 t34 r36 t36 r38 t38 r40 t40"},
		{"Small of the class 1", small(1, 63), "r8 r10 t10 r13 t13 r16 t16 r19 t19 r22 t22 r25 t25 r28 t28 r31 t31 r34 t34 r37 t37"},
		{"Small of the class 2", small(2, 0), "r8 r10 t10 r15 t15 r20 t20 r25 t25 r30 t30 r35 t35"},
		{"Small of the class 3", small(3, 1), "r8 r10 t10 r19 t19 r28 t28"},
		{"Head of one block", large(1, 5), "r8 r10 t10"},
		{"Head of two blocks", large(2, 0), "r8 r10 t10"},
		{"Head of three blocks", large(3, 63), "r8 r10 t10"},
		{"Tail", 3, "r8"},
		{"Emptied", 4 + 128*2, "r8"},
		{"Spent", 5 + 32*2 + 128*3, "r8"},
		{"a kind that there is not", 6, "r8"},
		{"Small with a run", small(1, 0) + 32, "r8"},
		{"Head without a run", 2, "r8"},
		{"Small of no owner", small(1, 0) + 1<<13, "r8"},
	} {
		words := map[int]uint64{10: global(grey, 0, 1, 1), 11: 12, 12: 1 << 63, 13: head(2, 0, 0, 0), 15: head(3, 1, 0, 0), 28: 1, 42: 32}
		byHand(t, 0, x.entry, small(0, 0), words).holds(t, x.name, walks, x.acts+second, false, nil)
	}
}

// P21.1: what is told: the place, the block, that one's entry, and the word, whatever it is.
func TestTold(t *testing.T) {
	type met struct {
		at, block int
		e         table.Entry
		w         uint64
	}
	g := byHand(t, 0, small(3, 7), large(1, 63), map[int]uint64{10: 15, 19: 1 << 60, 28: 33, 42: head(2, 63, 9, 95) + markBit})
	m, _ := arena.New(74)
	for at, w := range g.words {
		m.Write(at, w)
	}
	var is []met
	before, touched := m.Touched(), []uint64{}
	Walk(m, g.p.l, func(at, block int, e table.Entry, w uint64) {
		is = append(is, met{at, block, e, w})
		touched = append(touched, m.Touched()-before)
		if m.Last() != at {
			t.Errorf("at %d: touched was %d", at, m.Last())
		}
	})
	of, large := table.Entry{Kind: table.Small, Class: 3, Owner: 7}, table.Entry{Kind: table.Head, Run: 1, Owner: 63}
	want := []met{{10, 0, of, 15}, {19, 0, of, 1 << 60}, {28, 0, of, 33}, {42, 1, large, head(2, 63, 9, 95) + markBit}}
	if !slices.Equal(is, want) || !slices.Equal(touched, []uint64{2, 3, 4, 6}) {
		t.Errorf("told %v, behind %v touches; want %v", is, touched, want)
	}
}

// P21.1: what changes meanwhile is met as it is then: a header, and another block's entry; but a block of which the entry was read is walked by that.
func TestWalkChanges(t *testing.T) {
	const rest = " r15 t15 r20 t20 r25 t25 r30 t30 r35 t35"
	for _, x := range []struct {
		name  string
		at    int
		v     uint64
		acts  string
		entry uint64 // that is told of the last header
		w     uint64 // that one's word
	}{
		{"the same header", 10, 7, "r8 r10 t10 w10" + rest + " r9 r42 t42", large(1, 0), 3},
		{"a later one", 35, 99, "r8 r10 t10 w35" + rest + " r9 r42 t42", large(1, 0), 3},
		{"the last one", 42, 99, "r8 r10 t10 w42" + rest + " r9 r42 t42", large(1, 0), 99},
		{"the block's entry", 8, 0, "r8 r10 t10 w8" + rest + " r9 r42 t42", large(1, 0), 3},
		{"the block's entry, of another class", 8, small(0, 0), "r8 r10 t10 w8" + rest + " r9 r42 t42", large(1, 0), 3},
		{"the next block is given back", 9, 0, "r8 r10 t10 w9" + rest + " r9", small(2, 0), 1},
		{"the next block is carved", 9, small(3, 6), "r8 r10 t10 w9" + rest + " r9 r42 t42 r51 t51 r60 t60", small(3, 6), 0},
		{"the map", 0, 3, "r8 r10 t10 w0" + rest + " r9 r42 t42", large(1, 0), 3},
	} {
		g := byHand(t, 0, small(2, 0), large(1, 0), map[int]uint64{10: 3, 35: 1, 42: 3})
		m, want := newTape(g.words), newTape(g.words)
		with := func(m *tape) func(at, block int, entry, w uint64) {
			return func(at, block int, entry, w uint64) {
				m.tell(at, block, entry, w)
				if at == 10 {
					m.Write(x.at, x.v)
				}
			}
		}
		call(walks, m, g.p, 0, with(m))
		by(walks, want, g.p, 0, with(want))
		last := m.acts[len(m.acts)-1]
		if last.kind == read {
			last = m.acts[len(m.acts)-2]
		}
		if got := texts(m.acts); got != x.acts || !slices.Equal(m.acts, want.acts) || last.was != x.entry || last.is != x.w {
			t.Errorf("%s: %s, the last one of %d, %d; want %s, %d, %d", x.name, got, last.was, last.is, x.acts, x.entry, x.w)
		}
	}
}

// P21.1: words of an entry, all that may be, and others: which headers are read, and what is told of the entry; in the last block, too, whatever its run is.
func TestEveryEntry(t *testing.T) {
	p := lay(t, 1, 0, 3)
	for block := range 3 {
		words := make([]uint64, p.words())
		for i := range 96 {
			words[p.start(0)+i] = uint64(i)
		}
		is := map[int]int{}
		look := func(w uint64) int {
			words[p.entry(block)] = w
			m, _ := given{p, 0, words}.play(t, walks)
			return (len(m.acts) - 3) / 2
		}
		for w := range uint64(1 << 13) {
			is[look(w)]++
		}
		// Of each of 64 owners a Small one of each class, with 16, 10, 6 or 3 cells, and three Heads.
		if len(is) != 6 || is[16] != 64 || is[10] != 64 || is[6] != 64 || is[3] != 64 || is[1] != 192 {
			t.Errorf("the block %d: so many entries of which so many headers are read: %v", block, is)
		}
		for bit := 13; bit < 64; bit++ {
			for _, w := range []uint64{0, small(0, 0), small(3, 63), large(1, 0), large(3, 63)} {
				if n := look(w | 1<<bit); n != 0 {
					t.Errorf("the block %d, the entry %d: %d headers are read", block, w|1<<bit, n)
				}
			}
		}
	}
}

// P21.1: all blocks that there may be are walked, rising, each by its own entry.
func TestAllBlocks(t *testing.T) {
	for _, blocks := range []int{1, 2, 63, 64} {
		p := lay(t, 1, 8, blocks)
		words, n := make([]uint64, p.words()), 0
		for block := range blocks {
			words[p.entry(block)] = []uint64{small(block%4, block), large(1+block%3, block), 0, small(0, 63), 3}[block%5]
		}
		m, _ := given{p, 0, words}.play(t, walks)
		last := 0
		for _, a := range m.acts {
			if a.kind == told {
				if n++; a.at <= last || a.block != (a.at-p.start(0))/32 {
					t.Errorf("of %d blocks: told %d, in the block %d, behind %d", blocks, a.at, a.block, last)
				}
				last = a.at
			}
		}
		if n == 0 || len(m.acts) != blocks+2*n {
			t.Errorf("of %d blocks: %d touches, and %d told", blocks, len(m.acts)-n, n)
		}
	}
}

// P21.2: global roots, in order: what is not 0 is shaded, if it is white; what is grey, black, or no Global object stays, and so does all that is not a root's.
func TestRootsByHand(t *testing.T) {
	for colour := range uint8(2) {
		is := func(tell int) uint64 { return global(tell, colour, 1, 2) }
		for _, x := range []struct {
			name    string
			a, b    uint64
			acts    string
			changed map[int]uint64
		}{
			{"none", 0, 0, "r6 r7", nil},
			{"white", 10, 0, "r6 r10 u10 r7", map[int]uint64{10: is(grey)}},
			{"white, the second one", 0, 15, "r6 r7 r15 u15", map[int]uint64{15: is(grey)}},
			{"two", 15, 10, "r6 r15 u15 r7 r10 u10", map[int]uint64{10: is(grey), 15: is(grey)}},
			{"twice one", 10, 10, "r6 r10 u10 r7 r10", map[int]uint64{10: is(grey)}},
			{"grey, black", 20, 25, "r6 r20 r7 r25", nil},
			{"Local, Free", 30, 35, "r6 r30 r7 r35", nil},
			{"no header's", 40, 11, "r6 r40 r7 r11", nil},
			{"a block that is not walked", 42, 0, "r6 r42 u42 r7", map[int]uint64{42: is(grey)}},
			{"outside", 74, 1<<64 - 1, "r6 r74 r7 r-1", nil},
			{"itself, the phase", 6, 1, "r6 r6 r7 r1", nil},
		} {
			words := map[int]uint64{
				6: x.a, 7: x.b, 10: is(white), 11: 20, 15: is(white), 16: 20, 20: is(grey), 21: 15, 25: is(black), 26: 15,
				30: head(2, 0, 1, 1), 31: 15, 35: 0, 40: is(white) + markBit, 42: is(white),
			}
			byHand(t, colour, small(2, 0), 0, words).holds(t, x.name, rooting, x.acts, false, x.changed)
		}
	}
}

// P21.2: any number of global roots, nil ones between others, that lead anywhere.
func TestAllRoots(t *testing.T) {
	far := []uint64{0, 1, 1 << 31, 1 << 32, 1<<63 - 1, 1 << 63, 1<<64 - 1}
	pick := some(1)
	for globals := range 9 {
		for range 300 {
			p := lay(t, 1+pick(64), globals, 1)
			words := make([]uint64, p.words())
			for i := range 32 {
				words[p.start(0)+i] = global(1+pick(3), uint8(pick(2)), 0, 0) + 32*uint64(pick(64))
			}
			for g := range globals {
				words[p.root(g)] = []uint64{0, uint64(p.start(0) + pick(32)), uint64(p.start(0) + pick(4)), far[pick(len(far))], uint64(p.words() - 1 + pick(3))}[pick(5)]
			}
			for colour := range uint8(2) {
				m, _ := given{p, colour, words}.play(t, rooting)
				for g := range globals {
					if at := words[p.root(g)]; tells(m.words.Read(int(at)), colour) == white {
						t.Errorf("colour %d, %v: the root %d leads to a white one", colour, words, g)
					}
				}
			}
		}
	}
}

// P21.3: what is grey is looked into; its references in order, each one shaded behind its reading, and the object blackened behind the last one.
func TestPassByHand(t *testing.T) {
	const all = "r10 r15 r20 r25 r30 r35 r9"
	for colour := range uint8(2) {
		is := func(tell int, refs uint64) uint64 { return global(tell, colour, refs, 4) }
		for _, x := range []struct {
			name    string
			words   map[int]uint64
			acts    string
			met     bool
			changed map[int]uint64
		}{
			{"none", nil, "r8 " + all, false, nil},
			{"white", map[int]uint64{10: is(white, 1), 11: 15, 15: is(white, 0)}, "r8 " + all, false, nil},
			{"black", map[int]uint64{10: is(black, 1), 11: 15, 15: is(white, 0)}, "r8 " + all, false, nil},
			{"Local", map[int]uint64{10: head(2, 1, 1, 1), 11: 15, 15: is(white, 0)}, "r8 " + all, false, nil},
			{"Free, Listed", map[int]uint64{10: 32, 11: 15, 15: 33, 16: 15}, "r8 " + all, false, nil},
			{"marked, none's", map[int]uint64{10: is(grey, 1) + markBit, 11: 15, 15: is(white, 0)}, "r8 " + all, false, nil},
			{"of the other colour, and grey", map[int]uint64{10: is(white, 1) + greyBit, 11: 15, 15: is(white, 0)}, "r8 " + all, false, nil},
			{"grey", map[int]uint64{15: is(grey, 0)}, "r8 r10 r15 u15 r20 r25 r30 r35 r9", true, map[int]uint64{15: is(black, 0)}},
			{"grey, to nil", map[int]uint64{10: is(grey, 4)}, "r8 r10 r11 r12 r13 r14 u10 r15 r20 r25 r30 r35 r9", true, map[int]uint64{10: is(black, 4)}},
			{"to itself", map[int]uint64{10: is(grey, 1), 11: 10}, "r8 r10 r11 r10 u10 r15 r20 r25 r30 r35 r9", true, map[int]uint64{10: is(black, 1)}},
			{"to white, that has none", map[int]uint64{10: is(grey, 1), 11: 15, 15: is(white, 0)},
				"r8 r10 r11 r15 u15 u10 r15 u15 r20 r25 r30 r35 r9", true, map[int]uint64{10: is(black, 1), 15: is(black, 0)}},
			{"to what lies ahead", map[int]uint64{10: is(white, 0), 15: is(grey, 1), 16: 10},
				"r8 r10 r15 r16 r10 u10 u15 r20 r25 r30 r35 r9", true, map[int]uint64{10: is(grey, 0), 15: is(black, 1)}},
			{"to all there is", map[int]uint64{10: is(grey, 4), 11: 20, 12: 0, 13: 15, 14: 30, 15: is(grey, 1), 16: 10, 20: is(white, 0), 30: is(black, 0)},
				"r8 r10 r11 r20 u20 r12 r13 r15 r14 r30 u10 r15 r16 r10 u15 r20 u20 r25 r30 r35 r9", true,
				map[int]uint64{10: is(black, 4), 15: is(black, 1), 20: is(black, 0)}},
			{"twice to one", map[int]uint64{35: is(grey, 2), 36: 10, 37: 10, 10: is(white, 0)},
				"r8 r10 r15 r20 r25 r30 r35 r36 r10 u10 r37 r10 u35 r9", true, map[int]uint64{35: is(black, 2), 10: is(grey, 0)}},
			{"to Local, Free, none's", map[int]uint64{10: is(grey, 3), 11: 15, 12: 20, 13: 25, 15: head(2, 0, 1, 1), 16: 30, 25: is(white, 0) + markBit},
				"r8 r10 r11 r15 r12 r20 r13 r25 u10 r15 r20 r25 r30 r35 r9", true, map[int]uint64{10: is(black, 3)}},
			{"a datum is no reference", map[int]uint64{10: is(grey, 1), 11: 0, 12: 15, 15: is(white, 0)},
				"r8 r10 r11 u10 r15 r20 r25 r30 r35 r9", true, map[int]uint64{10: is(black, 1)}},
			{"to a block that is not walked", map[int]uint64{10: is(grey, 1), 11: 42, 42: is(white, 1), 43: 15},
				"r8 r10 r11 r42 u42 u10 r15 r20 r25 r30 r35 r9", true, map[int]uint64{10: is(black, 1), 42: is(grey, 1)}},
			{"in a block that is not walked", map[int]uint64{42: is(grey, 1), 43: 10, 10: is(white, 0)}, "r8 " + all, false, nil},
			{"no header's place", map[int]uint64{12: is(grey, 0), 40: is(grey, 0)}, "r8 " + all, false, nil},
		} {
			byHand(t, colour, small(2, 0), 0, x.words).holds(t, x.name, passing, x.acts, x.met, x.changed)
		}
		large := map[int]uint64{42: global(grey, colour, 2, 9), 43: 10, 44: 42, 10: is(white, 0)}
		byHand(t, colour, small(3, 0), 2+32, large).holds(t, "a large one", passing, "r8 r10 r19 r28 r9 r42 r43 r10 u10 r44 r42 u42", true,
			map[int]uint64{42: global(black, colour, 2, 9), 10: is(grey, 0)})
	}
}

// P21.3: headers of all Global objects, in both colours: what is read, and what is written; and of other words nothing more is.
func TestEveryHeader(t *testing.T) {
	p := lay(t, 1, 0, 3)
	words := make([]uint64, p.words())
	at := p.start(0)
	words[p.entry(0)] = large(3, 0)
	for size := range uint64(96) {
		for refs := range size + 1 {
			for tell := white; tell <= black; tell++ {
				for colour := range uint8(2) {
					words[at] = global(tell, colour, refs, size)
					m := newTape(words)
					met := Pass(m, p.l, colour)
					want, touches := words[at], 4
					if tell == grey {
						want, touches = global(black, colour, refs, size), 5+int(refs)
					}
					if met != (tell == grey) || m.words[at] != want || len(m.acts) != touches {
						t.Fatalf("colour %d, %d: %v, %d behind it, %s; want %d", colour, words[at], met, m.words[at], texts(m.acts), want)
					}
				}
			}
		}
	}
	for low := range uint64(1 << 11) {
		for _, high := range []uint64{0, 1, 1 << 7, 1<<7 + 1, 3 << 7, 95<<7 + 95, 96 << 7, 96<<7 + 96, 127<<7 + 127, 1 << 14, 1<<14 + 1<<7, 1 << 40, 1 << 52} {
			words[at] = low + high<<11
			for colour := range uint8(2) {
				if _, met := (given{p, colour, words}).play(t, passing); met != (tells(words[at], colour) == grey) {
					t.Fatalf("colour %d, %d: %v", colour, words[at], met)
				}
			}
		}
	}
}

// P21.3, P21.4: objects of all numbers of references, in blocks of each class, and large ones: all that they lead to is shaded, and no datum is.
func TestEverySize(t *testing.T) {
	p := lay(t, 1, 0, 12)
	for size := range 96 {
		for _, refs := range []int{0, 1, size / 2, size - 1, size} {
			if refs < 0 || refs > size {
				continue
			}
			words := make([]uint64, p.words())
			entry := []uint64{small(0, 0), small(1, 0), small(2, 0), small(2, 0), small(3, 0)}[min(size, 8)/2]
			if size > 8 {
				entry = large(1+size/32, 0)
			}
			at := p.start(9)
			words[p.entry(9)], words[at] = entry, global(grey, 1, uint64(refs), uint64(size))
			for i := range size {
				block, cell := i%9, i/9
				words[p.entry(block)] = small(0, 0)
				to := p.start(block) + 2*cell
				words[to], words[at+1+i] = global(white, 1, 0, 1), uint64(to)
			}
			g := given{p, 1, words}
			m, met := g.play(t, passing)
			shaded := 0
			for i := range size {
				if tells(m.words[int(words[at+1+i])], 1) == grey {
					shaded++
				}
			}
			if !met || shaded != refs || tells(m.words[at], 1) != black {
				t.Errorf("%d references of %d fields: %v, %d shaded", refs, size, met, shaded)
			}
			if n := g.follows(t); n != 1+min(refs, 1) {
				t.Errorf("%d references of %d fields: grey in %d passes", refs, size, n)
			}
		}
	}
}

// P21.3: references that lead outside of the memory are asked for once, and there is nothing.
func TestOutside(t *testing.T) {
	for _, to := range []uint64{74, 75, 4096, 1 << 31, 1 << 32, 1<<32 + 15, math.MaxInt, math.MaxInt - 1, 1 << 63, 1<<63 + 15, math.MaxUint64} {
		g := byHand(t, 1, small(2, 0), large(1, 1), map[int]uint64{6: to, 10: global(grey, 1, 3, 3), 11: to, 12: 42, 13: to, 42: global(white, 1, 0, 9)})
		m, met := g.play(t, passing)
		if len(m.acts) != 18 || !met || m.acts[3] != (act{kind: read, at: int(to)}) {
			t.Errorf("to %d: %v, %s", to, met, texts(m.acts))
		}
		a, _ := arena.New(74)
		for at, w := range g.words {
			a.Write(at, w)
		}
		was := a.Touched()
		Roots(a, g.p.l, 1)
		if met := Pass(a, g.p.l, 1); !met || !slices.Equal(a.All(), m.words) || a.Touched()-was != 18 {
			t.Errorf("to %d: %v, %v, touched %d times; want %v", to, met, a.All(), a.Touched()-was, m.words)
		}
	}
}

// P21.1 to P21.3: a memory that is shorter than the layout, or longer.
func TestOtherLengths(t *testing.T) {
	words := map[int]uint64{6: 15, 7: 72, 10: global(grey, 0, 3, 4), 11: 15, 12: 72, 13: 80, 15: global(white, 0, 0, 0), 42: global(grey, 0, 31, 31), 72: 10, 73: 15}
	for n := range 90 {
		g := byHand(t, 0, small(2, 0), large(1, 0), words)
		g.words = append(g.words, make([]uint64, 16)...)[:n]
		if n > 80 {
			g.words[80] = global(white, 0, 0, 0)
		}
		for which := walks; which <= passing; which++ {
			if _, met := g.play(t, which); met != (which == passing && n > 10) {
				t.Errorf("%d words, the call %d: %v", n, which, met)
			}
		}
	}
}

// P21.1 to P21.3: without a memory nothing is touched, and nothing is told.
func TestNoMemory(t *testing.T) {
	p := lay(t, 64, 8, 64)
	for _, l := range []layout.Layout{{}, p.l} {
		for colour := range 256 {
			Walk(nil, l, func(int, int, table.Entry, uint64) { t.Error("told") })
			Walk(nil, l, nil)
			Roots(nil, l, uint8(colour))
			if Pass(nil, l, uint8(colour)) {
				t.Errorf("colour %d: grey without a memory", colour)
			}
		}
	}
	var a *arena.Arena
	Walk(a, p.l, func(int, int, table.Entry, uint64) { t.Error("told") })
	Walk(a, p.l, nil)
	Roots(a, p.l, 1)
	if Pass(a, p.l, 1) {
		t.Error("grey in an arena that is nil")
	}
}

// P21.1 to P21.3: a zero layout has no global roots and no blocks: nothing is touched.
func TestNoLayout(t *testing.T) {
	for colour := range uint8(3) {
		m := newTape([]uint64{1, 2, 3, 3 + greyBit, 5, 6})
		Walk(m, layout.Layout{}, func(int, int, table.Entry, uint64) { t.Error("told") })
		Roots(m, layout.Layout{}, colour)
		if Pass(m, layout.Layout{}, colour) || len(m.acts) != 0 {
			t.Errorf("colour %d: %s", colour, texts(m.acts))
		}
	}
}

// P21.1: where nobody is there to be told, the arena is walked all the same.
func TestNobodyTold(t *testing.T) {
	g := byHand(t, 0, small(3, 0), large(1, 1), map[int]uint64{10: 3, 42: 15})
	m := newTape(g.words)
	if Walk(m, g.p.l, nil); texts(m.acts) != "r8 r10 r19 r28 r9 r42" || !slices.Equal(m.words, g.words) {
		t.Errorf("%s, %v", texts(m.acts), m.words)
	}
}

// P21.2, P21.3: in a colour that there is not nothing is white, or grey: roots are read, and the arena is walked, and nothing is changed.
func TestOtherColours(t *testing.T) {
	for colour := 2; colour < 256; colour++ {
		g := byHand(t, uint8(colour), small(3, 0), large(1, 1), map[int]uint64{6: 10, 7: 19, 10: 3, 19: 7, 28: 11, 42: 15})
		g.holds(t, "roots", rooting, "r6 r7", false, nil)
		g.holds(t, "a pass", passing, "r8 r10 r19 r28 r9 r42", false, nil)
	}
}

// P21.1: an object of the owner that the layout has not, or of another one than its block's, is met as any other.
func TestOwners(t *testing.T) {
	for owner := range 64 {
		w, _ := word.Put(word.Head{Kind: word.Global, Grey: true, Owner: uint8(owner), Refs: 1, Size: 1})
		g := byHand(t, 0, small(3, 63-owner), large(1, owner/2), map[int]uint64{10: w, 11: 42, 42: global(white, 0, 0, 95)})
		g.holds(t, "an owner", passing, "r8 r10 r11 r42 u42 u10 r19 r28 r9 r42 u42", true, map[int]uint64{10: w - greyBit, 42: global(black, 0, 0, 95)})
	}
}
