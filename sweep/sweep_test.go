package sweep

import (
	"slices"
	"strings"
	"testing"

	"demesne/api"
	"demesne/arena"
	"demesne/give"
	"demesne/layout"
	"demesne/list"
	"demesne/table"
	"demesne/word"
)

// put is the word of a header that may be.
func put(t *testing.T, h word.Head) uint64 {
	t.Helper()
	w, e := word.Put(h)
	if e != api.OK {
		t.Fatalf("Put(%+v): %d", h, e)
	}
	return w
}

// sixteen is an arena of two blocks, of which the first has 16 cells of the owner 0: all of them are Listed, and all of their fields are something; and where these cells begin.
func sixteen(t *testing.T) (*arena.Arena, layout.Layout, []int) {
	t.Helper()
	l, e := layout.New(71, 1, 1)
	m, f := arena.New(71)
	if e != api.OK || f != api.OK || l.Blocks() != 2 {
		t.Fatal(e, f, l.Blocks())
	}
	give.Begin(m, l)
	give.Claim(m, l, 1)
	give.Set(m, l, 0, table.Entry{Kind: table.Small})
	var at []int
	for i := range 16 {
		at = append(at, l.Start(0)+2*i)
		m.Write(at[i], put(t, word.Head{Kind: word.Listed}))
		m.Write(at[i]+1, uint64(100+i))
	}
	return m, l, at
}

// P19.1, P19.2: the chapter's first example: a block of 16 cells, of which two have Local objects, one marked.
func TestExampleOneMarked(t *testing.T) {
	for _, walks := range []bool{false, true} {
		m, l, at := sixteen(t)
		want := m.All()
		object := word.Head{Kind: word.Local, Refs: 1, Size: 1}
		m.Write(at[4], put(t, object))
		want[at[9]] = put(t, object)
		object.Marked = true
		m.Write(at[9], put(t, object))
		// Some of the others are on the list, one is Free.
		m.Write(at[7], put(t, word.Head{Kind: word.Free}))
		r := list.New()
		for _, i := range []int{3, 12, 0} {
			r.Push(0, at[i])
		}
		if e := Sweep(m, l, 0, r, walks); e != api.OK || !slices.Equal(m.All(), want) {
			t.Errorf("%d, %v; want %v", e, m.All(), want)
		}
		if is := rowsOf(r); !is.alike(rows{{at[7], at[4], at[0], at[12], at[3]}}) {
			t.Errorf("the list is %v", is)
		}
	}
}

// P19.1, P19.2: the chapter's second example: none marked, the collector does not walk; and one that does.
func TestExampleNoneMarked(t *testing.T) {
	for _, walks := range []bool{false, true} {
		m, l, at := sixteen(t)
		r := list.New()
		for i := range at {
			if i == 4 || i == 9 {
				m.Write(at[i], put(t, word.Head{Kind: word.Local, Size: 1}))
			} else {
				r.Push(0, at[i])
			}
		}
		wantMap, wantEntry := uint64(3), table.Entry{}
		if walks {
			wantMap, wantEntry = 2, table.Entry{Kind: table.Emptied}
		}
		e := Sweep(m, l, 0, r, walks)
		if is := give.Entry(m, l, 0); e != api.OK || m.Read(layout.Map) != wantMap || is != wantEntry || r.Len(0) != 0 {
			t.Errorf("walks %v: %d, the map %d, the entry %+v, the list %v; want %d, %+v", walks, e, m.Read(layout.Map), is, r.All(0), wantMap, wantEntry)
		}
	}
}

// hand is the owner's number in what is laid by hand: the blocks' entries are at 8, 9 and 10, the blocks begin at 11, 43 and 75.
const hand = 3

// local is the header of one of the owner's Local objects, marked that of one that is marked.
func local(refs, size uint64) uint64  { return head(2, hand, refs, size) }
func marked(refs, size uint64) uint64 { return local(refs, size) + markBit }

// byHand lays words out by hand: of a map, of entries, and others.
func byHand(t *testing.T, bits uint64, entries [3]uint64, words map[int]uint64, free rows, walks bool) given {
	t.Helper()
	p := lay(t, 4, 1, 3)
	g := given{p: p, owner: hand, words: p.filled(bits), free: free, walks: walks}
	if p.entry(0) != 8 || p.start(0) != 11 || p.start(1) != 43 || p.start(2) != 75 {
		t.Fatal("it is not laid so")
	}
	copy(g.words[8:], entries[:])
	for at, w := range words {
		g.words[at] = w
	}
	return g
}

// holds sweeps, and holds all that is done against a text by hand, and against the model.
func (g given) holds(t *testing.T, name, acts string, free rows) {
	t.Helper()
	m, is := g.play(t)
	if got := texts(m.acts); got != acts {
		t.Errorf("%s, walks %v: %s; want %s", name, g.walks, got, acts)
	}
	if !is.alike(free) {
		t.Errorf("%s, walks %v: the list is %v; want %v", name, g.walks, is, free)
	}
}

// three are three cells of the class 3 in the first block.
func three(a, b, c uint64) map[int]uint64 { return map[int]uint64{11: a, 20: b, 29: c} }

// P19.1: a Small block of the owner, cell by cell, touch by touch; r reads, w writes, + and - are what is seen of the list behind that.
// Listed of the owner is 97, one of its Local objects of one datum 262242.
func TestCellsByHand(t *testing.T) {
	other, shared := head(2, 2, 1, 1), head(3, hand, 1, 1)
	for _, x := range []struct {
		name    string
		a, b, c uint64
		free    []int
		acts    string
		left    []int // what is on the list behind
	}{
		{"all marked", marked(0, 1), marked(0, 1), marked(0, 1), nil, "r11 w11=262242 r20 w20=262242 r29 w29=262242", nil},
		{"one goes", marked(0, 1), local(8, 8), marked(0, 1), nil, "r11 w11=262242 r20 w20=97 +20 r29 w29=262242", []int{20}},
		{"two go", local(0, 0), marked(0, 1), local(1, 1), nil, "r11 w11=97 +11 r20 w20=262242 r29 w29=97 +29", []int{29, 11}},
		{"Free ones", free(hand), marked(0, 1), free(hand), nil, "r11 w11=97 +11 r20 w20=262242 r29 w29=97 +29", []int{29, 11}},
		{"Free ones of other owners", 0, free(63), marked(0, 1), nil, "r11 w11=97 +11 r20 w20=97 +20 r29 w29=262242", []int{20, 11}},
		{"ahead of those that are there", local(1, 1), 97, marked(0, 1), []int{20}, "r11 w11=97 +11 r20 r29 w29=262242", []int{11, 20}},
		{"Listed ones stay off the list", 97, 97, marked(0, 1), nil, "r11 r20 r29 w29=262242", nil},
		{"Listed ones stay on the list", 97, marked(0, 1), 97, []int{11, 29}, "r11 r20 w20=262242 r29", []int{11, 29}},
		{"there already", free(hand), marked(0, 1), local(0, 0), []int{29, 90, 11}, "r11 w11=97 r20 w20=262242 r29 w29=97", []int{29, 90, 11}},
		{"Global ones", shared, shared + colourBit + greyBit, head(3, 0, 0, 0), nil, "r11 r20 r29", nil},
		{"of other owners", other, other + markBit, head(2, hand+32, 0, 0), nil, "r11 r20 r29", nil},
		{"a Global one among what goes", local(0, 1), shared, free(hand), nil, "r11 w11=97 +11 r20 r29 w29=97 +29", []int{29, 11}},
		{"another one's among what goes", local(0, 1), other, 97, []int{29}, "r11 w11=97 +11 r20 r29", []int{11, 29}},
		{"no headers", free(hand) + 1<<18, listed(hand) + markBit, local(1, 0), nil, "r11 r20 r29", nil},
		{"no headers, either", local(0, 0) + colourBit, 1 << 25, 1<<64 - 1, nil, "r11 r20 r29", nil},
		{"no header among what goes", free(hand), local(0, 0) + greyBit, 97, nil, "r11 w11=97 +11 r20 r29", []int{11}},
		{"no header first", 1 << 40, local(0, 0), 97, nil, "r11 r20 w20=97 +20 r29", []int{20}},
		{"no header last", 97, local(0, 0), 1 << 40, nil, "r11 r20 w20=97 +20 r29", []int{20}},
	} {
		for _, walks := range []bool{false, true} {
			g := byHand(t, 4, [3]uint64{small(3, hand), 0, tail}, three(x.a, x.b, x.c), rows{3: x.free}, walks)
			g.holds(t, x.name, "r8 "+x.acts+" r9 r10", rows{3: x.left})
		}
	}
}

// P19.1: a Small block of which all cells are Listed, as they were read or written: its entry is Emptied, 388, and at once behind that touch the list has none of its places.
func TestEmptiedByHand(t *testing.T) {
	for _, x := range []struct {
		name    string
		a, b, c uint64
		free    rows
		acts    string
		left    rows
	}{
		{"all go", local(0, 0), local(1, 2), local(8, 8), rows{}, "r11 w11=97 +11 r20 w20=97 +20 r29 w29=97 +29 w8=388 -11 -20 -29", rows{}},
		{"all Free", free(hand), free(hand), 0, rows{}, "r11 w11=97 +11 r20 w20=97 +20 r29 w29=97 +29 w8=388 -11 -20 -29", rows{}},
		{"all Listed", 97, 97, 97, rows{3: {29, 20, 11}}, "r11 r20 r29 w8=388 -11 -20 -29", rows{}},
		{"none of them on the list", 97, 97, 97, rows{}, "r11 r20 r29 w8=388", rows{}},
		{"one of them on the list", 97, 97, 97, rows{3: {20}}, "r11 r20 r29 w8=388 -20", rows{}},
		{"Listed of another owner", 97, listed(0), listed(63), rows{3: {11}}, "r11 r20 r29 w8=388 -11", rows{}},
		{"the last one goes", 97, 97, local(0, 0), rows{3: {20, 11}}, "r11 r20 r29 w29=97 +29 w8=388 -11 -20 -29", rows{}},
		{"the first one goes", local(0, 0), 97, 97, rows{3: {20, 29}}, "r11 w11=97 +11 r20 r29 w8=388 -11 -20 -29", rows{}},
		{"others stay on the list", 97, free(hand), 97, rows{3: {84, 11, 75, 29}, 1: {43, 46}}, "r11 r20 w20=97 +20 r29 w8=388 -11 -20 -29", rows{3: {84, 75}, 1: {43, 46}}},
		{"up to the block's ends", 97, 97, 97, rows{3: {10, 11, 43}, 0: {42, 12}, 1: {38, 44}, 2: {1, 19, 1 << 40}}, "r11 r20 r29 w8=388 -12 -42 -38 -19 -11", rows{3: {10, 43}, 1: {44}, 2: {1, 1 << 40}}},
	} {
		g := byHand(t, 4, [3]uint64{small(3, hand), 0, tail}, three(x.a, x.b, x.c), x.free, true)
		g.holds(t, x.name, "r8 "+x.acts+" r9 r10", x.left)
		g.walks = false
		g.holds(t, x.name, "r8 "+x.acts+" w8=0 u0=5 r9 r10", x.left)
	}
}

// P19.1: large objects of the owner, and blocks of its own that wait, touch by touch.
func TestBlocksByHand(t *testing.T) {
	type entries [3]uint64
	big, one := local(9, 95), uint64(1<<40)
	for _, x := range []struct {
		name    string
		bits    uint64
		entries entries
		at      int // where the header lies
		header  uint64
		walked  string // what is done while the collector walks
		acts    string // and what while it does not
	}{
		{"one block", 0, entries{large(1, hand), 0, 0}, 11, big, "r8 r11 w11=96 w8=421 r9 r10", "r8 r11 w11=96 w8=421 w8=0 u0=1 r9 r10"},
		{"two blocks", 4, entries{large(2, hand), tail, 0}, 11, local(0, 63), "r8 r11 w11=96 w8=453 r9 r10", "r8 r11 w11=96 w8=453 w9=0 w8=0 u0=7 r9 r10"},
		{"three blocks", 0, entries{large(3, hand), tail, tail}, 11, big, "r8 r11 w11=96 w8=485 r9 r10", "r8 r11 w11=96 w8=485 w10=0 w9=0 w8=0 u0=7 r9 r10"},
		{"the last two", 1, entries{0, large(2, hand), tail}, 43, big, "r8 r9 r43 w43=96 w9=453 r10", "r8 r9 r43 w43=96 w9=453 w10=0 w9=0 u0=7 r10"},
		{"the last one", 0, entries{tail, tail, large(1, hand)}, 75, local(0, 9), "r8 r9 r10 r75 w75=96 w10=421", "r8 r9 r10 r75 w75=96 w10=421 w10=0 u0=4"},
		{"marked", 0, entries{large(3, hand), tail, tail}, 11, marked(1, 95), "r8 r11 w11=24905826 r9 r10", ""},
		{"Global", 0, entries{large(2, hand), tail, 0}, 11, head(3, hand, 1, 40), "r8 r11 r9 r10", ""},
		{"of another owner", 0, entries{large(2, hand), tail, 0}, 11, head(2, 2, 1, 40), "r8 r11 r9 r10", ""},
		{"of another owner, and marked", 0, entries{large(1, hand), tail, 0}, 11, head(2, 2, 1, 9) + markBit, "r8 r11 r9 r10", ""},
		{"Free", 0, entries{large(2, hand), tail, 0}, 11, free(hand), "r8 r11 r9 r10", ""},
		{"Listed", 0, entries{large(2, hand), tail, 0}, 11, listed(hand), "r8 r11 r9 r10", ""},
		{"no header", 0, entries{large(2, hand), tail, 0}, 11, big + greyBit, "r8 r11 r9 r10", ""},
		{"0", 0, entries{large(2, hand), tail, 0}, 11, 0, "r8 r11 r9 r10", ""},
		{"a small object", 0, entries{large(1, hand), tail, 0}, 11, local(0, 0), "r8 r11 w11=96 w8=421 r9 r10", "r8 r11 w11=96 w8=421 w8=0 u0=1 r9 r10"},
		{"more blocks than there are", 0, entries{0, large(3, hand), tail}, 43, big, "r8 r9 r43 w43=96 w9=485 r10", ""},
		{"Emptied", 6, entries{emptied(hand), 0, 0}, 11, one, "r8 r9 r10", "r8 w8=0 u0=7 r9 r10"},
		{"Emptied, all", 0, entries{emptied(hand), emptied(hand), emptied(hand)}, 11, one, "r8 r9 r10", "r8 w8=0 u0=1 r9 w9=0 u0=3 r10 w10=0 u0=7"},
		{"Emptied, though it is free", 3, entries{emptied(hand), 0, 0}, 11, one, "r8 r9 r10", "r8 w8=0 u0=3 r9 r10"},
		{"Spent", 0, entries{0, spent(1, hand), 0}, 11, one, "r8 r9 r10", "r8 r9 w9=0 u0=2 r10"},
		{"Spent, two", 1, entries{0, spent(2, hand), tail}, 11, one, "r8 r9 r10", "r8 r9 w10=0 w9=0 u0=7 r10"},
		{"Spent, three", 8, entries{spent(3, hand), tail, tail}, 11, one, "r8 r9 r10", "r8 w10=0 w9=0 w8=0 u0=15 r9 r10"},
		{"Spent, and what it has", 0, entries{spent(2, hand), large(1, hand), emptied(hand)}, 43, big, "r8 r9 r43 w43=96 w9=421 r10", "r8 w9=0 w8=0 u0=3 r9 r10 w10=0 u0=7"},
		{"Spent, more than there are", 0, entries{0, 0, spent(2, hand)}, 11, one, "r8 r9 r10", ""},
		{"nothing", 7, entries{0, 0, 0}, 11, big, "r8 r9 r10", ""},
		{"Tails", 0, entries{tail, tail, tail}, 11, big, "r8 r9 r10", ""},
		{"no entries", 0, entries{6, 7, 1 << 13}, 11, big, "r8 r9 r10", ""},
		{"other owners' ones", 0, entries{emptied(2), emptied(0), emptied(hand + 32)}, 11, big, "r8 r9 r10", ""},
		{"other owners' larger ones", 0, entries{large(1, 2), spent(1, 0), large(1, hand+32)}, 11, big, "r8 r9 r10", ""},
		{"other owners' cells", 0, entries{small(0, 2), small(3, 0), small(1, hand+32)}, 11, local(0, 0), "r8 r9 r10", ""},
	} {
		if x.acts == "" {
			x.acts = x.walked
		}
		// What is on the list in such blocks is not asked.
		r := rows{{11, 43}, nil, {75}}
		byHand(t, x.bits, x.entries, map[int]uint64{x.at: x.header}, r, true).holds(t, x.name, x.walked, r)
		byHand(t, x.bits, x.entries, map[int]uint64{x.at: x.header}, r, false).holds(t, x.name, x.acts, r)
	}
}

// P19.1: the blocks are swept one behind the other, rising, each one as its entry says then.
func TestRowByHand(t *testing.T) {
	words := three(97, local(0, 0), 97)
	words[43], words[75], words[80], words[85], words[90], words[95], words[100] = local(0, 9), marked(0, 0), 97, free(hand), head(3, 0, 1, 1), local(0, 4), 97
	e, r := [3]uint64{small(3, hand), large(1, hand), small(2, hand)}, rows{2: {100}, 3: {29, 11}}
	byHand(t, 0, e, words, r, false).holds(t, "a row",
		"r8 r11 r20 w20=97 +20 r29 w8=388 -11 -20 -29 w8=0 u0=1 r9 r43 w43=96 w9=421 w9=0 u0=3"+
			" r10 r75 w75=98 r80 r85 w85=97 +85 r90 r95 w95=97 +95 r100", rows{2: {95, 85, 100}})
	byHand(t, 0, e, words, r, true).holds(t, "a row",
		"r8 r11 r20 w20=97 +20 r29 w8=388 -11 -20 -29 r9 r43 w43=96 w9=421"+
			" r10 r75 w75=98 r80 r85 w85=97 +85 r90 r95 w95=97 +95 r100", rows{2: {95, 85, 100}})
}

// P19.1: cells of all classes, where they begin, and no others: not what is behind them in them, and not what is left of a block.
func TestClassesByHand(t *testing.T) {
	for class, cells := range [][]int{
		{11, 13, 15, 17, 19, 21, 23, 25, 27, 29, 31, 33, 35, 37, 39, 41},
		{11, 14, 17, 20, 23, 26, 29, 32, 35, 38},
		{11, 16, 21, 26, 31, 36},
		{11, 20, 29},
	} {
		for kept := range cells {
			// All words look like headers: of objects that go, or that are marked, or of Free cells.
			for _, w := range []uint64{local(0, 0), marked(0, 0), free(hand)} {
				words := map[int]uint64{}
				for at := 11; at < 43; at++ {
					words[at] = w
				}
				var left []int
				acts := "r8"
				for i, at := range cells {
					words[at] = local(0, 0)
					is := act{write, at, 0, 97}
					if i == kept {
						words[at], is.is = marked(0, 0), 98
					}
					acts += " " + texts([]act{{read, at, 0, 0}, is})
					if i != kept {
						acts += " " + texts([]act{{kind: came, at: at}})
						left = append([]int{at}, left...)
					}
				}
				var r rows
				r[class] = left
				byHand(t, 0, [3]uint64{small(class, hand), 0, 0}, words, rows{}, false).holds(t, "cells", acts+" r9 r10", r)
			}
		}
	}
}

// P19.1: each class's block that is emptied, first, in the middle, last: the list has none of its places, but all others'.
func TestEmptiedOfAllClasses(t *testing.T) {
	p := lay(t, 1, 0, 3)
	for class := range 4 {
		for block := range 3 {
			for _, walks := range []bool{false, true} {
				g := given{p: p, words: p.filled(0), walks: walks}
				for b := range 3 {
					g.words[p.entry(b)] = small(class, 0)
					cells := p.cells(b, class)
					for _, at := range cells {
						g.words[at] = listed(0)
					}
					g.free[class] = append(g.free[class], cells...)
					if b != block {
						g.words[cells[b]] = head(3, 0, 0, 0)
						g.free[class] = slices.DeleteFunc(g.free[class], func(at int) bool { return at == cells[b] })
					}
				}
				m, is := g.play(t)
				g.follows(t, m.words, is)
				if n := len(g.free[class]) - len(is[class]); n != 32/cellWords()[class] {
					t.Errorf("class %d, block %d: %d places are on the list no more", class, block, n)
				}
			}
		}
	}
}

// P19.1: whether the collector walks is as Sweep is told, whatever the phase, the request, the answers and the global roots are; none of these is touched.
func TestWalksAsTold(t *testing.T) {
	for _, w := range []uint64{0, 1, 2, 3, 4, 5, 6, 7, 8, 1 << 40, 1<<64 - 1} {
		words := three(97, local(0, 0), 97)
		for at := 1; at < 8; at++ {
			words[at] = w
		}
		e := [3]uint64{small(3, hand), emptied(hand), spent(1, hand)}
		byHand(t, 0, e, words, rows{}, true).holds(t, "it walks", "r8 r11 r20 w20=97 +20 r29 w8=388 -20 r9 r10", rows{})
		byHand(t, 0, e, words, rows{}, false).holds(t, "it does not walk", "r8 r11 r20 w20=97 +20 r29 w8=388 -20 w8=0 u0=1 r9 w9=0 u0=3 r10 w10=0 u0=7", rows{})
	}
}

// P19.1: the errors, in their order: no memory, no list; an owner that is none of the layout's threads. Nothing is touched, and the list is as it was.
func TestErrors(t *testing.T) {
	for _, threads := range []int{1, 2, 3, 63, 64} {
		p := lay(t, threads, 1, 2)
		words := p.filled(0)
		for owner := range 256 {
			// What that owner would have there goes, if it had a thread.
			words[p.entry(0)], words[p.entry(1)] = small(3, owner), emptied(owner)
			for i, at := range p.cells(0, 3) {
				words[at] = []uint64{head(2, owner, 0, 0), free(owner), listed(owner)}[i]
			}
			for _, walks := range []bool{false, true} {
				for _, l := range []layout.Layout{p.l, {}} {
					want := api.OK
					if owner >= threads || l == (layout.Layout{}) {
						want = api.ErrArg
					}
					r := rows{{9}, nil, {7, 8}, {p.start(0) + 18}}
					free, m := listing(r), newTape(words, nil)
					if e := Sweep(nil, l, uint8(owner), free, walks); e != api.ErrNil || !rowsOf(free).alike(r) {
						t.Fatalf("owner %d of %d, no memory: %d, the list %v", owner, threads, e, rowsOf(free))
					}
					if e := Sweep(nil, l, uint8(owner), nil, walks); e != api.ErrNil {
						t.Fatalf("owner %d of %d, no memory, no list: %d", owner, threads, e)
					}
					if e := Sweep(m, l, uint8(owner), nil, walks); e != api.ErrNil || len(m.acts) != 0 {
						t.Fatalf("owner %d of %d, no list: %d, %s", owner, threads, e, texts(m.acts))
					}
					e := Sweep(m, l, uint8(owner), free, walks)
					if e != want || want != api.OK && (len(m.acts) != 0 || !slices.Equal(m.words, words) || !rowsOf(free).alike(r)) {
						t.Fatalf("owner %d of %d: %d, %s; want %d", owner, threads, e, texts(m.acts), want)
					}
				}
			}
		}
	}
}

// P19.1: a list of which nothing was made but its room is an empty one; an arena that is nil has nothing.
func TestNothing(t *testing.T) {
	g := byHand(t, 0, [3]uint64{small(3, hand), 0, 0}, three(local(0, 0), marked(0, 0), free(hand)), rows{}, false)
	var l list.List
	m := newTape(g.words, nil)
	if e := Sweep(m, g.p.l, hand, &l, false); e != api.OK || !rowsOf(&l).alike(rows{3: {29, 11}}) {
		t.Errorf("%d, the list %v", e, rowsOf(&l))
	}
	var none *arena.Arena
	if e := Sweep(none, g.p.l, hand, &l, false); e != api.OK || !rowsOf(&l).alike(rows{3: {29, 11}}) {
		t.Errorf("an arena that is nil: %d, the list %v", e, rowsOf(&l))
	}
}

// P19.1: of a memory that is shorter than the layout says what there is not is 0: it ends, and goes by that.
func TestCutOff(t *testing.T) {
	for n := range 108 {
		for _, walks := range []bool{false, true} {
			words := three(local(1, 1), marked(1, 1), free(hand))
			words[75] = local(9, 9)
			g := byHand(t, 0, [3]uint64{small(3, hand), small(0, hand), large(1, hand)}, words, rows{3: {2, 200}}, walks)
			g.words = g.words[:min(n, len(g.words))]
			g.play(t)
		}
	}
}

// P19.1, P19.2: swept once more, all that was marked goes, too; and what is swept a third time is as it was.
func TestAgain(t *testing.T) {
	for _, walks := range []bool{false, true} {
		g := byHand(t, 0, [3]uint64{small(3, hand), large(1, hand), 0}, three(marked(0, 0), local(0, 0), 97), rows{3: {29}}, walks)
		g.words[43] = marked(0, 30)
		for _, acts := range []string{
			"r8 r11 w11=98 r20 w20=97 +20 r29 r9 r43 w43=7864418 r10",
			"r8 r11 w11=97 +11 r20 r29 w8=388 -11 -20 -29 w8=0 u0=1 r9 r43 w43=96 w9=421 w9=0 u0=3 r10",
			"r8 r9 r10",
		} {
			if walks {
				acts = strings.NewReplacer(" w8=0 u0=1", "", " w9=0 u0=3", "").Replace(acts)
			}
			m, is := g.play(t)
			if got := texts(m.acts); got != acts {
				t.Errorf("walks %v: %s; want %s", walks, got, acts)
			}
			g.words, g.free = m.words, is
		}
	}
}
