package mark

import (
	"math"
	"slices"
	"testing"

	"demesne/api"
	"demesne/arena"
	"demesne/give"
	"demesne/layout"
	"demesne/shade"
	"demesne/table"
	"demesne/word"
)

// put is the word of a header that may be.
func put(t *testing.T, h word.Head) uint64 {
	t.Helper()
	w, e := word.Put(h)
	if e != api.OK {
		t.Fatalf("Put(%+v): %d", h, e)
	}
	return w
}

// P18.1, P18.2: the chapter's example, over an arena: room 1, and all greater ones.
func TestExample(t *testing.T) {
	l, _ := layout.New(100, 3, 1)
	at := l.Start(1)
	a, b, c, g := at, at+3, at+6, at+9
	local := func(refs uint8, marked bool) uint64 {
		return put(t, word.Head{Kind: word.Local, Owner: 2, Refs: refs, Size: 2, Marked: marked})
	}
	for room := 1; room <= api.MaxMark; room++ {
		m, _ := arena.New(100)
		give.Begin(m, l)
		give.Set(m, l, 1, table.Entry{Kind: table.Small, Class: 1, Owner: 2})
		for at, w := range map[int]uint64{
			a: local(2, false), a + 1: uint64(b), a + 2: uint64(c),
			b: local(0, false),
			c: local(1, false), c + 1: uint64(g),
			g: put(t, word.Head{Kind: word.Global, Colour: 1, Owner: 1, Refs: 1, Size: 1}), g + 1: uint64(a),
		} {
			m.Write(at, w)
		}
		want, all := m.All(), []int(nil)
		want[a], want[b], want[c] = local(2, true), local(0, true), local(1, true)
		k := Marker{M: m, L: l, Owner: 2, Room: room, Global: func(at int) { all = append(all, at) }}
		if e := k.Mark([]int{a}); e != api.OK || !slices.Equal(m.All(), want) || !slices.Equal(all, []int{g}) {
			t.Errorf("room %d: %d, %v, told %v; want %v, told %v", room, e, m.All(), all, want, g)
		}
	}
}

// hand is the owner's number in what is laid by hand: the header of a, b, c .. is at 10, 15, 20 .. of the first block, whose entry is at 8; the second one's entry is at 9, and it begins at 42.
const hand = 3

// local is the header of one of the owner's Local objects.
func local(refs, size uint64) uint64 { return head(2, hand, refs, size) }

// byHand lays words out by hand, in blocks of these entries.
func byHand(t *testing.T, room int, from []int, first, second uint64, words map[int]uint64) given {
	t.Helper()
	p := lay(t, 4, 1, 2)
	g := given{p: p, owner: hand, room: room, words: make([]uint64, p.words()), from: from}
	if p.entry(0) != 8 || p.entry(1) != 9 || p.start(0) != 10 || p.start(1) != 42 {
		t.Fatal("it is not laid so")
	}
	for at, w := range words {
		g.words[at] = w
	}
	g.words[8], g.words[9] = first, second
	return g
}

// holds marks, and holds all that is done against a text by hand, and against the model.
func (g given) holds(t *testing.T, name, acts string) *tape {
	t.Helper()
	m, _ := g.play(t)
	if got := texts(m.acts); got != acts {
		t.Errorf("%s, room %d: %s; want %s", name, g.room, got, acts)
	}
	for _, a := range m.acts {
		if a.kind == write && (!owns(hand, a.was) || a.was&markBit != 0 || a.is != a.was|markBit) {
			t.Errorf("%s, room %d: at %d %d was written as %d", name, g.room, a.at, a.was, a.is)
		}
	}
	return m
}

// P18.1: places that are treated, and objects that are looked into, touch by touch, where nothing overflows; r reads, w writes, g tells of a Global one.
func TestByHand(t *testing.T) {
	global := head(3, hand, 1, 1)
	for _, x := range []struct {
		name  string
		from  []int
		room  int // the least one in which nothing overflows
		words map[int]uint64
		acts  string
	}{
		{"nothing", []int{0, 0}, 1, nil, ""},
		{"alone", []int{10}, 1, map[int]uint64{10: local(0, 0)}, "r10 w10 r10"},
		{"data alone", []int{10}, 1, map[int]uint64{10: local(0, 2), 11: 15, 12: 20, 15: local(0, 0)}, "r10 w10 r10"},
		{"twice the same", []int{10, 0, 10}, 1, map[int]uint64{10: local(0, 0)}, "r10 w10 r10 r10"},
		{"to nowhere", []int{10}, 1, map[int]uint64{10: local(2, 2)}, "r10 w10 r10 r11 r12"},
		{"to itself, twice", []int{10}, 1, map[int]uint64{10: local(2, 2), 11: 10, 12: 10}, "r10 w10 r10 r11 r10 r12 r10"},
		{"a ring", []int{10}, 1, map[int]uint64{10: local(1, 1), 11: 20, 20: local(1, 1), 21: 15, 15: local(1, 1), 16: 10},
			"r10 w10 r10 r11 r20 w20 r20 r21 r15 w15 r15 r16 r10"},
		{"references, not data", []int{10}, 1, map[int]uint64{10: local(1, 3), 11: 20, 12: 15, 13: 25, 15: local(0, 0), 20: local(0, 0), 25: local(0, 0)},
			"r10 w10 r10 r11 r20 w20 r20"},
		{"the top one first", []int{10}, 3, map[int]uint64{10: local(3, 3), 11: 30, 12: 15, 13: 20, 15: local(1, 1), 16: 25, 20: local(0, 0), 25: local(0, 0), 30: local(0, 0)},
			"r10 w10 r10 r11 r30 w30 r12 r15 w15 r13 r20 w20 r20 r15 r16 r25 w25 r25 r30"},
		{"behind each place all that it leads to", []int{10, 15, 25}, 1, map[int]uint64{10: local(1, 1), 11: 20, 20: local(0, 0), 15: local(0, 0), 25: local(1, 1), 26: 20},
			"r10 w10 r10 r11 r20 w20 r20 r15 w15 r15 r25 w25 r25 r26 r20"},
		{"to one twice", []int{10}, 1, map[int]uint64{10: local(2, 2), 11: 15, 12: 15, 15: local(0, 4)}, "r10 w10 r10 r11 r15 w15 r12 r15 r15"},
		{"what is marked is not looked into", []int{10, 15}, 1, map[int]uint64{10: local(1, 1) + markBit, 11: 20, 15: local(1, 1), 16: 10, 20: local(0, 0)},
			"r10 r15 w15 r15 r16 r10"},
		{"of other owners", []int{10, 15}, 1, map[int]uint64{10: head(2, 2, 1, 1), 11: 20, 15: local(2, 2), 16: 20, 17: 25, 20: head(2, 0, 0, 0), 25: head(2, 35, 0, 0) + markBit},
			"r10 r15 w15 r15 r16 r20 r17 r25"},
		{"no objects", []int{10, 15, 20}, 1, map[int]uint64{10: 32 * hand, 15: 1 + 32*hand, 20: local(3, 3), 21: 25, 22: 30, 23: 35, 25: local(0, 0) + greyBit, 30: 1 << 40, 35: local(1, 0)},
			"r10 r15 r20 w20 r20 r21 r25 r22 r30 r23 r35"},
		{"past no objects", []int{10}, 1, map[int]uint64{10: local(3, 3), 11: 15, 12: 25, 13: 20, 15: 1 + 32*hand, 20: local(0, 0), 25: 0}, "r10 w10 r10 r11 r15 r12 r25 r13 r20 w20 r20"},
		{"shared ones", []int{10, 15, 10}, 1, map[int]uint64{10: global, 11: 25, 15: local(3, 3), 16: 10, 17: 20, 18: 10, 20: head(3, 0, 1, 1) + colourBit + greyBit, 21: 25, 25: local(0, 0)},
			"r10 g10 r15 w15 r15 r16 r10 g10 r17 r20 g20 r18 r10 g10 r10 g10"},
		{"told ahead of all else", []int{10}, 2, map[int]uint64{10: local(3, 3), 11: 15, 12: 20, 13: 25, 15: local(1, 1), 16: 30, 20: global, 25: local(0, 0), 30: global},
			"r10 w10 r10 r11 r15 w15 r12 r20 g20 r13 r25 w25 r25 r15 r16 r30 g30"},
		{"outside of all blocks", []int{3, 1, 7}, 1, map[int]uint64{1: local(1, 1), 2: 6, 3: local(1, 1), 4: 2, 6: local(0, 0), 7: global}, "r3 w3 r3 r4 r2 r1 w1 r1 r2 r6 w6 r6 r7 g7"},
	} {
		for _, room := range []int{x.room, x.room + 1, api.MaxMark} {
			// What is not reached by the stack is not read: so the entries do not matter.
			for _, entry := range []uint64{0, small(2, hand), 1 << 60} {
				byHand(t, room, x.from, entry, entry, x.words).holds(t, x.name, x.acts)
			}
		}
	}
}

// P18.1: where the stack overflows, block by block, cell by cell, as often as it does.
func TestOverflowByHand(t *testing.T) {
	c2 := small(2, hand)
	back := map[int]uint64{35: local(2, 2), 36: 30, 37: 25, 30: local(0, 0), 25: local(2, 2), 26: 20, 27: 15, 20: local(0, 0), 15: local(1, 1), 16: 10, 10: local(0, 0)}
	fan := map[int]uint64{10: local(2, 3), 11: 15, 12: 20, 13: 30, 15: local(0, 0), 20: local(1, 1), 21: 25, 25: head(3, 1, 1, 1), 26: 30, 30: local(0, 0)}
	for _, x := range []struct {
		name          string
		from          []int
		room          int
		first, second uint64
		words         map[int]uint64
		acts          string
	}{
		{"once", []int{10}, 1, c2, 0, fan, "r10 w10 r10 r11 r15 w15 r12 r20 w20 r15" +
			" r8 r10 r11 r15 r12 r20 r15 r20 r21 r25 g25 r25 r30 r35 r9"},
		{"room enough", []int{10}, 2, c2, 0, fan, "r10 w10 r10 r11 r15 w15 r12 r20 w20 r20 r21 r25 g25 r15"},
		{"found on the way", []int{10}, 1, c2, 0,
			map[int]uint64{10: local(2, 2), 11: 15, 12: 20, 15: local(0, 0), 20: local(2, 2), 21: 25, 22: 30, 25: local(0, 0), 30: local(1, 1), 31: 35, 35: local(0, 0)},
			"r10 w10 r10 r11 r15 w15 r12 r20 w20 r15" +
				" r8 r10 r11 r15 r12 r20 r15 r20 r21 r25 w25 r22 r30 w30 r25 r25 r30 r31 r35 w35 r35 r35 r9" +
				" r8 r10 r11 r15 r12 r20 r15 r20 r21 r25 r22 r30 r25 r30 r31 r35 r35 r9"},
		{"found behind", []int{35}, 1, c2, 0, back, "r35 w35 r35 r36 r30 w30 r37 r25 w25 r30" +
			" r8 r10 r15 r20 r25 r26 r20 w20 r27 r15 w15 r20 r30 r35 r36 r30 r37 r25 r9" +
			" r8 r10 r15 r16 r10 w10 r10 r20 r25 r26 r20 r27 r15 r30 r35 r36 r30 r37 r25 r9"},
		{"behind all places", []int{35, 10}, 1, c2, 0, back, "r35 w35 r35 r36 r30 w30 r37 r25 w25 r30 r10 w10 r10" +
			" r8 r10 r15 r20 r25 r26 r20 w20 r27 r15 w15 r20 r30 r35 r36 r30 r37 r25 r9" +
			" r8 r10 r15 r16 r10 r20 r25 r26 r20 r27 r15 r30 r35 r36 r30 r37 r25 r9"},
		{"marked ahead", []int{10}, 1, c2, 0,
			map[int]uint64{10: local(2, 2), 11: 15, 12: 20, 15: local(0, 0), 20: local(0, 0), 35: local(1, 1) + markBit, 36: 30, 30: local(1, 1), 31: 25, 25: local(0, 0)},
			"r10 w10 r10 r11 r15 w15 r12 r20 w20 r15 r8 r10 r11 r15 r12 r20 r15 r20 r25 r30 r35 r36 r30 w30 r30 r31 r25 w25 r25 r9"},
		{"a large one", []int{42}, 1, c2, large(1, hand),
			map[int]uint64{42: local(2, 9), 43: 10, 44: 15, 10: local(0, 0), 15: local(1, 1), 16: 20, 20: local(0, 0)},
			"r42 w42 r42 r43 r10 w10 r44 r15 w15 r10 r8 r10 r15 r16 r20 w20 r20 r20 r25 r30 r35 r9 r42 r43 r10 r44 r15"},
		{"to a large one", []int{10}, 1, c2, large(3, hand),
			map[int]uint64{10: local(2, 2), 11: 15, 12: 42, 15: local(0, 0), 42: local(9, 10), 51: 20, 52: local(1, 1) + markBit, 20: local(0, 0)},
			"r10 w10 r10 r11 r15 w15 r12 r42 w42 r15 r8 r10 r11 r15 r12 r42 r15 r20 r25 r30 r35" +
				" r9 r42 r43 r44 r45 r46 r47 r48 r49 r50 r51 r20 w20 r20"},
		{"the second block's cells", []int{10}, 1, c2, small(3, hand),
			map[int]uint64{10: local(3, 3), 11: 51, 12: 60, 13: 42, 42: local(1, 1), 43: 20, 51: local(0, 0), 60: local(1, 1), 61: 42, 20: local(0, 0), 69: local(0, 0) + markBit},
			"r10 w10 r10 r11 r51 w51 r12 r60 w60 r13 r42 w42 r51 r8 r10 r11 r51 r12 r60 r13 r42 r15 r20 r25 r30 r35" +
				" r9 r42 r43 r20 w20 r20 r51 r60 r61 r42"},
		{"not of another owner", []int{35}, 1, small(2, 2), 0, back, "r35 w35 r35 r36 r30 w30 r37 r25 w25 r30 r8 r9"},
		{"not of another owner's large one", []int{35}, 1, 0, large(1, 2), back, "r35 w35 r35 r36 r30 w30 r37 r25 w25 r30 r8 r9"},
		{"no objects in between", []int{10}, 1, c2, 0,
			map[int]uint64{10: local(2, 2), 11: 20, 12: 30, 15: head(2, 2, 1, 1) + markBit, 16: 35, 20: local(0, 0), 25: head(3, hand, 1, 1), 26: 35, 30: local(0, 0), 35: local(1, 1), 36: 42},
			"r10 w10 r10 r11 r20 w20 r12 r30 w30 r20 r8 r10 r11 r20 r12 r30 r15 r20 r25 r30 r35 r9"},
	} {
		g := byHand(t, x.room, x.from, x.first, x.second, x.words)
		m := g.holds(t, x.name, x.acts)
		// All is marked then: so nothing more is, and nothing overflows.
		g.words = m.words
		if again, times := g.play(t); len(again.acts) != len(x.from) || times != 0 {
			t.Errorf("%s: once more: %s", x.name, texts(again.acts))
		}
	}
}

// P18.1: where there is no Global, Global objects, also the owner's, are read, and nothing more; all else is as it is with one.
func TestNoGlobal(t *testing.T) {
	words := map[int]uint64{
		10: local(4, 4), 11: 15, 12: 20, 13: 25, 14: 35, 15: local(0, 0), 20: head(3, 0, 1, 1) + greyBit, 21: 30,
		25: local(1, 1), 26: 20, 30: local(0, 0), 35: head(3, hand, 1, 1) + colourBit, 36: 30,
	}
	for room := 1; room <= 3; room++ {
		g := byHand(t, room, []int{20, 10, 35}, small(2, hand), 0, words)
		with, _ := g.play(t)
		m := newTape(g.words)
		k := g.marker(m)
		k.Global = nil
		if e := k.Mark(g.from); e != api.OK {
			t.Fatalf("room %d: %d", room, e)
		}
		touched := slices.DeleteFunc(slices.Clone(with.acts), func(a act) bool { return a.kind == told })
		if !slices.Equal(m.acts, touched) || !slices.Equal(m.words, with.words) || len(touched) == len(with.acts) {
			t.Errorf("room %d: %s; want %s", room, texts(m.acts), texts(touched))
		}
	}
}

// P18.1: Global may touch words itself: what is read behind that is what it left.
func TestGlobalTouches(t *testing.T) {
	words := map[int]uint64{10: local(3, 3), 11: 25, 12: 15, 13: 20, 15: local(0, 0), 20: local(0, 0), 25: head(3, 0, 0, 0), 30: local(1, 1), 31: 35, 35: local(0, 0)}
	for _, x := range []struct {
		name string
		room int
		do   func(m *tape, at int)
		acts string
	}{
		{"shades", 2, func(m *tape, at int) { shade.Shade(m, at, 1) }, "r10 w10 r10 r11 r25 g25 r25 u25 r12 r15 w15 r13 r20 w20 r20 r15"},
		{"writes the next reference", 1, func(m *tape, at int) { m.Write(12, 30) }, "r10 w10 r10 r11 r25 g25 w12 r12 r30 w30 r13 r20 w20 r30 r31 r35 w35 r35" +
			" r8 r10 r11 r25 g25 w12 r12 r30 r13 r20 r15 r20 r25 r30 r31 r35 r35 r9"},
		{"writes a header that waits", 2, func(m *tape, at int) { m.Write(10, local(1, 1)+markBit) }, "r10 w10 r10 r11 r25 g25 w10 r12 r15 w15 r13 r20 w20 r20 r15"},
		{"reads", 2, func(m *tape, at int) { m.Read(at + 1) }, "r10 w10 r10 r11 r25 g25 r26 r12 r15 w15 r13 r20 w20 r20 r15"},
	} {
		g := byHand(t, x.room, []int{10}, small(2, hand), 0, words)
		m, want := newTape(g.words), newTape(g.words)
		k, o := g.marker(m), g.model(want)
		with := func(m *tape) func(at int) {
			return func(at int) {
				m.tell(at)
				x.do(m, at)
			}
		}
		k.Global, o.tell = with(m), with(want)
		o.mark(g.from)
		g.marks(t, m, want, k)
		if got := texts(m.acts); got != x.acts {
			t.Errorf("%s: %s; want %s", x.name, got, x.acts)
		}
	}
}

// P18.1: every Local header, of the marker's owner and of other ones, marked and not: what is read, what is written, and how many references.
func TestEveryLocal(t *testing.T) {
	p := lay(t, 64, 0, 3)
	at := p.start(0)
	words := make(plain, p.words())
	for owner := range 64 {
		for size := range uint64(96) {
			for refs := range size + 1 {
				for i := range 4 {
					w, other := head(2, owner, refs, size), (1+int(size)%63)*(i>>1)
					if i&1 == 1 {
						w |= markBit
					}
					words[at] = w
					m := &counts{plain: words}
					e := Marker{M: m, L: p.l, Owner: uint8((owner + other) % 64), Room: 1}.Mark([]int{at})
					want := counts{reads: 1}
					if i == 0 {
						w |= markBit
						want = counts{reads: 2 + int(refs), writes: 1}
					}
					if e != api.OK || words[at] != w || m.reads != want.reads || m.writes != want.writes || m.updates != 0 {
						t.Fatalf("owner %d, %d references of %d fields, %d: %d, %d, %+v; want %d, %+v", owner, refs, size, i, e, words[at], m, w, want)
					}
				}
			}
		}
	}
}

// counts is a memory that counts its touches.
type counts struct {
	plain
	reads, writes, updates int
}

func (m *counts) Read(at int) uint64 {
	m.reads++
	return m.plain.Read(at)
}

func (m *counts) Write(at int, v uint64) {
	m.writes++
	m.plain.Write(at, v)
}

func (m *counts) Update(at int, f func(v uint64) uint64) uint64 {
	m.updates++
	return m.plain.Update(at, f)
}

// P18.1: what is no Local object's header is read once, and stays; it is told, if it is a Global one's, of whatever owner.
func TestNoLocal(t *testing.T) {
	p := lay(t, 64, 0, 3)
	at := p.start(0)
	words, tell := make(plain, p.words()), 0
	m := &counts{plain: words}
	k := Marker{M: m, L: p.l, Room: 1, Global: func(is int) { tell += is }}
	from := []int{at}
	look := func(w uint64) {
		if kindOf(w) == 2 {
			return
		}
		words[at], tell = w, 0
		k.Owner = uint8(w >> 5 & 63)
		m.reads, m.writes, m.updates = 0, 0, 0
		e, want := k.Mark(from), 0
		if kindOf(w) == 3 {
			want = at
		}
		if e != api.OK || words[at] != w || m.reads != 1 || m.writes != 0 || m.updates != 0 || tell != want {
			t.Fatalf("the word %d: %d, %d behind it, %+v, told %d; want %d", w, e, words[at], m, tell, want)
		}
	}
	for _, owner := range []uint64{0, 1, 31, 32, 63} {
		for low := range uint64(32) {
			for w := range uint64(1 << 14) {
				look(low + owner*32 + w<<11)
			}
		}
	}
	for _, w := range []uint64{2, 18, 3, 15, head(2, 63, 95, 95), head(3, 63, 95, 95)} {
		for at := 25; at < 64; at++ {
			look(w | 1<<at)
		}
	}
	look(1<<64 - 1)
}

// P18.1: behind an overflow, whatever word a block's entry is: just of the owner's Small and Head ones headers are read, where its cells begin.
func TestEveryEntry(t *testing.T) {
	p := lay(t, 64, 0, 2)
	for _, owner := range []int{0, 1, 62, 63} {
		words := make([]uint64, p.words())
		at := p.start(0)
		words[p.entry(0)] = small(2, owner)
		words[at], words[at+1], words[at+2] = head(2, owner, 2, 2), uint64(at+5), uint64(at+10)
		words[at+5], words[at+10] = head(2, owner, 0, 0), head(2, owner, 0, 0)
		for i := range 32 {
			words[p.start(1)+i] = head(2, owner, 0, 0) | markBit
		}
		look := func(w uint64) int {
			words[p.entry(1)] = w
			m, times := given{p, owner, 1, words, []int{at}}.play(t)
			if times != 1 {
				t.Fatalf("the entry %d: the blocks were gone through %d times; want once", w, times)
			}
			return len(m.acts) - 22
		}
		is := map[int]int{}
		for w := range uint64(1 << 13) {
			is[look(w)]++
		}
		// A Small one of each class, with 16, 10, 6 or 3 cells; three Heads.
		if len(is) != 6 || is[16] != 1 || is[10] != 1 || is[6] != 1 || is[3] != 1 || is[1] != 3 {
			t.Errorf("owner %d: so many entries of which so many headers are read: %v", owner, is)
		}
		for bit := 13; bit < 64; bit++ {
			for _, w := range []uint64{0, small(0, owner), small(3, owner), large(1, owner)} {
				if n := look(w | 1<<bit); n != 0 {
					t.Errorf("owner %d, the entry %d: %d headers are read", owner, w|1<<bit, n)
				}
			}
		}
	}
}

// P18.1: the errors, in their order: no memory; an owner that is none of the layout's threads, and room that may not be. Nothing is touched, and nobody is told.
func TestErrors(t *testing.T) {
	for _, threads := range []int{1, 2, 3, 63, 64} {
		p := lay(t, threads, 1, 1)
		words := make([]uint64, p.words())
		at := p.start(0)
		words[p.entry(0)], words[at], words[at+2] = small(0, 0), head(2, 0, 0, 0), head(3, 0, 0, 0)
		for owner := range 256 {
			for _, room := range []int{0, -1, -64, 65, 66, 1 << 32, math.MaxInt, math.MinInt, 1, 2, 63, 64} {
				for _, from := range [][]int{nil, {at, at + 2, 0}, {-1, math.MaxInt, math.MinInt}} {
					m := newTape(words)
					k := Marker{M: m, L: p.l, Owner: uint8(owner), Room: room, Global: m.tell}
					want := api.OK
					if owner >= threads || room < 1 || room > 64 {
						want = api.ErrArg
					}
					if e := k.Mark(from); e != want || want != api.OK && (len(m.acts) != 0 || !slices.Equal(m.words, words)) {
						t.Fatalf("owner %d of %d, room %d, from %v: %d, %s; want %d", owner, threads, room, from, e, texts(m.acts), want)
					}
					k.M = nil
					if e := k.Mark(from); e != api.ErrNil || want != api.OK && len(m.acts) != 0 {
						t.Fatalf("owner %d of %d, room %d, from %v, no memory: %d", owner, threads, room, from, e)
					}
				}
			}
		}
	}
}

// P18.1: without a layout there is no owner that is one of its threads.
func TestZero(t *testing.T) {
	m := newTape([]uint64{2, 2, 3})
	for _, from := range [][]int{nil, {}, {1, 2, 0}} {
		if e := (Marker{}).Mark(from); e != api.ErrNil {
			t.Errorf("a zero marker, from %v: %d", from, e)
		}
		if e := (Marker{M: m, Room: 1, Global: m.tell}).Mark(from); e != api.ErrArg || len(m.acts) != 0 {
			t.Errorf("no layout, from %v: %d, %s", from, e, texts(m.acts))
		}
	}
}

// P18.1: no places, nil or empty, or such as are 0: nothing is touched, whatever is marked.
func TestNoPlaces(t *testing.T) {
	words := map[int]uint64{10: local(1, 1) + markBit, 11: 15, 15: local(0, 0)}
	for room := 1; room <= api.MaxMark; room++ {
		for _, from := range [][]int{nil, {}, {0}, make([]int, 100)} {
			byHand(t, room, from, small(2, hand), small(2, hand), words).holds(t, "no places", "")
		}
	}
}

// P18.1: a place that is none of the arena's is asked for once, and there is nothing; so it is with references.
func TestPlacesOutside(t *testing.T) {
	for _, at := range []int{-1, -10, math.MinInt, math.MinInt + 10, 74, 75, 4095, 4096, 1 << 32, 1<<32 + 15, math.MaxInt, math.MaxInt - 1} {
		words := map[int]uint64{10: local(3, 3), 11: uint64(at), 12: 15, 13: uint64(at), 15: local(0, 0)}
		g := byHand(t, 1, []int{at, 10, at}, 0, 0, words)
		m, _ := g.play(t)
		g.follows(t, m)
		if len(m.acts) != 13 || m.acts[0] != (act{kind: read, at: at}) || m.acts[12] != m.acts[0] {
			t.Errorf("at %d: %s", at, texts(m.acts))
		}
		a, _ := arena.New(len(g.words))
		for at, w := range g.words {
			a.Write(at, w)
		}
		was := a.Touched()
		if e := (Marker{M: a, L: g.p.l, Owner: hand, Room: 1}).Mark(g.from); e != api.OK || !slices.Equal(a.All(), m.words) || a.Touched()-was != 9 {
			t.Errorf("at %d: %d, %v, touched %d times; want %v", at, e, a.All(), a.Touched()-was, m.words)
		}
	}
}

// P18.1: an object whose references lie behind the end of the memory has none there; and an arena that is nil has nothing at all.
func TestCutOff(t *testing.T) {
	for n := range 75 {
		g := byHand(t, 1, []int{72, 10, 73}, small(2, hand), small(0, hand), map[int]uint64{10: local(3, 3), 11: 15, 12: 20, 13: 72, 15: local(0, 0), 20: local(0, 0), 72: local(95, 95), 73: 72})
		g.words = g.words[:min(n, len(g.words))]
		m, _ := g.play(t)
		if n == 74 && m.words[72] != local(95, 95)+markBit {
			t.Error("what is cut off is not marked")
		}
	}
	var none *arena.Arena
	l, _ := layout.New(74, 4, 1)
	for _, from := range [][]int{nil, {0, 10, 42}, {-1, math.MaxInt}} {
		if e := (Marker{M: none, L: l, Owner: hand, Room: 1, Global: func(int) { t.Error("told") }}).Mark(from); e != api.OK {
			t.Errorf("an arena that is nil, from %v: %d", from, e)
		}
	}
}

// P18.1, P18.2: an object as large as can be, of any number of references: all are read, in order, and no datum, with any room.
func TestLarge(t *testing.T) {
	p := lay(t, 1, 0, 12)
	words := make([]uint64, p.words())
	at := p.start(9)
	for block := range 9 {
		words[p.entry(block)] = small(0, 0)
	}
	words[p.entry(9)], words[p.entry(10)], words[p.entry(11)] = large(3, 0), 3, 3
	for i := range 95 {
		to := p.start(i/16) + i%16*2
		words[at+1+i], words[to] = uint64(to), head(2, 0, 1, 1)
		words[to+1] = uint64(p.start(6+i/48) + i/3%16*2)
	}
	for i := range 32 {
		words[p.start(6+i/16)+i%16*2] = head(2, 0, 0, 1)
	}
	for _, refs := range []uint64{0, 1, 63, 64, 65, 94, 95} {
		words[at] = head(2, 0, refs, 95)
		for room := 1; room <= api.MaxMark; room++ {
			g := given{p, 0, room, words, []int{at}}
			m, times := g.play(t)
			g.follows(t, m)
			if over := int(refs) > room; over != (times > 0) {
				t.Fatalf("%d references, room %d: the blocks were gone through %d times", refs, room, times)
			}
		}
	}
}

// P18.1: a place that leads to a word that only looks like a header is one as any other.
func TestFields(t *testing.T) {
	g := byHand(t, 1, []int{10}, small(2, hand), 0, map[int]uint64{10: local(1, 3), 11: 12, 12: local(1, 1), 13: 10})
	g.holds(t, "a field", "r10 w10 r10 r11 r12 w12 r12 r13 r10")
	g.from = []int{8}
	g.words[8] = 2 + 32*hand
	g.holds(t, "an entry", "r8 w8 r8")
}

// P18.1: one marker marks as often as it is asked to, each time anew: that it overflowed once is forgotten.
func TestAgain(t *testing.T) {
	words := map[int]uint64{10: local(2, 2), 11: 15, 12: 20, 15: local(0, 0), 20: local(0, 0), 25: local(1, 1), 26: 30, 30: local(0, 0)}
	g := byHand(t, 1, nil, small(2, hand), 0, words)
	m := newTape(g.words)
	k, n := g.marker(m), 0
	for _, x := range []struct {
		from []int
		acts string
	}{
		{[]int{10}, "r10 w10 r10 r11 r15 w15 r12 r20 w20 r15 r8 r10 r11 r15 r12 r20 r15 r20 r25 r30 r35 r9"},
		{[]int{10}, "r10"},
		{[]int{25}, "r25 w25 r25 r26 r30 w30 r30"},
		{nil, ""},
		{[]int{25, 30, 10}, "r25 r30 r10"},
	} {
		if e := k.Mark(x.from); e != api.OK || texts(m.acts[n:]) != x.acts {
			t.Errorf("from %v: %d, %s; want %s", x.from, e, texts(m.acts[n:]), x.acts)
		}
		n = len(m.acts)
	}
}

// P18.1: a list of places, with the room behind its end, is not changed.
func TestPlacesHandedIn(t *testing.T) {
	words := map[int]uint64{10: local(3, 3), 11: 15, 12: 20, 13: 25, 15: local(0, 0), 20: local(0, 0), 25: local(0, 0)}
	for room := 1; room <= 3; room++ {
		all := []int{7, 0, 10, 15, 9, 9, 9}
		g := byHand(t, room, nil, small(2, hand), 0, words)
		if e := g.marker(newTape(g.words)).Mark(all[1:4]); e != api.OK || !slices.Equal(all, []int{7, 0, 10, 15, 9, 9, 9}) {
			t.Errorf("room %d: %d, %v", room, e, all)
		}
	}
}
