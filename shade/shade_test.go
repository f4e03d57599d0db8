package shade

import (
	"math"
	"slices"
	"testing"

	"demesne/api"
	"demesne/arena"
	"demesne/word"
)

// The bits of a header's word that shading and blackening may change, as the layer word tells them.
const (
	colourBit = 4
	greyBit   = 8
)

// isGlobal tells by the bits alone, without the layer word, whether a word is the header of a Global object.
func isGlobal(w uint64) bool {
	refs, size := w>>11&127, w>>18
	return w&3 == 3 && w&16 == 0 && refs <= size && size <= 95
}

// tells is what the chapter says that a word tells, by the bits alone.
func tells(w uint64, colour uint8) uint8 {
	switch {
	case colour > 1 || !isGlobal(w):
		return 0
	case w&colourBit != uint64(colour)*colourBit:
		return 1
	case w&greyBit != 0:
		return 2
	}
	return 3
}

// shaded is what a word is behind the shading of its object.
func shaded(w uint64, colour uint8) uint64 {
	if tells(w, colour) == 1 {
		return w&^colourBit | uint64(colour)*colourBit | greyBit
	}
	return w
}

// blackened is what a word is behind the blackening of its object.
func blackened(w uint64) uint64 {
	if isGlobal(w) {
		return w &^ greyBit
	}
	return w
}

// The kinds of touches.
const (
	read = iota
	write
	update
)

// mark is a touch that was done: of what kind, where, what the word was, and what it is.
type mark struct {
	kind, at int
	was, is  uint64
}

// tape is a memory that keeps what was done to it. Ahead of each touch but the first one, others may change its words.
type tape struct {
	words  []uint64
	marks  []mark
	others func(words []uint64)
}

func newTape(words ...uint64) *tape { return &tape{words: slices.Clone(words)} }

func (m *tape) Read(at int) uint64 {
	return m.touch(read, at, func(v uint64) uint64 { return v })
}

func (m *tape) Write(at int, v uint64) {
	m.touch(write, at, func(uint64) uint64 { return v })
}

func (m *tape) Update(at int, f func(v uint64) uint64) uint64 {
	return m.touch(update, at, f)
}

func (m *tape) touch(kind, at int, f func(v uint64) uint64) uint64 {
	if len(m.marks) > 0 && m.others != nil {
		m.others(m.words)
	}
	if at < 0 || at >= len(m.words) {
		m.marks = append(m.marks, mark{kind: kind, at: at})
		return 0
	}
	was := m.words[at]
	m.words[at] = f(was)
	m.marks = append(m.marks, mark{kind, at, was, m.words[at]})
	return was
}

// holds holds a tape's words, and what was done to it, against what they should be.
func (m *tape) holds(t *testing.T, words []uint64, marks ...mark) {
	t.Helper()
	if !slices.Equal(m.words, words) || !slices.Equal(m.marks, marks) {
		t.Fatalf("the words are %v, behind %v; want %v, behind %v", m.words, m.marks, words, marks)
	}
}

// forms are headers' words of a kind, of all owners, references and sizes at the edges, without colour, grey or marked.
func forms(kind uint64) []uint64 {
	var all []uint64
	for _, owner := range []uint64{0, 1, 33, 63} {
		for _, x := range [][2]uint64{{0, 0}, {0, 1}, {1, 1}, {1, 2}, {8, 8}, {0, 95}, {64, 95}, {95, 95}} {
			all = append(all, kind+owner*32+x[0]<<11+x[1]<<18)
		}
	}
	return all
}

// globals are the headers' words of Global objects: each form in both colours, grey and not.
func globals() []uint64 {
	var all []uint64
	for _, w := range forms(3) {
		all = append(all, w, w|colourBit, w|greyBit, w|colourBit|greyBit)
	}
	return all
}

// strangers are words that are no Global object's header: headers of every other kind, and no header's words, many of which have a Global one's bits but for one thing.
func strangers() []uint64 {
	all := []uint64{1<<64 - 1, 1 << 63, 2 + 4, 2 + 8, 4, 5, 8, 9, 16, 17, 1 << 18, 1 + 1<<18, 2 + 1<<11}
	for owner := range uint64(64) {
		all = append(all, owner*32, 1+owner*32) // Free, Listed
	}
	for _, w := range forms(2) {
		all = append(all, w, w|16) // Local
	}
	for _, w := range globals() {
		all = append(all, w|16, w|1<<25, w|1<<32, w|1<<63)                         // marked; bits that no header has
		all = append(all, w&(1<<11-1)|1<<11, w&(1<<11-1)|96<<18, w|127<<18)        // more references than fields; too many fields
		all = append(all, w&^3, w&^3|1, w&^3|2|greyBit, w&^3|2|colourBit, w&^2|16) // another kind's
	}
	return slices.DeleteFunc(all, isGlobal)
}

// P13.1: what may be told counts from None's 0 on, in the chapter's order.
func TestConstants(t *testing.T) {
	if all := [4]uint8{None, White, Grey, Black}; all != [4]uint8{0, 1, 2, 3} {
		t.Errorf("None, White, Grey, Black: %v", all)
	}
}

// P13.2, P13.3: the chapter's example.
func TestExample(t *testing.T) {
	m, _ := arena.New(3)
	m.Write(1, 3)
	step := func(name string, ok bool, want uint64) {
		t.Helper()
		if !ok || !slices.Equal(m.All(), []uint64{0, want, 0}) {
			t.Errorf("%s: %v, words %v; want true, the header %d", name, ok, m.All(), want)
		}
	}
	step("white", Shade(m, 1, 1), 15)
	step("the same again", Shade(m, 1, 1), 15)
	Blacken(m, 1)
	step("blackened", true, 7)
	step("behind that", !Shade(m, 1, 1), 7)
}

// P13.1: what headers tell, by hand.
func TestTellByHand(t *testing.T) {
	for _, x := range []struct {
		h         word.Head
		zero, one uint8 // in a cycle of each colour
	}{
		{word.Head{Kind: word.Global}, Black, White},
		{word.Head{Kind: word.Global, Colour: 1}, White, Black},
		{word.Head{Kind: word.Global, Grey: true}, Grey, White},
		{word.Head{Kind: word.Global, Colour: 1, Grey: true}, White, Grey},
		{word.Head{Kind: word.Global, Owner: 63, Refs: 95, Size: 95}, Black, White},
		{word.Head{Kind: word.Global, Colour: 1, Grey: true, Owner: 63, Refs: 95, Size: 95}, White, Grey},
		{word.Head{Kind: word.Global, Grey: true, Owner: 1, Refs: 1, Size: 8}, Grey, White},
		{word.Head{}, None, None},
		{word.Head{Kind: word.Free, Owner: 63}, None, None},
		{word.Head{Kind: word.Listed}, None, None},
		{word.Head{Kind: word.Listed, Owner: 1}, None, None},
		{word.Head{Kind: word.Local}, None, None},
		{word.Head{Kind: word.Local, Owner: 1, Refs: 1, Size: 2}, None, None},
		{word.Head{Kind: word.Local, Marked: true, Owner: 63, Refs: 95, Size: 95}, None, None},
	} {
		w, e := word.Put(x.h)
		if e != api.OK {
			t.Fatalf("Put(%+v): %d", x.h, e)
		}
		for colour, want := range []uint8{x.zero, x.one, None, None} {
			if got := Tell(w, uint8(colour)); got != want {
				t.Errorf("Tell(%+v, %d) = %d; want %d", x.h, colour, got, want)
			}
		}
		for _, colour := range []uint8{4, 5, 127, 128, 129, 254, 255} {
			if got := Tell(w, colour); got != None {
				t.Errorf("Tell(%+v, %d) = %d; want None", x.h, colour, got)
			}
		}
	}
}

// P13.1: what every word of the bits that headers have tells, in a cycle of each colour, and of one that there is not.
func TestTellEveryWord(t *testing.T) {
	var told [3][4]int
	for w := uint64(0); w < 1<<25; w++ {
		for colour := range uint8(3) {
			got := Tell(w, colour)
			if want := tells(w, colour); got != want {
				t.Fatalf("Tell(%d, %d) = %d; want %d", w, colour, got, want)
			}
			told[colour][got]++
		}
	}
	// Global ones are of 64 owners, and of 96 sizes with as many references at most.
	n := 64 * 96 * 97 / 2
	want := [4]int{1<<25 - 4*n, 2 * n, n, n}
	if told != [3][4]int{want, want, {1 << 25}} {
		t.Errorf("told: %v; want %v twice, then None alone", told, want)
	}
}

// P13.1: no bit above those that a header has may be set, whatever lies below it.
func TestTellHighBits(t *testing.T) {
	for _, w := range globals() {
		for at := 25; at < 64; at++ {
			for colour := range uint8(2) {
				if got := Tell(w|1<<at, colour); got != None {
					t.Fatalf("Tell(%d | 1<<%d, %d) = %d; want None", w, at, colour, got)
				}
			}
		}
	}
}

// P13.1: None of what is no Global object's header, and of all words in a colour that there is not.
func TestTellNone(t *testing.T) {
	for _, w := range strangers() {
		for colour := range 256 {
			if got := Tell(w, uint8(colour)); got != None {
				t.Fatalf("Tell(%d, %d) = %d; want None", w, colour, got)
			}
		}
	}
	for _, w := range globals() {
		for colour := 2; colour < 256; colour++ {
			if got := Tell(w, uint8(colour)); got != None {
				t.Fatalf("Tell(%d, %d) = %d; want None", w, colour, got)
			}
		}
	}
}

// P13.2: one Read, and one Update only of what is white; what is white is of the cycle's colour then, and grey; white and grey: true.
func TestShadeByHand(t *testing.T) {
	form := uint64(3 + 5*32 + 2<<11 + 7<<18)
	for _, x := range []struct {
		was, is uint64
		colour  uint8
		want    bool
		updates bool
	}{
		{form, form + 12, 1, true, true},       // white
		{form + 4, form + 8, 0, true, true},    // white
		{form + 8, form + 12, 1, true, true},   // white, whatever its grey bit was
		{form + 12, form + 8, 0, true, true},   // white, whatever its grey bit was
		{form + 8, form + 8, 0, true, false},   // grey
		{form + 12, form + 12, 1, true, false}, // grey
		{form, form, 0, false, false},          // black
		{form + 4, form + 4, 1, false, false},  // black
		{form - 1, form - 1, 0, false, false},  // Local
		{form - 1, form - 1, 1, false, false},
		{form + 15, form + 15, 1, false, false}, // Local, marked
		{0, 0, 0, false, false},                 // Free
		{32, 32, 1, false, false},
		{1, 1, 0, false, false}, // Listed
		{33, 33, 1, false, false},
		{form + 16, form + 16, 1, false, false}, // no header's
		{7 | 1<<60, 7 | 1<<60, 0, false, false},
	} {
		m := newTape(3, x.was, 7)
		if got := Shade(m, 1, x.colour); got != x.want {
			t.Errorf("Shade of %d in %d = %v; want %v", x.was, x.colour, got, x.want)
		}
		marks := []mark{{read, 1, x.was, x.was}}
		if x.updates {
			marks = append(marks, mark{update, 1, x.was, x.is})
		}
		m.holds(t, []uint64{3, x.is, 7}, marks...)
	}
}

// shade shades at a place of a tape, and holds the answer, the touches and the words against the chapter, if others make the word then between the two touches.
func shade(t *testing.T, first, then uint64, colour uint8) {
	t.Helper()
	m := newTape(7, 15, first, 3, 11)
	m.others = func(words []uint64) { words[2] = then }
	last, is := first, first
	marks := []mark{{read, 2, first, first}}
	if tells(first, colour) == White {
		last, is = then, shaded(then, colour)
		marks = append(marks, mark{update, 2, then, is})
	}
	got, met := Shade(m, 2, colour), tells(last, colour)
	if want := met == White || met == Grey; got != want {
		t.Fatalf("Shade of %d, then %d, in %d = %v; want %v", first, then, colour, got, want)
	}
	m.holds(t, []uint64{7, 15, is, 3, 11}, marks...)
}

// P13.2: whatever lies there, in both colours.
func TestShade(t *testing.T) {
	for _, w := range slices.Concat(globals(), strangers()) {
		shade(t, w, w, 0)
		shade(t, w, w, 1)
	}
}

// P13.2, P13.4: the Update looks again at what is there then: what another one has shaded, blackened, or changed in between stays as it is, and what was met last is told.
func TestShadeLooksAgain(t *testing.T) {
	thens := []uint64{3, 7, 11, 15, 3 + 32, 7 + 1<<18, 11 + 1<<11 + 1<<18, 15 + 63*32 + 95<<11 + 95<<18, 0, 1, 2, 32, 33, 18, 2 + 1<<18, 19, 31, 3 | 1<<25, 15 | 1<<63, 1<<64 - 1}
	for _, w := range globals() {
		// Of the object itself: shaded, blackened, of the one colour again; taken back by its owner, made anew.
		own := []uint64{w ^ colourBit, w ^ greyBit, w ^ colourBit ^ greyBit, w &^ 12, w &^ 13, w & (63 * 32), w&(63*32) | 1, w&^13 | 16}
		for _, then := range slices.Concat(thens, own) {
			shade(t, w, then, 0)
			shade(t, w, then, 1)
		}
	}
	for _, w := range strangers() {
		for _, then := range thens[:4] {
			shade(t, w, then, 0)
			shade(t, w, then, 1)
		}
	}
}

// P13.2: no touch, and false, in a colour above 1, whatever lies there.
func TestShadeColourAbove(t *testing.T) {
	words := slices.Concat(globals(), []uint64{0, 1, 2, 19, 1<<64 - 1})
	for colour := 2; colour < 256; colour++ {
		m := newTape(words...)
		for at := range words {
			if Shade(m, at, uint8(colour)) {
				t.Fatalf("Shade of %d in %d = true; want false", words[at], colour)
			}
		}
		m.holds(t, words)
	}
}

// places are some that there may be, and some that no memory has.
func places() []int { return []int{0, 1, 2, -1, -2, 4096, math.MaxInt, math.MinInt} }

// P13.2, P13.3: no memory at all: false, and nothing; also beside a place, or a colour, that there is not.
func TestNoMemory(t *testing.T) {
	var none *arena.Arena
	for _, m := range []api.Mem{nil, none} {
		for _, at := range places() {
			for colour := range 256 {
				if Shade(m, at, uint8(colour)) {
					t.Errorf("Shade(%v, %d, %d) = true; want false", m, at, colour)
				}
			}
			Blacken(m, at)
		}
	}
}

// P13.2: a colour above 1, and a place that there is not: no touch.
func TestShadeWrongTwice(t *testing.T) {
	m := newTape(3, 7)
	for _, at := range places() {
		if Shade(m, at, 2) || Shade(m, at, 255) {
			t.Errorf("Shade at %d in a colour above 1 = true; want false", at)
		}
	}
	m.holds(t, []uint64{3, 7})
}

// P13.2, P13.3: a place outside the memory is the memory's own affair: it is asked once, and what it answers counts.
func TestPlaceOutside(t *testing.T) {
	for _, at := range []int{-1, -4096, math.MinInt, 2, 3, 4096, math.MaxInt} {
		for colour := range uint8(2) {
			m := newTape(3, 15)
			if Shade(m, at, colour) {
				t.Errorf("Shade at %d in %d = true; want false", at, colour)
			}
			Blacken(m, at)
			m.holds(t, []uint64{3, 15}, mark{kind: read, at: at}, mark{kind: update, at: at})
			a, _ := arena.New(2)
			a.Write(0, 3)
			a.Write(1, 15)
			if Shade(a, at, colour) {
				t.Errorf("Shade at %d of an arena in %d = true; want false", at, colour)
			}
			Blacken(a, at)
			if a.Touched() != 2 || !slices.Equal(a.All(), []uint64{3, 15}) {
				t.Errorf("an arena behind acts at %d: touched %d, words %v", at, a.Touched(), a.All())
			}
		}
	}
}

// spread is a memory with a word at every place that there can be.
type spread map[int]uint64

func (m spread) Read(at int) uint64     { return m[at] }
func (m spread) Write(at int, v uint64) { m[at] = v }
func (m spread) Update(at int, f func(v uint64) uint64) uint64 {
	was := m[at]
	m[at] = f(was)
	return was
}

// P13.2, P13.3: a memory may have whatever places it likes.
func TestAnyPlace(t *testing.T) {
	m := spread{}
	for _, at := range []int{-1, 0, 1, 4095, 4096, math.MinInt, math.MaxInt} {
		m[at] = 7
		if !Shade(m, at, 0) || m[at] != 11 {
			t.Errorf("at %d: %d behind Shade; want 11", at, m[at])
		}
		if Blacken(m, at); m[at] != 3 {
			t.Errorf("at %d: %d behind Blacken; want 3", at, m[at])
		}
	}
}

// P13.3: one Update: a Global object is grey no more; all else stays as it is, its colour too.
func TestBlackenByHand(t *testing.T) {
	form := uint64(3 + 5*32 + 2<<11 + 7<<18)
	for _, x := range []struct{ was, is uint64 }{
		{form + 8, form},
		{form + 12, form + 4},
		{form, form},
		{form + 4, form + 4},
		{11, 3},
		{15, 7},
		{15 + 63*32 + 95<<11 + 95<<18, 7 + 63*32 + 95<<11 + 95<<18},
		{form - 1, form - 1},   // Local
		{form + 15, form + 15}, // Local, marked
		{0, 0},                 // Free
		{32, 32},
		{1, 1}, // Listed
		{33, 33},
		{8, 8}, // no header's
		{9, 9},
		{10, 10},
		{form + 16 + 8, form + 16 + 8},
		{11 + 1<<11, 11 + 1<<11},
		{11 + 96<<18, 11 + 96<<18},
		{11 | 1<<25, 11 | 1<<25},
		{1<<64 - 1, 1<<64 - 1},
	} {
		m := newTape(11, x.was, 15)
		Blacken(m, 1)
		m.holds(t, []uint64{11, x.is, 15}, mark{update, 1, x.was, x.is})
	}
}

// P13.3: whatever lies there; and what is blackened twice is blackened once.
func TestBlacken(t *testing.T) {
	for _, w := range slices.Concat(globals(), strangers()) {
		m := newTape(7, 15, w, 3, 11)
		is := blackened(w)
		Blacken(m, 2)
		m.holds(t, []uint64{7, 15, is, 3, 11}, mark{update, 2, w, is})
		Blacken(m, 2)
		m.holds(t, []uint64{7, 15, is, 3, 11}, mark{update, 2, w, is}, mark{update, 2, is, is})
	}
}

// P13.4: of a word only colour and grey change, and only if it is a Global object's header.
func TestOnlyColourAndGrey(t *testing.T) {
	for _, w := range slices.Concat(globals(), strangers()) {
		for _, act := range []func(m api.Mem){
			func(m api.Mem) { Shade(m, 0, 0) },
			func(m api.Mem) { Shade(m, 0, 1) },
			func(m api.Mem) { Blacken(m, 0) },
		} {
			m := newTape(w)
			act(m)
			is := m.words[0]
			changed, may := w^is, uint64(0)
			h, e := word.Take(w)
			if e == api.OK && h.Kind == word.Global {
				may = colourBit | greyBit
			}
			if changed&^may != 0 {
				t.Fatalf("%d became %d", w, is)
			}
		}
	}
}

// P13.4: in its cycle an object is shaded once; in the next one, of the other colour, it is white again.
func TestCycles(t *testing.T) {
	for _, form := range forms(3) {
		m := newTape(form)
		for i := range 6 {
			colour := uint8(1 - i%2)
			want := []bool{true, true, false, false}
			var got []bool
			for k := range want {
				if k == 2 {
					Blacken(m, 0)
				}
				if k > 0 && Tell(m.words[0], colour) == White {
					t.Fatalf("%d is white again in its cycle", m.words[0])
				}
				got = append(got, Shade(m, 0, colour))
			}
			if !slices.Equal(got, want) || m.words[0] != form|uint64(colour)*colourBit {
				t.Fatalf("the cycle %d: told %v, the word %d", i, got, m.words[0])
			}
		}
	}
}
