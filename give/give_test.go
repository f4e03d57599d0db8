package give

import (
	"math"
	"slices"
	"testing"

	"demesne/api"
	"demesne/arena"
	"demesne/layout"
	"demesne/table"
)

// The kinds of touches.
const (
	read = iota
	write
	update
)

// mark is a touch that was done: of what kind, where, what the word was, and what it is.
type mark struct {
	kind, at int
	was, is  uint64
}

// tape is a memory that keeps what was done to it. Ahead of each touch others may change its words.
type tape struct {
	words  []uint64
	marks  []mark
	others func(words []uint64)
}

func newTape(words ...uint64) *tape { return &tape{words: slices.Clone(words)} }

func (m *tape) Read(at int) uint64 {
	return m.touch(read, at, func(v uint64) uint64 { return v })
}

func (m *tape) Write(at int, v uint64) {
	m.touch(write, at, func(uint64) uint64 { return v })
}

func (m *tape) Update(at int, f func(v uint64) uint64) uint64 {
	return m.touch(update, at, f)
}

func (m *tape) touch(kind, at int, f func(v uint64) uint64) uint64 {
	if m.others != nil {
		m.others(m.words)
	}
	if at < 0 || at >= len(m.words) {
		m.marks = append(m.marks, mark{kind: kind, at: at})
		return 0
	}
	was := m.words[at]
	m.words[at] = f(was)
	m.marks = append(m.marks, mark{kind, at, was, m.words[at]})
	return was
}

// holds holds a tape's words, and what was done to it, against what they should be.
func (m *tape) holds(t *testing.T, words []uint64, marks ...mark) {
	t.Helper()
	if !slices.Equal(m.words, words) || !slices.Equal(m.marks, marks) {
		t.Fatalf("the words are %v, behind %v; want %v, behind %v", m.words, m.marks, words, marks)
	}
}

// plan is how many there are of each thing in an arena, and the layout of that.
type plan struct {
	threads, globals, blocks int
	l                        layout.Layout
}

// plans are layouts of so many blocks: with few threads and no global roots, with some, with as many as there may be.
func plans(t *testing.T, blocks ...int) []plan {
	t.Helper()
	var all []plan
	for _, n := range blocks {
		for _, p := range []plan{{1, 0, n, layout.Layout{}}, {2, 3, n, layout.Layout{}}, {64, 8, n, layout.Layout{}}} {
			all = append(all, plan{p.threads, p.globals, n, lay(t, p.threads, p.globals, n)})
		}
	}
	return all
}

// lay lays an arena out in which so many blocks go in, and no word is left.
func lay(t *testing.T, threads, globals, blocks int) layout.Layout {
	t.Helper()
	l, e := layout.New(3+threads+globals+33*blocks, threads, globals)
	if e != api.OK || l.Blocks() != blocks {
		t.Fatalf("a layout of %d threads, %d global roots: %d blocks, %d; want %d", threads, globals, l.Blocks(), e, blocks)
	}
	return l
}

// entry is the place of a block's entry, counted by hand.
func (p plan) entry(block int) int { return 3 + p.threads + p.globals + block }

// words are how many words all of it has.
func (p plan) words() int { return 3 + p.threads + p.globals + 33*p.blocks }

// filled are words that are all unlike, none of them 0, and none of them an entry's, with a map ahead.
func (p plan) filled(bits uint64) []uint64 {
	words := make([]uint64, p.words())
	for i := range words {
		words[i] = 1<<40 + uint64(i)
	}
	words[0] = bits
	return words
}

// all is the map in which so many blocks are free, by its bits.
func all(blocks int) uint64 {
	var w uint64
	for i := range blocks {
		w |= 1 << i
	}
	return w
}

// first is the first block of the first run that is free in a map, looked for block by block.
func first(w uint64, run int) (int, bool) {
	free := 0
	for at := range 64 {
		if free++; w>>at&1 == 0 {
			free = 0
		}
		if run > 0 && run <= 3 && free == run {
			return at + 1 - run, true
		}
	}
	return 0, false
}

// the is a run's blocks in a map.
func the(block, run int) uint64 {
	var w uint64
	for i := block; i < block+run; i++ {
		w |= 1 << i
	}
	return w
}

// number is the word of an entry, as the chapter of the table counts it, if that entry may be.
func number(e table.Entry) (uint64, bool) {
	may := e.Class < 4 && e.Run <= 3 && e.Owner < 64
	switch e.Kind {
	case 0, 3:
		may = may && e.Class == 0 && e.Run == 0 && e.Owner == 0
	case 1:
		may = may && e.Run == 0
	case 2, 5:
		may = may && e.Class == 0 && e.Run > 0
	case 4:
		may = may && e.Class == 0 && e.Run == 0
	default:
		may = false
	}
	if !may {
		return 0, false
	}
	return uint64(e.Kind) + 8*uint64(e.Class) + 32*uint64(e.Run) + 128*uint64(e.Owner), true
}

// told is the entry of a word, or a zero one.
func told(w uint64) table.Entry {
	e := table.Entry{Kind: uint8(w % 8), Class: uint8(w / 8 % 4), Run: uint8(w / 32 % 4), Owner: uint8(w / 128 % 64)}
	if is, may := number(e); !may || is != w {
		return table.Entry{}
	}
	return e
}

// outside are blocks that a layout of so many has not.
func outside(blocks int) []int {
	return []int{-1, -2, -3, -blocks, blocks, blocks + 1, blocks + 2, 64, 65, 4096, math.MinInt, math.MinInt + 1,
		math.MinInt + 2, math.MaxInt, math.MaxInt - 1, math.MaxInt - 2, 1 << 32, -1 << 32}
}

// noRuns are lengths that no run has.
func noRuns() []int {
	return []int{0, -1, -2, -3, -64, 4, 5, 63, 64, 65, 4096, math.MinInt, math.MinInt + 1, math.MaxInt, math.MaxInt - 1, 1 << 32, 1<<32 + 1, -1 << 32}
}

// some answers what tells any numbers, the same ones each time.
func some(seed uint64) func(below int) int {
	next := seed
	return func(below int) int {
		next = next*6364136223846793005 + 1442695040888963407
		return int(next >> 33 % uint64(below))
	}
}

// The chapter's example: a layout of 2 blocks, begun.
func TestExample(t *testing.T) {
	l, _ := layout.New(100, 1, 1)
	m, _ := arena.New(100)
	Begin(m, l)
	claim := func(run, want int, wants bool) {
		t.Helper()
		if at, ok := Claim(m, l, run); at != want || ok != wants {
			t.Errorf("Claim(%d) = %d, %v; want %d, %v", run, at, ok, want, wants)
		}
	}
	claim(1, 0, true)
	claim(2, 0, false)
	claim(1, 1, true)
	claim(1, 0, false)
	Back(m, l, 0, 1)
	claim(1, 0, true)
	if w := m.All(); w[0] != 0 || m.Touched() != 8 {
		t.Errorf("the map %d, behind %d touches; want 0, behind 8", w[0], m.Touched())
	}
}

// P14.1: one Write, behind which all blocks of the layout are free, and no others, whatever the map was.
func TestBegin(t *testing.T) {
	for _, p := range plans(t, 1, 2, 3, 4, 31, 32, 33, 63, 64) {
		for _, was := range []uint64{0, 1, all(p.blocks), 1<<64 - 1, 1 << 63} {
			words := p.filled(was)
			m := newTape(words...)
			Begin(m, p.l)
			words[0] = all(p.blocks)
			m.holds(t, words, mark{write, 0, was, all(p.blocks)})
		}
	}
}

// P14.1: maps by hand.
func TestBeginByHand(t *testing.T) {
	for _, x := range []struct {
		words int
		is    uint64
	}{{37, 1}, {69, 1}, {70, 3}, {103, 7}, {136, 15}, {2082, 1<<62 - 1}, {2083, 1<<63 - 1}, {2115, 1<<63 - 1}, {2116, 1<<64 - 1}, {4096, 1<<64 - 1}} {
		l, _ := layout.New(x.words, 1, 0)
		m, _ := arena.New(x.words)
		Begin(m, l)
		if m.Read(0) != x.is || m.Touched() != 2 {
			t.Errorf("of %d words: the map %d, behind %d touches; want %d", x.words, m.Read(0), m.Touched()-1, x.is)
		}
	}
}

// claim claims a run where a map lies, and holds the answer, the touches and the words against the chapter.
func claim(t *testing.T, p plan, bits uint64, run int) {
	t.Helper()
	words := p.filled(bits)
	m := newTape(words...)
	at, ok := Claim(m, p.l, run)
	want, wants := first(bits, run)
	if at != want || ok != wants {
		t.Fatalf("Claim(%d) of %b = %d, %v; want %d, %v", run, bits, at, ok, want, wants)
	}
	if wants {
		words[0] &^= the(want, run)
	}
	m.holds(t, words, mark{update, 0, bits, words[0]})
}

// P14.2: by hand: the first run that is free, all of it; none, if there is no such run.
func TestClaimByHand(t *testing.T) {
	p := plans(t, 64)[1]
	for _, x := range []struct {
		was  uint64
		run  int
		at   int
		ok   bool
		left uint64
	}{
		{0, 1, 0, false, 0},
		{0, 2, 0, false, 0},
		{0, 3, 0, false, 0},
		{0b1, 1, 0, true, 0},
		{0b1, 2, 0, false, 0b1},
		{0b1, 3, 0, false, 0b1},
		{0b11, 1, 0, true, 0b10},
		{0b11, 2, 0, true, 0},
		{0b11, 3, 0, false, 0b11},
		{0b111, 1, 0, true, 0b110},
		{0b111, 2, 0, true, 0b100},
		{0b111, 3, 0, true, 0},
		{0b10110110, 1, 1, true, 0b10110100},
		{0b10110110, 2, 1, true, 0b10110000},
		{0b10110110, 3, 0, false, 0b10110110},
		{0b101010101, 2, 0, false, 0b101010101}, // free blocks, but no two in a row
		{0b11011011, 3, 0, false, 0b11011011},
		{0b11101011, 3, 5, true, 0b00001011},
		{0b11110, 3, 1, true, 0b10000},
		{1 << 63, 1, 63, true, 0},
		{1 << 63, 2, 0, false, 1 << 63},
		{3 << 62, 2, 62, true, 0},
		{3<<62 | 1, 2, 62, true, 1},
		{3<<62 | 1, 3, 0, false, 3<<62 | 1},
		{7 << 61, 3, 61, true, 0},
		{1<<64 - 1, 1, 0, true, 1<<64 - 2},
		{1<<64 - 1, 3, 0, true, 1<<64 - 8},
	} {
		words := p.filled(x.was)
		m := newTape(words...)
		if at, ok := Claim(m, p.l, x.run); at != x.at || ok != x.ok {
			t.Fatalf("Claim(%d) of %b = %d, %v; want %d, %v", x.run, x.was, at, ok, x.at, x.ok)
		}
		words[0] = x.left
		m.holds(t, words, mark{update, 0, x.was, x.left})
	}
}

// P14.2: one Update, whatever the map is: all maps of few blocks, and any ones of many.
func TestClaim(t *testing.T) {
	for blocks := 1; blocks <= 10; blocks++ {
		for _, p := range plans(t, blocks) {
			for bits := range uint64(1) << blocks {
				for run := 1; run <= 3; run++ {
					claim(t, p, bits, run)
				}
			}
		}
	}
	pick := some(14)
	for _, p := range plans(t, 32, 63, 64) {
		for range 300 {
			bits := uint64(pick(1<<31))<<33 ^ uint64(pick(1<<31))<<16 ^ uint64(pick(1<<31))
			if pick(2) == 0 {
				bits &= bits >> 1 << uint(pick(60)) // few of them
			}
			for run := 1; run <= 3; run++ {
				claim(t, p, bits&all(p.blocks), run)
			}
		}
	}
}

// P14.2: of a run of all blocks, and of one more than there are, in a layout that is begun.
func TestClaimAll(t *testing.T) {
	for _, p := range plans(t, 1, 2, 3) {
		for run := 1; run <= 3; run++ {
			m, _ := arena.New(p.words())
			Begin(m, p.l)
			if at, ok := Claim(m, p.l, run); at != 0 || ok != (run <= p.blocks) {
				t.Errorf("Claim(%d) of %d blocks = %d, %v", run, p.blocks, at, ok)
			}
			if m.Touched() != 2 || m.Read(0) != all(p.blocks)&^all(min(run, p.blocks)) && run <= p.blocks {
				t.Errorf("Claim(%d) of %d blocks: %d touches, the map %b", run, p.blocks, m.Touched(), m.Read(0))
			}
		}
	}
}

// P14.2: no run of that length: 0, false, and no touch.
func TestClaimNoRun(t *testing.T) {
	for _, p := range plans(t, 1, 3, 4, 64) {
		words := p.filled(all(p.blocks))
		m := newTape(words...)
		for _, run := range noRuns() {
			if at, ok := Claim(m, p.l, run); at != 0 || ok {
				t.Errorf("Claim(%d) = %d, %v; want 0, false", run, at, ok)
			}
		}
		m.holds(t, words)
	}
}

// P14.2: what is claimed is so by the map as it is at the touch, not as it was ahead of that.
func TestClaimAtTheTouch(t *testing.T) {
	p := plans(t, 8)[1]
	for was := range uint64(256) {
		for _, then := range []uint64{0, 1, 0b110, 0b11100, 0b10000000, 0b11111111} {
			words := p.filled(was)
			m := newTape(words...)
			m.others = func(words []uint64) { words[0] = then }
			at, ok := Claim(m, p.l, 2)
			want, wants := first(then, 2)
			if at != want || ok != wants {
				t.Fatalf("Claim(2) of %b, then %b = %d, %v; want %d, %v", was, then, at, ok, want, wants)
			}
			words[0] = then
			if wants {
				words[0] &^= the(want, 2)
			}
			m.holds(t, words, mark{update, 0, then, words[0]})
		}
	}
}

// twice is a memory that asks what an Update makes of a word once more, since another one has come in between.
type twice struct {
	*tape
	early uint64
}

func (m twice) Update(at int, f func(v uint64) uint64) uint64 {
	f(m.early)
	return m.tape.Update(at, f)
}

// P14.2: what counts is the map of which the Update came to be.
func TestClaimAskedTwice(t *testing.T) {
	p := plans(t, 8)[0]
	for early := range uint64(256) {
		for _, last := range []uint64{0, 1, 0b110, 0b1110000, 0b11111111} {
			for run := 1; run <= 3; run++ {
				m := twice{newTape(p.filled(last)...), early}
				at, ok := Claim(m, p.l, run)
				if want, wants := first(last, run); at != want || ok != wants {
					t.Fatalf("Claim(%d) of %b, in the end %b = %d, %v; want %d, %v", run, early, last, at, ok, want, wants)
				}
			}
		}
	}
}

// deaf is a memory that asks nothing of what an Update makes of a word, as one of a program that is stopped.
type deaf struct{ *tape }

func (m deaf) Update(int, func(v uint64) uint64) uint64 { return 1<<64 - 1 }

// P14.2: nothing is claimed of a memory that does no Update.
func TestClaimDeaf(t *testing.T) {
	p := plans(t, 3)[0]
	if at, ok := Claim(deaf{newTape(p.filled(7)...)}, p.l, 1); at != 0 || ok {
		t.Errorf("Claim(1) = %d, %v; want 0, false", at, ok)
	}
}

// backs are the touches of giving blocks back, behind which the words are changed.
func (p plan) backs(words []uint64, block, run int) []mark {
	var marks []mark
	for b := block + run - 1; b >= block; b-- {
		at := p.entry(b)
		marks = append(marks, mark{write, at, words[at], 0})
		words[at] = 0
	}
	was := words[0]
	// Of what is free already nothing is given: it is the map's own promise (4).
	if was&the(block, run) == 0 {
		words[0] |= the(block, run)
	}
	return append(marks, mark{update, 0, was, words[0]})
}

// P14.2: by hand: the entries from the last one to the first one, then the map.
func TestBackByHand(t *testing.T) {
	l, _ := layout.New(136, 1, 0) // 4 blocks; their entries are at 4 to 7
	words := make([]uint64, 136)
	copy(words, []uint64{0b0001, 5, 6, 7, 401, 194, 3, 4})
	m := newTape(words...)
	Back(m, l, 1, 2)
	copy(words, []uint64{0b0111, 5, 6, 7, 401, 0, 0, 4})
	m.holds(t, words, mark{write, 6, 3, 0}, mark{write, 5, 194, 0}, mark{update, 0, 0b0001, 0b0111})
	m.marks = nil
	Back(m, l, 3, 1)
	copy(words, []uint64{0b1111, 5, 6, 7, 401, 0, 0, 0})
	m.holds(t, words, mark{write, 7, 4, 0}, mark{update, 0, 0b0111, 0b1111})
}

// P14.2: all runs of all layouts, the first and the last block among them; all else is left.
func TestBack(t *testing.T) {
	for _, p := range plans(t, 1, 2, 3, 4, 5, 8, 63, 64) {
		for block := range p.blocks {
			for run := 1; run <= 3 && block+run <= p.blocks; run++ {
				for _, bits := range []uint64{0, all(p.blocks) &^ the(block, run), 0x5555555555555555 &^ the(block, run)} {
					words := p.filled(bits)
					m := newTape(words...)
					Back(m, p.l, block, run)
					marks := p.backs(words, block, run)
					m.holds(t, words, marks...)
				}
			}
		}
	}
}

// P14.2: whatever the map was: only of a run of which no block is free it becomes another one.
func TestBackOfFree(t *testing.T) {
	p := plans(t, 6)[1]
	for bits := range uint64(64) {
		for block := range 6 {
			for run := 1; run <= 3 && block+run <= 6; run++ {
				words := p.filled(bits)
				m := newTape(words...)
				Back(m, p.l, block, run)
				marks := p.backs(words, block, run)
				m.holds(t, words, marks...)
			}
		}
	}
}

// P14.2: no blocks of the layout, or no run, or neither: no touch.
func TestBackNothing(t *testing.T) {
	for _, p := range plans(t, 1, 2, 3, 4, 63, 64) {
		words := p.filled(0)
		m := newTape(words...)
		for _, run := range append(noRuns(), 1, 2, 3) {
			for _, block := range outside(p.blocks) {
				Back(m, p.l, block, run)
			}
		}
		for block := range p.blocks {
			for _, run := range noRuns() {
				Back(m, p.l, block, run)
			}
		}
		for run := 2; run <= 3; run++ { // the first ones are blocks, the last one is not
			for block := max(0, p.blocks-run+1); block < p.blocks; block++ {
				Back(m, p.l, block, run)
			}
		}
		m.holds(t, words)
	}
}

// P14.2: given back, they are so in the map as it is at the last touch; and what others set in between stays.
func TestBackAtTheTouch(t *testing.T) {
	p := plans(t, 6)[2]
	for block := range 6 {
		for run := 1; run <= 3 && block+run <= 6; run++ {
			words := p.filled(0)
			m := newTape(words...)
			n := 0
			m.others = func(w []uint64) {
				// One block is freed, or claimed, by others ahead of each touch.
				b := (block + run + n) % 6
				if n++; b < block || b >= block+run {
					w[0] ^= 1 << b
					w[p.entry(b)] = 401
				}
			}
			Back(m, p.l, block, run)
			m.others = nil
			if n != run+1 {
				t.Fatalf("Back(%d, %d): %d touches; want %d", block, run, n, run+1)
			}
			var free uint64
			for i := range n {
				if b := (block + run + i) % 6; b < block || b >= block+run {
					free ^= 1 << b
					words[p.entry(b)] = 401
				}
			}
			for b := block; b < block+run; b++ {
				words[p.entry(b)] = 0
			}
			words[0] = free | the(block, run)
			m.holds(t, words, m.marks...)
		}
	}
}

// P14.2, P14.5: what is claimed and given back is the same map; and of two claimed runs no block is in both.
func TestClaimAndBack(t *testing.T) {
	for _, p := range plans(t, 1, 3, 7, 64) {
		m, _ := arena.New(p.words())
		Begin(m, p.l)
		pick := some(uint64(p.blocks))
		var taken uint64
		var runs [][2]int
		for range 2000 {
			if pick(2) == 0 && len(runs) > 0 {
				i := pick(len(runs))
				Back(m, p.l, runs[i][0], runs[i][1])
				taken &^= the(runs[i][0], runs[i][1])
				runs = slices.Delete(runs, i, i+1)
			} else {
				run := 1 + pick(3)
				at, ok := Claim(m, p.l, run)
				if want, wants := first(all(p.blocks)&^taken, run); at != want || ok != wants {
					t.Fatalf("Claim(%d) of %b = %d, %v; want %d, %v", run, all(p.blocks)&^taken, at, ok, want, wants)
				}
				if ok {
					taken |= the(at, run)
					runs = append(runs, [2]int{at, run})
				}
			}
			if w := m.Read(0); w != all(p.blocks)&^taken {
				t.Fatalf("the map %b; want %b", w, all(p.blocks)&^taken)
			}
		}
	}
}
