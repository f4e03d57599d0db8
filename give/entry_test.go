package give

import (
	"slices"
	"testing"

	"demesne/api"
	"demesne/arena"
	"demesne/layout"
	"demesne/table"
)

// asked is a question of Waiting: of which owner, and behind how many touches.
type asked struct {
	owner  uint8
	behind int
}

// P14.3: one Read, of every word of an entry's bits, and of words with bits above those.
func TestEntry(t *testing.T) {
	p := plans(t, 3)[1]
	m := newTape(p.filled(7)...)
	look := func(w uint64) {
		t.Helper()
		m.words[p.entry(1)], m.marks = w, nil
		before := slices.Clone(m.words)
		if e := Entry(m, p.l, 1); e != told(w) {
			t.Fatalf("Entry of %d = %v; want %v", w, e, told(w))
		}
		m.holds(t, before, mark{read, p.entry(1), w, w})
	}
	for w := range uint64(1 << 14) {
		look(w)
	}
	for at := 13; at < 64; at++ {
		for _, w := range []uint64{0, 1, 401, 194, 3, 4, 132, 165, 8191} {
			look(w | 1<<at)
		}
	}
	look(1<<64 - 1)
}

// P14.3: by hand: entries of each kind, and words that are none's.
func TestEntryByHand(t *testing.T) {
	l, _ := layout.New(136, 1, 0) // 4 blocks; their entries are at 4 to 7
	for _, x := range []struct {
		w uint64
		e table.Entry
	}{
		{0, table.Entry{}},
		{1, table.Entry{Kind: table.Small}},
		{401, table.Entry{Kind: table.Small, Class: 2, Owner: 3}},
		{194, table.Entry{Kind: table.Head, Run: 2, Owner: 1}},
		{3, table.Entry{Kind: table.Tail}},
		{4 + 63*128, table.Entry{Kind: table.Emptied, Owner: 63}},
		{5 + 3*32 + 7*128, table.Entry{Kind: table.Spent, Run: 3, Owner: 7}},
		{2, table.Entry{}},      // a Head of no blocks
		{5, table.Entry{}},      // a Spent one of no blocks
		{6, table.Entry{}},      // no kind
		{7, table.Entry{}},      // no kind
		{8, table.Entry{}},      // Slack of a class
		{4 + 32, table.Entry{}}, // Emptied of a run
		{3 + 128, table.Entry{}},
		{1 + 64*128, table.Entry{}},
	} {
		for block := range 4 {
			m, _ := arena.New(136)
			m.Write(4+block, x.w)
			if e := Entry(m, l, block); e != x.e || m.Touched() != 2 || m.Last() != 4+block {
				t.Errorf("Entry(%d) of %d = %v, at %d; want %v, at %d", block, x.w, e, m.Last(), x.e, 4+block)
			}
		}
	}
}

// P14.3: each block of a layout, and none that is not its.
func TestEntryOfBlocks(t *testing.T) {
	for _, p := range plans(t, 1, 2, 5, 63, 64) {
		words := p.filled(all(p.blocks))
		for block := range p.blocks {
			words[p.entry(block)] = 1 + 8*uint64(block%4) + 128*uint64(block)
		}
		m := newTape(words...)
		for block := range p.blocks {
			m.marks = nil
			want := table.Entry{Kind: table.Small, Class: uint8(block % 4), Owner: uint8(block)}
			if e := Entry(m, p.l, block); e != want {
				t.Fatalf("Entry(%d) = %v; want %v", block, e, want)
			}
			m.holds(t, words, mark{read, p.entry(block), words[p.entry(block)], words[p.entry(block)]})
		}
		m.marks = nil
		for _, block := range outside(p.blocks) {
			if e := Entry(m, p.l, block); e != (table.Entry{}) {
				t.Errorf("Entry(%d) of %d blocks = %v; want a zero one", block, p.blocks, e)
			}
		}
		m.holds(t, words)
	}
}

// entries are entries at the edges of all their parts, and past these: those that may be, and those that may not.
func entries() []table.Entry {
	var l []table.Entry
	for _, kind := range []uint8{0, 1, 2, 3, 4, 5, 6, 7, 8, 255} {
		for _, class := range []uint8{0, 1, 3, 4, 255} {
			for _, run := range []uint8{0, 1, 2, 3, 4, 5, 255} {
				for _, owner := range []uint8{0, 1, 31, 63, 64, 255} {
					l = append(l, table.Entry{Kind: kind, Class: class, Run: run, Owner: owner})
				}
			}
		}
	}
	return l
}

// P14.3: one Write of an entry that may be; nothing, if it may not.
func TestSet(t *testing.T) {
	for _, p := range plans(t, 1, 3, 64) {
		m := newTape(p.filled(all(p.blocks))...)
		for i, e := range entries() {
			block := i % p.blocks
			words, at := slices.Clone(m.words), p.entry(block)
			m.marks = nil
			Set(m, p.l, block, e)
			w, may := number(e)
			if !may {
				m.holds(t, words)
				continue
			}
			was := words[at]
			words[at] = w
			m.holds(t, words, mark{write, at, was, w})
			if is := Entry(m, p.l, block); is != e {
				t.Fatalf("Entry behind Set of %v = %v", e, is)
			}
		}
	}
}

// P14.3: by hand.
func TestSetByHand(t *testing.T) {
	l, _ := layout.New(100, 1, 1)
	words := make([]uint64, 71)
	m := newTape(words...)
	Set(m, l, 0, table.Entry{Kind: table.Small, Class: 2, Owner: 3})
	Set(m, l, 1, table.Entry{Kind: table.Head, Run: 2, Owner: 1})
	Set(m, l, 1, table.Entry{Kind: table.Head, Run: 0, Owner: 1})
	Set(m, l, 0, table.Entry{})
	Set(m, l, 2, table.Entry{Kind: table.Tail})
	Set(m, l, -1, table.Entry{Kind: table.Tail})
	words[6] = 194
	m.holds(t, words, mark{write, 5, 0, 401}, mark{write, 6, 0, 194}, mark{write, 5, 401, 0})
}

// P14.3: no such block: no touch, whether the entry may be or not.
func TestSetNoBlock(t *testing.T) {
	for _, p := range plans(t, 1, 2, 63, 64) {
		words := p.filled(all(p.blocks))
		m := newTape(words...)
		for _, block := range outside(p.blocks) {
			for _, e := range []table.Entry{{}, {Kind: table.Tail}, {Kind: table.Small, Owner: 63}, {Kind: table.Small, Owner: 64}, {Kind: 6}, {Kind: table.Head}} {
				Set(m, p.l, block, e)
			}
		}
		m.holds(t, words)
	}
}

// waiting does Waiting on a memory, and holds all that is touched, asked and changed against the chapter. The owners' bits tell of whom is says so.
func waiting(t *testing.T, p plan, m *tape, owners uint64) {
	t.Helper()
	words, marks, asks := slices.Clone(m.words), []mark(nil), []asked(nil)
	for b := range p.blocks {
		w := words[p.entry(b)]
		marks = append(marks, mark{read, p.entry(b), w, w})
		e := told(w)
		if e.Kind != 4 && e.Kind != 5 {
			continue
		}
		asks = append(asks, asked{e.Owner, len(marks)})
		run := max(1, int(e.Run))
		if owners>>e.Owner&1 == 1 && b+run <= p.blocks {
			marks = append(marks, p.backs(words, b, run)...)
		}
	}
	m.marks = nil
	var were []asked
	Waiting(m, p.l, func(owner uint8) bool {
		were = append(were, asked{owner, len(m.marks)})
		return owners>>owner&1 == 1
	})
	m.holds(t, words, marks...)
	if !slices.Equal(were, asks) {
		t.Fatalf("asked %v; want %v", were, asks)
	}
}

// P14.4: by hand: of two owners, Emptied and Spent ones, among others.
func TestWaitingByHand(t *testing.T) {
	l, _ := layout.New(3+1+33*9, 1, 0) // 9 blocks; their entries are at 4 to 12
	first := make([]uint64, 3+1+33*9)
	copy(first, []uint64{0b1, 0, 0, 0,
		0,                // 0: free
		4 + 128,          // 1: Emptied, of 1
		401,              // 2: Small
		5 + 2*32 + 2*128, // 3: Spent, of 2 blocks, of 2
		3,                // 4: its Tail
		4 + 2*128,        // 5: Emptied, of 2
		5 + 3*32 + 128,   // 6: Spent, of 3 blocks, of 1
		3, 3,             // 7, 8: its Tails, the last block among them
	})
	for _, x := range []struct {
		is    func(owner uint8) bool
		left  []uint64
		asks  []asked
		marks []mark
	}{
		{
			func(owner uint8) bool { return owner == 1 },
			[]uint64{0b111000011, 0, 0, 0, 0, 0, 401, 5 + 2*32 + 2*128, 3, 4 + 2*128, 0, 0, 0},
			[]asked{{1, 2}, {2, 6}, {2, 8}, {1, 9}},
			[]mark{
				{read, 4, 0, 0},
				{read, 5, 132, 132}, {write, 5, 132, 0}, {update, 0, 0b1, 0b11},
				{read, 6, 401, 401},
				{read, 7, 325, 325}, {read, 8, 3, 3}, {read, 9, 260, 260},
				{read, 10, 229, 229}, {write, 12, 3, 0}, {write, 11, 3, 0}, {write, 10, 229, 0}, {update, 0, 0b11, 0b111000011},
				{read, 11, 0, 0}, {read, 12, 0, 0},
			},
		},
		{
			func(owner uint8) bool { return owner == 2 },
			[]uint64{0b111001, 0, 0, 0, 0, 132, 401, 0, 0, 0, 229, 3, 3},
			[]asked{{1, 2}, {2, 4}, {2, 9}, {1, 12}},
			[]mark{
				{read, 4, 0, 0}, {read, 5, 132, 132}, {read, 6, 401, 401},
				{read, 7, 325, 325}, {write, 8, 3, 0}, {write, 7, 325, 0}, {update, 0, 0b1, 0b11001},
				{read, 8, 0, 0},
				{read, 9, 260, 260}, {write, 9, 260, 0}, {update, 0, 0b11001, 0b111001},
				{read, 10, 229, 229}, {read, 11, 3, 3}, {read, 12, 3, 3},
			},
		},
		{
			func(uint8) bool { return false },
			first[:13],
			[]asked{{1, 2}, {2, 4}, {2, 6}, {1, 7}},
			[]mark{
				{read, 4, 0, 0}, {read, 5, 132, 132}, {read, 6, 401, 401}, {read, 7, 325, 325}, {read, 8, 3, 3},
				{read, 9, 260, 260}, {read, 10, 229, 229}, {read, 11, 3, 3}, {read, 12, 3, 3},
			},
		},
	} {
		m := newTape(first...)
		var asks []asked
		Waiting(m, l, func(owner uint8) bool {
			asks = append(asks, asked{owner, len(m.marks)})
			return x.is(owner)
		})
		if !slices.Equal(asks, x.asks) {
			t.Errorf("asked %v; want %v", asks, x.asks)
		}
		m.holds(t, slices.Concat(x.left, first[13:]), x.marks...)
	}
}

// P14.4: no block that waits: all entries are read, and is is asked of nobody.
func TestWaitingNone(t *testing.T) {
	for _, p := range plans(t, 1, 2, 3, 64) {
		m := newTape(p.filled(all(p.blocks) &^ 1)...)
		for _, w := range []uint64{0, 1, 401, 194, 3, 5, 6, 36, 1 << 13, 4 | 1<<13, 1<<64 - 1} {
			for b := range p.blocks {
				m.words[p.entry(b)] = w
			}
			waiting(t, p, m, 1<<64-1)
		}
	}
}

// P14.4: one that waits, whichever block it is; of all owners, of which is says so of one, of all but one, of all, of none.
func TestWaitingOne(t *testing.T) {
	for _, p := range plans(t, 1, 2, 3, 7, 64) {
		for block := range p.blocks {
			for run := range min(4, p.blocks-block+1) {
				for _, owner := range []uint64{0, 1, 40, 63} {
					w := 4 + owner*128
					if run > 0 {
						w = 5 + uint64(run)*32 + owner*128
					}
					for _, owners := range []uint64{0, 1 << owner, 1<<64 - 1 - 1<<owner, 1<<64 - 1} {
						m := newTape(p.filled(all(p.blocks) &^ the(block, max(run, 1)))...)
						for b := block + 1; b < block+run; b++ {
							m.words[p.entry(b)] = 3
						}
						m.words[p.entry(block)] = w
						waiting(t, p, m, owners)
					}
				}
			}
		}
	}
}

// P14.4: all rows of entries of three blocks, and any ones of more: runs that lie over each other, and such as go beyond the last block, of which nothing is given back.
func TestWaiting(t *testing.T) {
	kinds := []uint64{0, 1, 3, 194, 4, 132, 37, 69, 101, 165, 197, 229, 5}
	for _, p := range plans(t, 3) {
		for i := range len(kinds) * len(kinds) * len(kinds) {
			for owners := range uint64(4) {
				m := newTape(p.filled(0)...)
				m.words[p.entry(0)] = kinds[i%len(kinds)]
				m.words[p.entry(1)] = kinds[i/len(kinds)%len(kinds)]
				m.words[p.entry(2)] = kinds[i/len(kinds)/len(kinds)]
				waiting(t, p, m, owners)
			}
		}
	}
	pick := some(4)
	for _, p := range plans(t, 4, 17, 63, 64) {
		for range 200 {
			m := newTape(p.filled(uint64(pick(1 << 31)))...)
			for b := range p.blocks {
				m.words[p.entry(b)] = uint64(pick(6) + 32*pick(4)*pick(2) + 128*pick(64))
			}
			waiting(t, p, m, uint64(pick(1<<31))<<33^uint64(pick(1<<31)))
		}
	}
}

// P14.4: an entry counts as it is when its block's turn comes: what waits behind that stays, what waits ahead of it is given back.
func TestWaitingAtTheTouch(t *testing.T) {
	p := plans(t, 6)[1]
	for late := range 6 {
		for when := range 7 {
			m := newTape(p.filled(0)...)
			m.others = func(words []uint64) {
				if len(m.marks) == when {
					words[p.entry(late)] = 4 + 5*128
				}
			}
			var asks int
			Waiting(m, p.l, func(owner uint8) bool {
				asks++
				return owner == 5
			})
			want := uint64(0)
			if when <= late {
				want = 1 << late
			}
			if m.words[0] != want || asks != int(want>>late) || m.words[p.entry(late)] == 4+5*128 != (when > late && when < 6) {
				t.Errorf("the block %d waits ahead of the touch %d: the map %b, asked %d times, its entry %d", late, when, m.words[0], asks, m.words[p.entry(late)])
			}
		}
	}
}

// P14.4: is is asked of each block that waits, at its time: what it says may change.
func TestWaitingAskedAnew(t *testing.T) {
	p := plans(t, 5)[0]
	m := newTape(p.filled(0)...)
	for b := range 5 {
		m.words[p.entry(b)] = 4 + 9*128
	}
	n := 0
	Waiting(m, p.l, func(owner uint8) bool {
		n++
		return owner == 9 && n%2 == 0
	})
	if n != 5 || m.words[0] != 0b01010 || m.words[p.entry(1)] != 0 || m.words[p.entry(2)] != 4+9*128 {
		t.Errorf("asked %d times; the map %b", n, m.words[0])
	}
}

// P14.4: what is asks of the memory itself is its own affair.
func TestWaitingAsksMemory(t *testing.T) {
	p := plans(t, 2)[0]
	m := newTape(p.filled(0)...)
	m.words[p.entry(0)], m.words[p.entry(1)], m.words[p.l.Answer(0)] = 4, 4, 1
	Waiting(m, p.l, func(owner uint8) bool {
		return m.Update(p.l.Answer(int(owner)), func(v uint64) uint64 { return v - 1 }) == 1
	})
	if m.words[0] != 1 || m.words[p.entry(0)] != 0 || m.words[p.entry(1)] != 4 {
		t.Errorf("the map %b, the entries %d, %d; want 1, 0, 4", m.words[0], m.words[p.entry(0)], m.words[p.entry(1)])
	}
}

// R1: no memory at all: nothing, also beside a layout, a block, a run, an entry, or a function that there is not.
func TestNoMemory(t *testing.T) {
	var none *arena.Arena
	for _, m := range []api.Mem{nil, none} {
		for _, l := range []layout.Layout{{}, lay(t, 1, 0, 1), lay(t, 64, 8, 64)} {
			Begin(m, l)
			for _, run := range append(noRuns(), 1, 2, 3) {
				if at, ok := Claim(m, l, run); at != 0 || ok {
					t.Errorf("Claim(%d) of no memory = %d, %v; want 0, false", run, at, ok)
				}
				for _, block := range append(outside(l.Blocks()), 0) {
					Back(m, l, block, run)
				}
			}
			for _, block := range append(outside(l.Blocks()), 0) {
				if e := Entry(m, l, block); e != (table.Entry{}) {
					t.Errorf("Entry(%d) of no memory = %v; want a zero one", block, e)
				}
				Set(m, l, block, table.Entry{Kind: table.Tail})
				Set(m, l, block, table.Entry{Kind: 6})
			}
			Waiting(m, l, nil)
			Waiting(m, l, func(owner uint8) bool {
				// A memory that answers 0 has Slack blocks alone.
				t.Errorf("asked of %d without a memory", owner)
				return true
			})
		}
	}
}

// R1: a layout that there is not has no blocks: the map in which none is free is all that is written of it.
func TestNoLayout(t *testing.T) {
	var none layout.Layout
	p := plans(t, 3)[0]
	words := p.filled(7)
	for b := range 3 {
		words[p.entry(b)] = 4
	}
	m := newTape(words...)
	for _, run := range append(noRuns(), 1, 2, 3) {
		for _, block := range append(outside(0), 0, 1, 2, 3) {
			Back(m, none, block, run)
		}
	}
	for _, block := range append(outside(0), 0, 1, 2, 3) {
		if e := Entry(m, none, block); e != (table.Entry{}) {
			t.Errorf("Entry(%d) of no layout = %v; want a zero one", block, e)
		}
		Set(m, none, block, table.Entry{Kind: table.Tail})
		Set(m, none, block, table.Entry{Kind: 6})
	}
	Waiting(m, none, nil)
	Waiting(m, none, func(owner uint8) bool { t.Errorf("asked of %d without a layout", owner); return true })
	for _, run := range noRuns() {
		if at, ok := Claim(m, none, run); at != 0 || ok {
			t.Errorf("Claim(%d) of no layout = %d, %v; want 0, false", run, at, ok)
		}
	}
	m.holds(t, words)
	Begin(m, none)
	words[0] = 0
	m.holds(t, words, mark{write, 0, 7, 0})
	for run := 1; run <= 3; run++ {
		m.marks = nil
		if at, ok := Claim(m, none, run); at != 0 || ok {
			t.Errorf("Claim(%d) of no layout = %d, %v; want 0, false", run, at, ok)
		}
		m.holds(t, words, mark{update, 0, 0, 0})
	}
}

// R1: no function that is asked: nobody says so of any owner, and nothing is touched.
func TestNobodyAsked(t *testing.T) {
	for _, p := range plans(t, 1, 3, 64) {
		words := p.filled(0)
		for b := range p.blocks {
			words[p.entry(b)] = 4 + uint64(b)*128
		}
		m := newTape(words...)
		Waiting(m, p.l, nil)
		m.holds(t, words)
	}
}

// R1: a memory that is shorter than the layout is asked for places that it has not, and what it answers counts.
func TestShortMemory(t *testing.T) {
	l := lay(t, 64, 8, 64)
	m, _ := arena.New(3)
	Begin(m, l)
	if at, ok := Claim(m, l, 3); at != 0 || !ok {
		t.Errorf("Claim(3) = %d, %v; want 0, true", at, ok)
	}
	Set(m, l, 0, table.Entry{Kind: table.Emptied})
	Waiting(m, l, func(owner uint8) bool { return true })
	Back(m, l, 1, 2)
	if e := Entry(m, l, 63); e != (table.Entry{}) || !slices.Equal(m.All(), []uint64{1<<64 - 2, 0, 0}) {
		t.Errorf("the entry %v, the words %v", e, m.All())
	}
}
