package table

import (
	"testing"

	"demesne/api"
	"demesne/class"
)

// formula is the word as the chapter's text tells it, by sums and products.
func formula(e Entry) uint64 {
	return uint64(e.Kind) + uint64(e.Class)*8 + uint64(e.Run)*32 + uint64(e.Owner)*128
}

// lawful is the chapter's rule for entries that may be, kind by kind.
func lawful(e Entry) bool {
	switch e.Kind {
	case 0, 3:
		return e == Entry{Kind: e.Kind}
	case 1:
		return e.Class <= 3 && e.Run == 0 && e.Owner <= 63
	case 2, 5:
		return e.Class == 0 && e.Run >= 1 && e.Run <= 3 && e.Owner <= 63
	case 4:
		return e.Class == 0 && e.Run == 0 && e.Owner <= 63
	}
	return false
}

// entries hands out entries of all kinds and of numbers that are no kind's,
// each number in and past what may be, with every owner that a byte holds.
func entries(do func(e Entry)) {
	numbers := []uint8{0, 1, 2, 3, 4, 5, 6, 7, 8, 9, 63, 64, 127, 128, 255}
	for _, kind := range numbers {
		for _, class := range numbers {
			for _, run := range numbers {
				for owner := range 256 {
					do(Entry{Kind: kind, Class: class, Run: run, Owner: uint8(owner)})
				}
			}
		}
	}
}

// row is an entry and its word, worked out by hand.
type row struct {
	e Entry
	w uint64
}

// rows are entries of all six kinds, at the edges of what each has; the
// chapter's two examples are among them.
func rows() []row {
	return []row{
		{Entry{}, 0},
		{Entry{Kind: Slack}, 0},
		{Entry{Kind: Small}, 1},
		{Entry{Kind: Small, Owner: 63}, 1 + 63*128},
		{Entry{Kind: Small, Class: 1}, 1 + 8},
		{Entry{Kind: Small, Class: 2, Owner: 3}, 401},
		{Entry{Kind: Small, Class: 3}, 1 + 24},
		{Entry{Kind: Small, Class: 3, Owner: 63}, 1 + 24 + 63*128},
		{Entry{Kind: Head, Run: 1}, 2 + 32},
		{Entry{Kind: Head, Run: 2, Owner: 1}, 194},
		{Entry{Kind: Head, Run: 3}, 2 + 96},
		{Entry{Kind: Head, Run: 3, Owner: 63}, 2 + 96 + 63*128},
		{Entry{Kind: Tail}, 3},
		{Entry{Kind: Emptied}, 4},
		{Entry{Kind: Emptied, Owner: 1}, 4 + 128},
		{Entry{Kind: Emptied, Owner: 63}, 4 + 63*128},
		{Entry{Kind: Spent, Run: 1}, 5 + 32},
		{Entry{Kind: Spent, Run: 2, Owner: 32}, 5 + 64 + 32*128},
		{Entry{Kind: Spent, Run: 3, Owner: 63}, 5 + 96 + 63*128},
	}
}

// P5.1: the entry's word, by hand, and the entry whose word it is.
func TestPutAndTakeByHand(t *testing.T) {
	for _, r := range rows() {
		if w, e := Put(r.e); w != r.w || e != api.OK {
			t.Errorf("Put(%+v) = %d, %d; want %d", r.e, w, e, r.w)
		}
		if x, e := Take(r.w); x != r.e || e != api.OK {
			t.Errorf("Take(%d) = %+v, %d; want %+v", r.w, x, e, r.e)
		}
	}
}

// P5.1: the kinds count from Slack's 0 on, in the chapter's order.
func TestKinds(t *testing.T) {
	if kinds := [6]uint8{Slack, Small, Head, Tail, Emptied, Spent}; kinds != [6]uint8{0, 1, 2, 3, 4, 5} {
		t.Errorf("kinds: %v", kinds)
	}
}

// P5.1: of all that may be the word; of all else 0 and the error.
func TestPut(t *testing.T) {
	entries(func(x Entry) {
		w, e := Put(x)
		if lawful(x) && (e != api.OK || w != formula(x)) {
			t.Fatalf("Put(%+v) = %d, %d; want %d", x, w, e, formula(x))
		}
		if !lawful(x) && (e != api.ErrArg || w != 0) {
			t.Fatalf("Put(%+v) = %d, %d; want 0, ErrArg", x, w, e)
		}
	})
}

// P5.1: each single thing that may not be is refused by itself.
func TestPutRefuses(t *testing.T) {
	for _, x := range []Entry{
		{Kind: 6}, {Kind: 7}, {Kind: 8}, {Kind: 255}, {Kind: 6, Owner: 1}, {Kind: 6, Run: 1}, {Kind: 9, Class: 1},
		{Kind: Slack, Class: 1}, {Kind: Slack, Run: 1}, {Kind: Slack, Owner: 1}, {Kind: Slack, Owner: 63},
		{Kind: Small, Class: 4}, {Kind: Small, Class: 255}, {Kind: Small, Run: 1}, {Kind: Small, Class: 3, Run: 3}, {Kind: Small, Owner: 64}, {Kind: Small, Owner: 255},
		{Kind: Head}, {Kind: Head, Owner: 1}, {Kind: Head, Run: 4}, {Kind: Head, Run: 255}, {Kind: Head, Run: 1, Class: 1}, {Kind: Head, Run: 1, Owner: 64},
		{Kind: Tail, Class: 1}, {Kind: Tail, Run: 1}, {Kind: Tail, Owner: 1}, {Kind: Tail, Owner: 63},
		{Kind: Emptied, Class: 1}, {Kind: Emptied, Run: 1}, {Kind: Emptied, Owner: 64},
		{Kind: Spent}, {Kind: Spent, Owner: 1}, {Kind: Spent, Run: 4}, {Kind: Spent, Run: 3, Class: 3}, {Kind: Spent, Run: 3, Owner: 64},
	} {
		if w, e := Put(x); w != 0 || e != api.ErrArg {
			t.Errorf("Put(%+v) = %d, %d; want 0, ErrArg", x, w, e)
		}
	}
}

// P5.1: an entry may have each class that there is, each owner, and each run;
// none beyond them. By the layers' own limits, wherever these lie.
func TestEdges(t *testing.T) {
	may := func(x Entry, want bool) {
		t.Helper()
		if _, e := Put(x); (e == api.OK) != want {
			t.Errorf("Put(%+v): %d", x, e)
		}
	}
	for c := range class.Classes + 1 {
		may(Entry{Kind: Small, Class: uint8(c)}, c < class.Classes)
	}
	for _, kind := range []uint8{Head, Spent} {
		for run := range api.MaxRun + 2 {
			may(Entry{Kind: kind, Run: uint8(run)}, run >= 1 && run <= api.MaxRun)
		}
	}
	for owner := range api.MaxThreads + 1 {
		for _, x := range []Entry{{Kind: Small}, {Kind: Head, Run: 1}, {Kind: Emptied}, {Kind: Spent, Run: 1}} {
			x.Owner = uint8(owner)
			may(x, owner < api.MaxThreads)
		}
	}
}

// P5.1, P5.3: of all words of the bits that entries have, and of some bits
// more, just those of entries that may be are taken, and each is put back as
// it was.
func TestTakeEveryWord(t *testing.T) {
	var taken [6]int
	for w := uint64(0); w < 1<<18; w++ {
		x, e := Take(w)
		if e != api.OK {
			if e != api.ErrForm || x != (Entry{}) {
				t.Fatalf("Take(%d) = %+v, %d; want a zero entry, ErrForm", w, x, e)
			}
			continue
		}
		if !lawful(x) || formula(x) != w {
			t.Fatalf("Take(%d) = %+v", w, x)
		}
		if back, e := Put(x); back != w || e != api.OK {
			t.Fatalf("Put(Take(%d)) = %d, %d", w, back, e)
		}
		taken[x.Kind]++
	}
	// One Slack, one Tail; 64 owners, by 4 classes, or by 3 runs.
	if want := [6]int{1, 4 * 64, 3 * 64, 1, 64, 3 * 64}; taken != want {
		t.Errorf("taken by kinds: %v; want %v", taken, want)
	}
}

// P5.1: words that are no entry's, for one reason each.
func TestTakeRefuses(t *testing.T) {
	for _, w := range []uint64{
		6, 7, 6 + 32, 7 + 128, // no kind
		8, 24, 32, 96, 128, 63 * 128, // Slack, with a class, a run, an owner
		1 + 32, 1 + 96, 401 + 64, // Small, with a run
		2, 2 + 128, 2 + 8 + 32, 194 + 8, // Head, without a run, with a class
		3 + 8, 3 + 32, 3 + 128, // Tail
		4 + 8, 4 + 32, 4 + 128 + 96, // Emptied
		5, 5 + 63*128, 5 + 32 + 24, // Spent
		1<<64 - 1,
	} {
		if x, e := Take(w); x != (Entry{}) || e != api.ErrForm {
			t.Errorf("Take(%d) = %+v, %d; want a zero entry, ErrForm", w, x, e)
		}
	}
}

// P5.1: no bit above those that an entry has may be set, whatever lies below it.
func TestTakeRefusesHighBits(t *testing.T) {
	for _, r := range rows() {
		for at := 13; at < 64; at++ {
			if x, e := Take(r.w | 1<<at); x != (Entry{}) || e != api.ErrForm {
				t.Errorf("Take(%d | 1<<%d) = %+v, %d; want a zero entry, ErrForm", r.w, at, x, e)
			}
		}
	}
}

// P5.2: a Head and a Spent tell of their runs, any other entry of its own block.
func TestBlocks(t *testing.T) {
	for _, owner := range []uint8{0, 1, 63} {
		for run := 1; run <= api.MaxRun; run++ {
			for _, kind := range []uint8{Head, Spent} {
				if x := (Entry{Kind: kind, Run: uint8(run), Owner: owner}); x.Blocks() != run {
					t.Errorf("(%+v).Blocks() = %d; want %d", x, x.Blocks(), run)
				}
			}
		}
		for _, x := range []Entry{
			{}, {Kind: Tail}, {Kind: Emptied, Owner: owner},
			{Kind: Small, Owner: owner}, {Kind: Small, Class: class.Classes - 1, Owner: owner},
		} {
			if x.Blocks() != 1 {
				t.Errorf("(%+v).Blocks() = %d; want 1", x, x.Blocks())
			}
		}
	}
}

// P5.2: entries that may not be are told of by the same words.
func TestBlocksOfWrongEntries(t *testing.T) {
	entries(func(x Entry) {
		want := 1
		if x.Kind == 2 || x.Kind == 5 {
			want = int(x.Run)
		}
		if x.Blocks() != want {
			t.Fatalf("(%+v).Blocks() = %d; want %d", x, x.Blocks(), want)
		}
	})
}

// P5.3: entries and words answer each other, so that unlike entries have
// unlike words; Slack's word is 0.
func TestAnswerEachOther(t *testing.T) {
	seen := map[uint64]Entry{}
	entries(func(x Entry) {
		w, e := Put(x)
		if e != api.OK {
			return
		}
		if back, e := Take(w); back != x || e != api.OK {
			t.Fatalf("Take(Put(%+v)) = %+v, %d", x, back, e)
		}
		if other, ok := seen[w]; ok {
			t.Fatalf("%+v and %+v have one word, %d", other, x, w)
		}
		seen[w] = x
	})
	if want := 1 + 4*64 + 3*64 + 1 + 64 + 3*64; len(seen) != want {
		t.Errorf("%d words; want %d", len(seen), want)
	}
	if w, e := Put(Entry{Kind: Slack}); w != 0 || e != api.OK {
		t.Errorf("Slack's word: %d, %d; want 0", w, e)
	}
}
