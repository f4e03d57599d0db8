package word

import (
	"testing"

	"demesne/api"
)

// formula is the word as the chapter's text tells it, by sums and products.
func formula(h Head) uint64 {
	w := uint64(h.Kind) + uint64(h.Colour)*4
	if h.Grey {
		w += 8
	}
	if h.Marked {
		w += 16
	}
	return w + uint64(h.Owner)*32 + uint64(h.Refs)*2048 + uint64(h.Size)*262144
}

// lawful is the chapter's rule for headers that may be, clause by clause.
func lawful(h Head) bool {
	switch {
	case h.Kind > 3, h.Colour > 1, h.Owner > 63, h.Size > 95, h.Refs > h.Size:
		return false
	case h.Kind == 0, h.Kind == 1:
		return h.Colour == 0 && !h.Grey && !h.Marked && h.Size == 0 && h.Refs == 0
	case h.Kind == 2:
		return h.Colour == 0 && !h.Grey
	}
	return !h.Marked
}

// headers hands out every header whose numbers are at most a bit past what may be.
func headers(do func(h Head)) {
	bools := []bool{false, true}
	for _, kind := range []uint8{0, 1, 2, 3, 4, 5, 6, 7, 8, 128, 255} {
		for _, colour := range []uint8{0, 1, 2, 3, 255} {
			for _, grey := range bools {
				for _, marked := range bools {
					shapes(Head{Kind: kind, Colour: colour, Grey: grey, Marked: marked}, do)
				}
			}
		}
	}
}

func shapes(h Head, do func(h Head)) {
	sizes := []uint8{0, 1, 2, 3, 7, 8, 9, 31, 32, 63, 64, 94, 95, 96, 127, 128, 255}
	for _, owner := range []uint8{0, 1, 2, 31, 32, 62, 63, 64, 65, 127, 128, 255} {
		for _, size := range sizes {
			for _, refs := range sizes {
				h.Owner, h.Size, h.Refs = owner, size, refs
				do(h)
			}
		}
	}
}

// P1.1: the header's word, or 0 and the error.
func TestPut(t *testing.T) {
	given := []struct {
		h Head
		w uint64
	}{
		{Head{}, 0},
		{Head{Kind: Free, Owner: 1}, 32},
		{Head{Kind: Listed}, 1},
		{Head{Kind: Listed, Owner: 63}, 1 + 63*32},
		{Head{Kind: Local}, 2},
		{Head{Kind: Local, Owner: 1, Refs: 1, Size: 2}, 526370},
		{Head{Kind: Local, Marked: true, Owner: 5, Size: 8}, 2 + 16 + 5*32 + 8*262144},
		{Head{Kind: Global}, 3},
		{Head{Kind: Global, Colour: 1}, 7},
		{Head{Kind: Global, Grey: true}, 11},
		{Head{Kind: Global, Colour: 1, Grey: true}, 15},
		{Head{Kind: Global, Colour: 1, Grey: true, Owner: 63, Refs: 95, Size: 95}, 15 + 63*32 + 95*2048 + 95*262144},
	}
	for _, g := range given {
		if w, e := Put(g.h); w != g.w || e != api.OK {
			t.Errorf("Put(%+v) = %d, %d; want %d", g.h, w, e, g.w)
		}
	}
	headers(func(h Head) {
		w, e := Put(h)
		if lawful(h) && (e != api.OK || w != formula(h)) {
			t.Fatalf("Put(%+v) = %d, %d; want %d", h, w, e, formula(h))
		}
		if !lawful(h) && (e != api.ErrArg || w != 0) {
			t.Fatalf("Put(%+v) = %d, %d; want ErrArg", h, w, e)
		}
	})
}

// P1.1: each single thing that may not be is refused by itself.
func TestPutRefuses(t *testing.T) {
	for _, h := range []Head{
		{Kind: 4}, {Kind: 255}, {Kind: 4, Owner: 3}, {Kind: 7, Size: 2, Refs: 1},
		{Kind: Free, Colour: 1}, {Kind: Free, Grey: true}, {Kind: Free, Marked: true}, {Kind: Free, Size: 1}, {Kind: Free, Size: 1, Refs: 1}, {Kind: Free, Refs: 1}, {Kind: Free, Owner: 64},
		{Kind: Listed, Colour: 1}, {Kind: Listed, Grey: true}, {Kind: Listed, Marked: true}, {Kind: Listed, Size: 1}, {Kind: Listed, Size: 1, Refs: 1}, {Kind: Listed, Refs: 1}, {Kind: Listed, Owner: 64},
		{Kind: Local, Colour: 1}, {Kind: Local, Colour: 2}, {Kind: Local, Grey: true}, {Kind: Local, Refs: 1}, {Kind: Local, Size: 94, Refs: 95}, {Kind: Local, Size: 96}, {Kind: Local, Owner: 64},
		{Kind: Global, Colour: 2}, {Kind: Global, Colour: 255}, {Kind: Global, Marked: true}, {Kind: Global, Refs: 1}, {Kind: Global, Size: 96}, {Kind: Global, Size: 96, Refs: 96}, {Kind: Global, Owner: 255},
	} {
		if w, e := Put(h); w != 0 || e != api.ErrArg {
			t.Errorf("Put(%+v) = %d, %d; want 0, ErrArg", h, w, e)
		}
	}
}

// P1.2, P1.4: of all words of the bits that headers have, just those of headers
// that may be are taken, and each one is put back as it was.
func TestTakeEveryWord(t *testing.T) {
	var taken [4]int
	for w := uint64(0); w < 1<<25; w++ {
		h, e := Take(w)
		if e != api.OK {
			if e != api.ErrForm || h != (Head{}) {
				t.Fatalf("Take(%d) = %+v, %d; want a zero header, ErrForm", w, h, e)
			}
			continue
		}
		if !lawful(h) || formula(h) != w {
			t.Fatalf("Take(%d) = %+v", w, h)
		}
		if back, e := Put(h); back != w || e != api.OK {
			t.Fatalf("Put(Take(%d)) = %d, %d", w, back, e)
		}
		taken[h.Kind]++
	}
	// 96*97/2 pairs of Refs and Size; 64 owners; a Local one marked or not; a
	// Global one of two colours, grey or not.
	if want := [4]int{64, 64, 2 * 64 * 4656, 4 * 64 * 4656}; taken != want {
		t.Errorf("taken by kinds: %v; want %v", taken, want)
	}
}

// P1.2: words that are no header's, for one reason each.
func TestTakeRefuses(t *testing.T) {
	for _, w := range []uint64{
		4, 8, 16, 2048, 262144, 2048 + 262144, // Free, with a colour, grey, marked, refs, size
		1 + 4, 1 + 8, 1 + 16, 1 + 2048, 1 + 262144, 1 + 2048 + 262144, // Listed
		2 + 4, 2 + 8, 2 + 2048, 2 + 96*262144, 2 + 95*2048 + 94*262144, // Local
		3 + 16, 3 + 2048, 3 + 96*262144, 3 + 96*2048 + 96*262144, 3 + 127*262144, // Global
		1 << 25, 1<<64 - 1,
	} {
		if h, e := Take(w); h != (Head{}) || e != api.ErrForm {
			t.Errorf("Take(%d) = %+v, %d; want a zero header, ErrForm", w, h, e)
		}
	}
}

// P1.2: no bit behind a header's may be set, whatever lies below it.
func TestTakeRefusesHighBits(t *testing.T) {
	for _, w := range []uint64{0, 1, 2, 15, 526370, 3 + 4 + 63*32 + 95*2048 + 95*262144} {
		for at := 25; at < 64; at++ {
			if h, e := Take(w | 1<<at); h != (Head{}) || e != api.ErrForm {
				t.Errorf("Take(%d | 1<<%d) = %+v, %d; want a zero header, ErrForm", w, at, h, e)
			}
		}
	}
}

// P1.2: the chapter's examples, and the edges, the other way round.
func TestTake(t *testing.T) {
	for w, h := range map[uint64]Head{
		0:               {},
		63 * 32:         {Kind: Free, Owner: 63},
		1 + 32:          {Kind: Listed, Owner: 1},
		526370:          {Kind: Local, Owner: 1, Refs: 1, Size: 2},
		2 + 16:          {Kind: Local, Marked: true},
		15:              {Kind: Global, Colour: 1, Grey: true},
		3 + 8:           {Kind: Global, Grey: true},
		3 + 95*262144:   {Kind: Global, Size: 95},
		7 + 95*264192:   {Kind: Global, Colour: 1, Refs: 95, Size: 95},
		2 + 16 + 264192: {Kind: Local, Marked: true, Refs: 1, Size: 1},
	} {
		if x, e := Take(w); x != h || e != api.OK {
			t.Errorf("Take(%d) = %+v, %d; want %+v", w, x, e, h)
		}
	}
}

// P1.3: Local and Global ones are live, whatever else the header says.
func TestLive(t *testing.T) {
	for kind := range 256 {
		want := kind == 2 || kind == 3
		for _, h := range []Head{{}, {Colour: 1, Grey: true, Marked: true, Owner: 64, Refs: 2, Size: 1}, {Size: 95, Refs: 95}} {
			h.Kind = uint8(kind)
			if h.Live() != want {
				t.Errorf("(%+v).Live() = %t", h, !want)
			}
		}
	}
}

// P1.4: headers and words answer each other; unlike headers have unlike words.
func TestAnswerEachOther(t *testing.T) {
	seen := map[uint64]Head{}
	headers(func(h Head) {
		w, e := Put(h)
		if e != api.OK {
			return
		}
		if x, e := Take(w); x != h || e != api.OK {
			t.Fatalf("Take(Put(%+v)) = %+v, %d", h, x, e)
		}
		if x, ok := seen[w]; ok && x != h {
			t.Fatalf("%+v and %+v have one word, %d", x, h, w)
		}
		seen[w] = h
	})
	if w, e := Put(Head{Kind: Free, Owner: 0}); w != 0 || e != api.OK {
		t.Errorf("a Free cell of the owner 0: %d, %d; want 0", w, e)
	}
}
