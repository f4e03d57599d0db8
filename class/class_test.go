package class

import (
	"math"
	"testing"

	"demesne/api"
)

// cell is a row of the chapter's text: what a class's cells are like, by its own words and by counting.
type cell struct{ room, words, cells, slack int }

// told is what the chapter says of each class, worked out by hand.
func told() [4]cell {
	return [4]cell{{1, 2, 16, 0}, {2, 3, 10, 2}, {4, 5, 6, 2}, {8, 9, 3, 5}}
}

// wild are numbers far outside: below, above, and such as an int of half the bits would take for small ones.
func wild() []int {
	return []int{math.MinInt, math.MinInt + 1, math.MinInt32, -1 << 32, -1<<32 + 1, -97, -33, -9, -8, -5, -4, -3, -2, -1,
		1 << 8, 1<<8 + 3, 1 << 32, 1<<32 + 1, 1<<32 + 9, math.MaxInt32, math.MaxInt32 + 1, math.MaxInt - 31, math.MaxInt - 1, math.MaxInt}
}

// holdsClass tells of a fault in what Of answers.
func holdsClass(t *testing.T, fields, want int, ok bool) {
	t.Helper()
	if class, is := Of(fields); class != want || is != ok {
		t.Errorf("Of(%d) = %d, %t; want %d, %t", fields, class, is, want, ok)
	}
}

// holdsRun tells of a fault in what Run answers.
func holdsRun(t *testing.T, fields, want int, ok bool) {
	t.Helper()
	if blocks, is := Run(fields); blocks != want || is != ok {
		t.Errorf("Run(%d) = %d, %t; want %d, %t", fields, blocks, is, want, ok)
	}
}

// holdsPlace tells of a fault in what Place answers.
func holdsPlace(t *testing.T, class, offset, want int, ok bool) {
	t.Helper()
	if at, is := Place(class, offset); at != want || is != ok {
		t.Errorf("Place(%d, %d) = %d, %t; want %d, %t", class, offset, at, is, want, ok)
	}
}

// P3.1: the class of each small object, from the one without fields to the greatest.
func TestOf(t *testing.T) {
	for fields, want := range [api.MaxSmall + 1]int{0, 0, 1, 2, 2, 3, 3, 3, 3} {
		holdsClass(t, fields, want, true)
	}
}

// P3.1: objects that are large, and such as may not be, have no class.
func TestOfNone(t *testing.T) {
	for fields := api.MaxSmall + 1; fields <= 2*api.MaxFields; fields++ {
		holdsClass(t, fields, 0, false)
	}
	for _, fields := range wild() {
		holdsClass(t, fields, 0, false)
	}
}

// P3.1: how many blocks large objects take, at each number at which it is one more, and beside it.
func TestRun(t *testing.T) {
	for _, g := range []struct{ fields, blocks int }{
		{9, 1}, {10, 1}, {16, 1}, {30, 1}, {31, 1},
		{32, 2}, {33, 2}, {48, 2}, {62, 2}, {63, 2},
		{64, 3}, {65, 3}, {80, 3}, {94, 3}, {95, 3},
	} {
		holdsRun(t, g.fields, g.blocks, true)
	}
}

// P3.1: a large object takes as many blocks as its header and its fields fill when they are laid word by word.
func TestRunByWords(t *testing.T) {
	blocks, left := 0, 0
	lay := func() {
		if left == 0 {
			blocks, left = blocks+1, api.Block
		}
		left--
	}
	lay() // the header
	for fields := 1; fields <= api.MaxFields; fields++ {
		lay()
		if fields > api.MaxSmall {
			holdsRun(t, fields, blocks, true)
		}
	}
	if blocks != api.MaxRun {
		t.Errorf("the greatest object fills %d blocks; want %d", blocks, api.MaxRun)
	}
}

// P3.1: small objects, and such as may not be, take no blocks.
func TestRunNone(t *testing.T) {
	for fields := 0; fields <= api.MaxSmall; fields++ {
		holdsRun(t, fields, 0, false)
	}
	for fields := api.MaxFields + 1; fields <= 3*api.MaxFields; fields++ {
		holdsRun(t, fields, 0, false)
	}
	for _, fields := range wild() {
		holdsRun(t, fields, 0, false)
	}
}

// P3.1: the chapter's example.
func TestExample(t *testing.T) {
	for fields, class := range map[int]int{0: 0, 1: 0, 3: 2, 8: 3} {
		holdsClass(t, fields, class, true)
		holdsRun(t, fields, 0, false)
	}
	for fields, blocks := range map[int]int{9: 1, 31: 1, 32: 2, 95: 3} {
		holdsClass(t, fields, 0, false)
		holdsRun(t, fields, blocks, true)
	}
	holdsClass(t, 96, 0, false)
	holdsRun(t, 96, 0, false)
}

// P3.1: of all numbers of fields that an object may have, each is a class's or a run's, and none is both's.
func TestSmallOrLarge(t *testing.T) {
	for fields := -3; fields <= api.MaxFields+3; fields++ {
		_, small := Of(fields)
		_, large := Run(fields)
		if small != (fields >= 0 && fields <= api.MaxSmall) || large != (fields > api.MaxSmall && fields <= api.MaxFields) {
			t.Errorf("%d fields: small %t, large %t", fields, small, large)
		}
	}
}

// P3.2: the room, the words and the number of cells, of the first class, the last one, and those between.
func TestRoomWordsCells(t *testing.T) {
	if Classes != 4 {
		t.Fatalf("Classes = %d; want 4", Classes)
	}
	for class, want := range told() {
		if Room(class) != want.room || Words(class) != want.words || Cells(class) != want.cells {
			t.Errorf("of class %d: %d, %d, %d; want %d, %d, %d", class,
				Room(class), Words(class), Cells(class), want.room, want.words, want.cells)
		}
	}
}

// P3.2: of no class all are 0.
func TestRoomWordsCellsNone(t *testing.T) {
	for _, class := range append(wild(), Classes, Classes+1, 7, 8, 9, 31, 32, 64) {
		if Room(class) != 0 || Words(class) != 0 || Cells(class) != 0 {
			t.Errorf("of class %d: %d, %d, %d; want 0, 0, 0", class, Room(class), Words(class), Cells(class))
		}
	}
}

// P3.3: by hand, the first cell's first offset and last one, the second's, the last one's, the slack's, and the block's last offset.
func TestPlace(t *testing.T) {
	for _, g := range []struct {
		class, offset, at int
		ok                bool
	}{
		{0, 0, 0, true}, {0, 1, 0, true}, {0, 2, 2, true}, {0, 3, 2, true}, {0, 15, 14, true}, {0, 30, 30, true}, {0, 31, 30, true},
		{1, 0, 0, true}, {1, 2, 0, true}, {1, 3, 3, true}, {1, 5, 3, true}, {1, 27, 27, true}, {1, 29, 27, true}, {1, 30, 0, false}, {1, 31, 0, false},
		{2, 0, 0, true}, {2, 4, 0, true}, {2, 5, 5, true}, {2, 9, 5, true}, {2, 25, 25, true}, {2, 29, 25, true}, {2, 30, 0, false}, {2, 31, 0, false},
		{3, 0, 0, true}, {3, 8, 0, true}, {3, 9, 9, true}, {3, 17, 9, true}, {3, 18, 18, true}, {3, 26, 18, true}, {3, 27, 0, false}, {3, 31, 0, false},
	} {
		holdsPlace(t, g.class, g.offset, g.at, g.ok)
	}
}

// P3.3: outside of a block there is no cell, of whatever class.
func TestPlaceOutside(t *testing.T) {
	for class := range Classes {
		for offset := api.Block; offset <= 4*api.Block; offset++ {
			holdsPlace(t, class, offset, 0, false)
			holdsPlace(t, class, api.Block-1-offset, 0, false)
		}
		for _, offset := range wild() {
			holdsPlace(t, class, offset, 0, false)
		}
	}
}

// P3.3: of no class there is no cell, wherever it is looked for.
func TestPlaceOfNoClass(t *testing.T) {
	for _, class := range append(wild(), Classes, Classes+1, 8, 32) {
		for offset := -2; offset <= api.Block+2; offset++ {
			holdsPlace(t, class, offset, 0, false)
		}
		for _, offset := range wild() {
			holdsPlace(t, class, offset, 0, false)
		}
	}
}

// P3.4: cells laid one behind the other as long as one goes in, and the slack behind them, are a block's words, each once.
func TestCellsAndSlackAreTheBlock(t *testing.T) {
	for class, want := range told() {
		var owner [api.Block]int
		for i := range owner {
			owner[i] = -1
		}
		for n := range Cells(class) {
			for i := range Words(class) {
				at := n*Words(class) + i
				if at >= api.Block || owner[at] != -1 {
					t.Fatalf("class %d: word %d of cell %d lies at %d, where it may not", class, i, n, at)
				}
				owner[at] = n * Words(class)
			}
		}
		slack := 0
		for offset, at := range owner {
			if at < 0 {
				slack++
				holdsPlace(t, class, offset, 0, false)
				continue
			}
			holdsPlace(t, class, offset, at, true)
		}
		if slack != want.slack || slack >= Words(class) {
			t.Errorf("class %d: %d words of slack; want %d, less than a cell", class, slack, want.slack)
		}
	}
}

// P3.4: a beginning of a cell is its own, and as many beginnings are told as there are cells.
func TestPlacesAreBeginnings(t *testing.T) {
	for class := range Classes {
		begun := map[int]int{}
		for offset := range api.Block {
			if at, ok := Place(class, offset); ok {
				holdsPlace(t, class, at, at, true)
				begun[at]++
			}
		}
		if len(begun) != Cells(class) {
			t.Errorf("class %d: %d beginnings; want %d", class, len(begun), Cells(class))
		}
		for at, n := range begun {
			if n != Words(class) {
				t.Errorf("class %d: %d words in the cell at %d; want %d", class, n, at, Words(class))
			}
		}
	}
}

// P3.4: an object's cell has room for it, and no class below has.
func TestLeastRoom(t *testing.T) {
	for fields := range api.MaxSmall + 1 {
		class, ok := Of(fields)
		if !ok || Room(class) < fields || Words(class) < fields+1 {
			t.Errorf("%d fields: class %d, %t, of room %d and %d words", fields, class, ok, Room(class), Words(class))
		}
		for below := range class {
			if Room(below) >= fields {
				t.Errorf("%d fields: class %d, but class %d has room for %d", fields, class, below, Room(below))
			}
		}
	}
}
