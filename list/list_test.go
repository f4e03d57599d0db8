package list

import (
	"math"
	"slices"
	"testing"

	"demesne/api"
)

// classes is how many classes the chapters name.
const classes = 4

// put is a place that was put in, and of which class.
type put struct{ class, at int }

// model is a list as the chapter tells it: all that is there, the last one put at the end.
type model []put

func (m model) has(at int) bool {
	return slices.ContainsFunc(m, func(p put) bool { return p.at == at })
}

// of is the places of a class, the one that was put last first.
func (m model) of(class int) []int {
	var all []int
	for i := len(m) - 1; i >= 0; i-- {
		if m[i].class == class {
			all = append(all, m[i].at)
		}
	}
	return all
}

func (m model) push(class, at int) (model, api.Errno) {
	if class < 0 || class >= classes || at < 1 {
		return m, api.ErrArg
	}
	if m.has(at) {
		return m, api.ErrState
	}
	return append(m, put{class, at}), api.OK
}

func (m model) pop(class int) (model, int, api.Errno) {
	if class < 0 || class >= classes {
		return m, 0, api.ErrArg
	}
	all := m.of(class)
	if len(all) == 0 {
		return m, 0, api.ErrNone
	}
	return slices.DeleteFunc(m, func(p put) bool { return p.at == all[0] }), all[0], api.OK
}

func (m model) drop(from, to int) (model, int) {
	var left model
	for _, p := range m {
		if p.at < from || p.at >= to {
			left = append(left, p)
		}
	}
	return left, len(m) - len(left)
}

// list is the list of a model, put in as it was.
func (m model) list(t *testing.T) *List {
	t.Helper()
	l := New()
	for _, p := range m {
		holdsPush(t, l, p.class, p.at, api.OK)
	}
	return l
}

// wild are numbers that are no class: below, above, and such as fewer bits would take for one.
func wild() []int {
	return []int{-1, -2, -3, -4, -5, -8, -64, -256, -255, -1 << 32, -1<<32 + 1, math.MinInt32, math.MinInt + 3, math.MinInt + 1, math.MinInt,
		4, 5, 6, 7, 8, 9, 16, 32, 63, 64, 128, 255, 256, 257, 259, 1 << 16, 1<<16 + 1, 1 << 32, 1<<32 + 1, 1<<32 + 3, math.MaxInt32, math.MaxInt32 + 1, math.MaxInt - 1, math.MaxInt}
}

// below are numbers that are no place.
func below() []int {
	return []int{0, -1, -2, -5, -32, -4096, -1 << 32, -1<<32 + 1, -1<<32 + 5, math.MinInt32, math.MinInt + 1, math.MinInt}
}

func holdsPush(t *testing.T, l *List, class, at int, want api.Errno) {
	t.Helper()
	if e := l.Push(class, at); e != want {
		t.Fatalf("Push(%d, %d) = %d; want %d", class, at, e, want)
	}
}

func holdsPop(t *testing.T, l *List, class, want int, e api.Errno) {
	t.Helper()
	if at, is := l.Pop(class); at != want || is != e {
		t.Fatalf("Pop(%d) = %d, %d; want %d, %d", class, at, is, want, e)
	}
}

func holdsDrop(t *testing.T, l *List, from, to, want int) {
	t.Helper()
	if n := l.Drop(from, to); n != want {
		t.Fatalf("Drop(%d, %d) = %d; want %d", from, to, n, want)
	}
}

// looks holds all that a list tells of itself against what it should be.
func looks(t *testing.T, l *List, m model) {
	t.Helper()
	for class := -1; class <= classes; class++ {
		want := m.of(class)
		if all := l.All(class); !slices.Equal(all, want) {
			t.Fatalf("All(%d) = %v; want %v", class, all, want)
		}
		if n := l.Len(class); n != len(want) {
			t.Fatalf("Len(%d) = %d; want %d", class, n, len(want))
		}
	}
	for _, p := range m {
		for _, at := range []int{p.at - 1, p.at, p.at + 1, -p.at} {
			if l.Has(at) != m.has(at) {
				t.Fatalf("Has(%d) = %t; want %t", at, l.Has(at), m.has(at))
			}
		}
	}
}

// P7.1, P7.3: the chapter's example.
func TestExample(t *testing.T) {
	l := New()
	holdsPush(t, l, 0, 5, api.OK)
	holdsPush(t, l, 0, 9, api.OK)
	holdsPop(t, l, 0, 9, api.OK)
	holdsPush(t, l, 1, 5, api.ErrState)
	holdsPop(t, l, 0, 5, api.OK)
	holdsPop(t, l, 0, 0, api.ErrNone)
	looks(t, l, nil)
}

// P7.1, P7.3: a new list has none of any class.
func TestNew(t *testing.T) {
	l := New()
	if l == nil {
		t.Fatal("New() is none")
	}
	looks(t, l, nil)
	for class := range classes {
		holdsPop(t, l, class, 0, api.ErrNone)
	}
	for at := range 200 {
		if l.Has(at - 100) {
			t.Fatalf("Has(%d) of a new list", at-100)
		}
	}
	holdsDrop(t, l, math.MinInt, math.MaxInt, 0)
	looks(t, l, nil)
}

// P7.1: what is done to one list is not seen in another one.
func TestNewSharesNothing(t *testing.T) {
	a, b := New(), New()
	holdsPush(t, a, 2, 7, api.OK)
	looks(t, b, nil)
	holdsPush(t, b, 1, 7, api.OK)
	holdsPush(t, b, 2, 8, api.OK)
	looks(t, a, model{{2, 7}})
	holdsDrop(t, a, 1, 100, 1)
	looks(t, b, model{{1, 7}, {2, 8}})
	looks(t, New(), nil)
}

// P7.1: by hand, of each class what was put last comes first, whatever was done to other ones between.
func TestPushPop(t *testing.T) {
	l := New()
	for _, p := range []put{{0, 10}, {3, 1}, {0, 4}, {1, 30}, {0, 7}, {3, 99}, {2, 5}} {
		holdsPush(t, l, p.class, p.at, api.OK)
	}
	for class, want := range [classes][]int{{7, 4, 10}, {30}, {5}, {99, 1}} {
		if all := l.All(class); !slices.Equal(all, want) || l.Len(class) != len(want) {
			t.Errorf("of class %d: %v, %d; want %v", class, all, l.Len(class), want)
		}
	}
	holdsPop(t, l, 3, 99, api.OK)
	holdsPop(t, l, 0, 7, api.OK)
	holdsPush(t, l, 0, 2, api.OK)
	holdsPop(t, l, 1, 30, api.OK)
	holdsPop(t, l, 1, 0, api.ErrNone)
	holdsPop(t, l, 0, 2, api.OK)
	holdsPop(t, l, 0, 4, api.OK)
	holdsPop(t, l, 0, 10, api.OK)
	holdsPop(t, l, 0, 0, api.ErrNone)
	looks(t, l, model{{3, 1}, {2, 5}})
	holdsPop(t, l, 3, 1, api.OK)
	holdsPop(t, l, 3, 0, api.ErrNone)
	holdsPop(t, l, 2, 5, api.OK)
	looks(t, l, nil)
}

// P7.1: every class, from the first one to the last, has what is put there, and no other one has it.
func TestEveryClass(t *testing.T) {
	for class := range classes {
		l := New()
		holdsPush(t, l, class, 6, api.OK)
		holdsPush(t, l, class, 3, api.OK)
		looks(t, l, model{{class, 6}, {class, 3}})
		for other := range classes {
			if other != class {
				holdsPop(t, l, other, 0, api.ErrNone)
			}
		}
		looks(t, l, model{{class, 6}, {class, 3}})
		holdsPop(t, l, class, 3, api.OK)
		holdsPop(t, l, class, 6, api.OK)
		holdsPop(t, l, class, 0, api.ErrNone)
	}
}

// P7.1: any place from 1 on goes in, and is told from those that fewer bits would take for it.
func TestPushPlaces(t *testing.T) {
	places := []int{1, 2, 3, 31, 32, 255, 256, 257, 4095, 4096, 4097, 1 << 16, 1<<16 + 1, math.MaxInt32, 1 << 32, 1<<32 + 1, 1<<32 + 2, 1 << 62, math.MaxInt - 1, math.MaxInt}
	for class := range classes {
		l, m := New(), model{}
		for _, at := range places {
			holdsPush(t, l, class, at, api.OK)
			m = append(m, put{class, at})
			looks(t, l, m)
		}
		for i := len(places) - 1; i >= 0; i-- {
			holdsPop(t, l, class, places[i], api.OK)
		}
		looks(t, l, nil)
	}
}

// P7.1: a place that is there is refused, of its own class and of each other one, and nothing is changed.
func TestPushTwice(t *testing.T) {
	for first := range classes {
		m := model{{first, 1}, {(first + 1) % classes, 2}, {first, 8}, {(first + 3) % classes, 40}, {first, 3}}
		l := m.list(t)
		for _, p := range m {
			for class := range classes {
				holdsPush(t, l, class, p.at, api.ErrState)
				looks(t, l, m)
			}
		}
	}
}

// P7.1: what came out, or was dropped, may be put in again, of any class.
func TestPushAgain(t *testing.T) {
	for from := range classes {
		for to := range classes {
			l := model{{from, 1}, {from, 9}}.list(t)
			holdsPop(t, l, from, 9, api.OK)
			if l.Has(9) || !l.Has(1) {
				t.Fatalf("behind Pop: Has(9) = %t, Has(1) = %t", l.Has(9), l.Has(1))
			}
			holdsPush(t, l, to, 9, api.OK)
			looks(t, l, model{{from, 1}, {to, 9}})
			holdsDrop(t, l, 1, 2, 1)
			if l.Has(1) || !l.Has(9) {
				t.Fatalf("behind Drop: Has(1) = %t, Has(9) = %t", l.Has(1), l.Has(9))
			}
			holdsPush(t, l, to, 1, api.OK)
			looks(t, l, model{{to, 9}, {to, 1}})
			holdsPush(t, l, from, 1, api.ErrState)
			holdsPop(t, l, to, 1, api.OK)
			holdsPop(t, l, to, 9, api.OK)
		}
	}
}

// P7.1: of a class that there is not nothing goes in, be the place there already, or none; and nothing is changed.
func TestPushNoSuchClass(t *testing.T) {
	m := model{{0, 5}, {1, 6}, {2, 7}, {3, 8}}
	l := m.list(t)
	for _, class := range wild() {
		for _, at := range []int{1, 4, 5, 6, 7, 8, 9, math.MaxInt, 0, -1, math.MinInt} {
			holdsPush(t, l, class, at, api.ErrArg)
		}
		looks(t, l, m)
	}
}

// P7.1: no place below 1 goes in, of whatever class; and nothing is changed.
func TestPushNoPlace(t *testing.T) {
	m := model{{0, 5}, {1, 6}, {2, 7}, {3, 8}}
	l := m.list(t)
	for _, at := range below() {
		for class := range classes {
			holdsPush(t, l, class, at, api.ErrArg)
			holdsPush(t, New(), class, at, api.ErrArg)
		}
		looks(t, l, m)
		if l.Has(at) {
			t.Fatalf("Has(%d)", at)
		}
	}
}

// P7.1: of a class that there is not nothing comes out, of one with none neither; and nothing is changed.
func TestPopRefuses(t *testing.T) {
	m := model{{0, 5}, {3, 8}}
	l := m.list(t)
	for _, class := range wild() {
		holdsPop(t, l, class, 0, api.ErrArg)
		holdsPop(t, New(), class, 0, api.ErrArg)
		looks(t, l, m)
	}
	for range 3 {
		holdsPop(t, l, 1, 0, api.ErrNone)
		holdsPop(t, l, 2, 0, api.ErrNone)
		looks(t, l, m)
	}
	holdsPush(t, l, 1, 7, api.OK)
	looks(t, l, append(m, put{1, 7}))
}

// P7.1, P7.2, P7.3: of nil, whatever else is wrong.
func TestNil(t *testing.T) {
	var l *List
	for _, class := range append(wild(), 0, 1, 2, 3) {
		for _, at := range append(below(), 1, 5, math.MaxInt) {
			holdsPush(t, l, class, at, api.ErrNil)
			holdsDrop(t, l, class, at, 0)
			if l.Has(at) {
				t.Fatalf("Has(%d) of nil", at)
			}
		}
		holdsPop(t, l, class, 0, api.ErrNil)
		if all, n := l.All(class), l.Len(class); len(all) != 0 || n != 0 {
			t.Fatalf("of nil: All(%d), Len(%d) = %v, %d", class, class, all, n)
		}
	}
	holdsDrop(t, l, math.MinInt, math.MaxInt, 0)
}

// P7.2: by hand, what goes and what is left: none, one, all, of several classes; from belongs to it, to does not.
func TestDrop(t *testing.T) {
	for _, g := range []struct {
		from, to, want int
		left           [classes][]int
	}{
		{10, 20, 3, [classes][]int{{20, 9}, {21}, nil, {1}}},
		{1, 2, 1, [classes][]int{{20, 9, 10}, {21, 15}, nil, {19}}},
		{1, 22, 7, [classes][]int{}},
		{1, 21, 6, [classes][]int{nil, {21}, nil, nil}},
		{2, 22, 6, [classes][]int{nil, nil, nil, {1}}},
		{9, 9, 0, [classes][]int{{20, 9, 10}, {21, 15}, nil, {19, 1}}},
		{9, 10, 1, [classes][]int{{20, 10}, {21, 15}, nil, {19, 1}}},
		{8, 9, 0, [classes][]int{{20, 9, 10}, {21, 15}, nil, {19, 1}}},
		{2, 9, 0, [classes][]int{{20, 9, 10}, {21, 15}, nil, {19, 1}}},
		{22, 99, 0, [classes][]int{{20, 9, 10}, {21, 15}, nil, {19, 1}}},
		{20, 9, 0, [classes][]int{{20, 9, 10}, {21, 15}, nil, {19, 1}}},
		{20, 22, 2, [classes][]int{{9, 10}, {15}, nil, {19, 1}}},
		{-5, 11, 3, [classes][]int{{20}, {21, 15}, nil, {19}}},
		{-5, 0, 0, [classes][]int{{20, 9, 10}, {21, 15}, nil, {19, 1}}},
		{math.MinInt, math.MaxInt, 7, [classes][]int{}},
		{math.MaxInt, math.MinInt, 0, [classes][]int{{20, 9, 10}, {21, 15}, nil, {19, 1}}},
		{19, math.MaxInt, 3, [classes][]int{{9, 10}, {15}, nil, {1}}},
	} {
		l := model{{0, 10}, {3, 1}, {1, 15}, {0, 9}, {3, 19}, {1, 21}, {0, 20}}.list(t)
		holdsDrop(t, l, g.from, g.to, g.want)
		for class, want := range g.left {
			if all := l.All(class); !slices.Equal(all, want) || l.Len(class) != len(want) {
				t.Fatalf("behind Drop(%d, %d): of class %d %v; want %v", g.from, g.to, class, all, want)
			}
		}
		holdsDrop(t, l, g.from, g.to, 0)
	}
}

// P7.2: the greatest place is below no to, and goes with none.
func TestDropGreatest(t *testing.T) {
	l := model{{2, math.MaxInt}, {2, 1}, {1, math.MaxInt - 1}}.list(t)
	holdsDrop(t, l, math.MinInt, math.MaxInt, 2)
	looks(t, l, model{{2, math.MaxInt}})
	holdsDrop(t, l, math.MaxInt, math.MaxInt, 0)
	holdsPop(t, l, 2, math.MaxInt, api.OK)
}

// mixed are places of all classes, put in without an order.
func mixed() model {
	var m model
	for i := range 20 {
		m = append(m, put{i * i % 7 % classes, i*7%20 + 1})
	}
	return m
}

// P7.2, P7.3: whatever the range, those within it go, and those that stay stand as they did.
func TestDropAnyRange(t *testing.T) {
	ends := append(wild(), below()...)
	for at := 1; at <= 22; at++ {
		ends = append(ends, at)
	}
	for _, from := range ends {
		for _, to := range ends {
			l := mixed().list(t)
			m, n := mixed().drop(from, to)
			holdsDrop(t, l, from, to, n)
			looks(t, l, m)
		}
	}
}

// P7.2: behind a Drop the class goes on in its order, with what is put in then ahead.
func TestOrderBehindDrop(t *testing.T) {
	l := model{{1, 1}, {1, 2}, {1, 3}, {1, 4}, {1, 5}}.list(t)
	holdsDrop(t, l, 3, 5, 2)
	holdsPush(t, l, 1, 4, api.OK)
	looks(t, l, model{{1, 1}, {1, 2}, {1, 5}, {1, 4}})
	holdsPop(t, l, 1, 4, api.OK)
	holdsPop(t, l, 1, 5, api.OK)
	holdsPush(t, l, 1, 3, api.OK)
	holdsDrop(t, l, 2, 3, 1)
	holdsPop(t, l, 1, 3, api.OK)
	holdsPop(t, l, 1, 1, api.OK)
	holdsPop(t, l, 1, 0, api.ErrNone)
	holdsDrop(t, l, 1, 9, 0)
	holdsPush(t, l, 1, 2, api.OK)
	looks(t, l, model{{1, 2}})
}

// P7.3: of a class that there is not there are none; whether a place is there hangs on no class.
func TestLooks(t *testing.T) {
	m := mixed()
	l := m.list(t)
	for _, class := range wild() {
		if all, n := l.All(class), l.Len(class); len(all) != 0 || n != 0 {
			t.Fatalf("All(%d), Len(%d) = %v, %d; want none", class, class, all, n)
		}
	}
	for at := 1; at <= 20; at++ {
		if !l.Has(at) {
			t.Fatalf("Has(%d) = false", at)
		}
	}
	for _, at := range append(below(), 21, 22, 1<<32+1, 1<<32+5, 1<<16+1, 257, math.MaxInt) {
		if l.Has(at) {
			t.Fatalf("Has(%d) = true", at)
		}
	}
	looks(t, l, m)
}

// P7.3 (R3): what All answers is its caller's alone, spare room too, and stays as it is.
func TestAllIsNew(t *testing.T) {
	for places := range 40 {
		l, m := New(), model{}
		for at := range places {
			holdsPush(t, l, 3, at+1, api.OK)
			m = append(m, put{3, at + 1})
		}
		first, second := l.All(3), l.All(3)
		room := first[:cap(first)]
		for i := range room {
			room[i] = 999
		}
		if !slices.Equal(second, m.of(3)) {
			t.Fatalf("two answers share room: %v", second)
		}
		looks(t, l, m)
		holdsPush(t, l, 3, 77, api.OK)
		looks(t, l, append(m, put{3, 77}))
		if len(room) > 0 && slices.Max(room) != slices.Min(room) {
			t.Fatalf("a Push has changed what All answered: %v", room)
		}
	}
}

// P7.3 (R3): what All answered stays as it is, whatever is done to the list then.
func TestAllStays(t *testing.T) {
	l := model{{2, 1}, {2, 2}, {2, 3}, {2, 4}}.list(t)
	kept := l.All(2)
	holdsDrop(t, l, 2, 4, 2)
	holdsPush(t, l, 2, 8, api.OK)
	holdsPop(t, l, 2, 8, api.OK)
	holdsPop(t, l, 2, 4, api.OK)
	holdsPush(t, l, 2, 9, api.OK)
	if !slices.Equal(kept, []int{4, 3, 2, 1}) {
		t.Errorf("what All answered has become %v", kept)
	}
	looks(t, l, model{{2, 1}, {2, 9}})
}

// act does one act of a kind to a list and to its model, and holds the answers against each other.
func (m model) act(t *testing.T, l *List, kind, a, b int) model {
	t.Helper()
	switch kind {
	case 0:
		left, e := m.push(a, b)
		holdsPush(t, l, a, b, e)
		return left
	case 1:
		left, at, e := m.pop(a)
		holdsPop(t, l, a, at, e)
		return left
	default:
		left, n := m.drop(a, b)
		holdsDrop(t, l, a, b, n)
		return left
	}
}

// P7.4: behind each row of up to five acts of these there is what was put in, and did not come out, nor was dropped, since then.
func TestShortRows(t *testing.T) {
	acts := [][3]int{{0, 0, 1}, {0, 0, 2}, {0, 3, 1}, {0, 3, 3}, {1, 0, 0}, {1, 3, 0}, {2, 1, 2}, {2, 2, 4}}
	rows := 1
	for length := range 6 {
		for n := range rows {
			l, m := New(), model{}
			for range length {
				a := acts[n%len(acts)]
				m = m.act(t, l, a[0], a[1], a[2])
				n /= len(acts)
			}
			looks(t, l, m)
		}
		rows *= len(acts)
	}
}

// P7.4: likewise behind long rows of any acts, also such as are refused.
func TestAnyActs(t *testing.T) {
	for _, most := range []int{3, 8, 40, 300} {
		l, m := New(), model{}
		next := uint64(most)
		some := func(below int) int {
			next = next*6364136223846793005 + 1442695040888963407
			return int(next >> 33 % uint64(below))
		}
		for range 4000 {
			switch kind := some(8); {
			case kind < 5:
				m = m.act(t, l, 0, some(classes+2)-1, some(most+2)-1)
			case kind < 7:
				m = m.act(t, l, 1, some(classes+2)-1, 0)
			default:
				from := some(most+4) - 2
				m = m.act(t, l, 2, from, from+some(most/4+3)-1)
			}
			looks(t, l, m)
		}
	}
}

// there counts how often each place is there, by all classes' rows.
func there(l *List) map[int]int {
	n := map[int]int{}
	for class := range classes {
		for _, at := range l.All(class) {
			n[at]++
		}
	}
	return n
}

// holdsFull fills a list with as many cells as a full arena has, spread over so
// many classes, drops some, and takes the other ones out.
func holdsFull(t *testing.T, spread int) {
	t.Helper()
	const cells = api.MaxBlocks * api.Block / 2
	l := New()
	for i := range cells {
		holdsPush(t, l, i%spread, 2*i+1, api.OK)
	}
	for i := range cells {
		holdsPush(t, l, (i+1)%classes, 2*i+1, api.ErrState)
	}
	if n := there(l); len(n) != cells {
		t.Fatalf("%d places are there; want %d", len(n), cells)
	}
	holdsDrop(t, l, cells/2, cells, cells/4)
	out := map[int]bool{}
	for class := range classes {
		for n := l.Len(class); n > 0; n-- {
			at, e := l.Pop(class)
			if e != api.OK || out[at] || at%2 != 1 || at >= cells/2 && at < cells || at/2%spread != class || l.Has(at) {
				t.Fatalf("Pop(%d) = %d, %d; came out before: %t; is there still: %t", class, at, e, out[at], l.Has(at))
			}
			out[at] = true
		}
	}
	if len(out) != cells-cells/4 {
		t.Fatalf("%d came out; want %d", len(out), cells-cells/4)
	}
	looks(t, l, nil)
}

// P7.4: each is there once, and comes out once, or goes once, be they all of one class or of all.
func TestFullArena(t *testing.T) {
	for spread := 1; spread <= classes; spread++ {
		holdsFull(t, spread)
	}
}
