package stack

import (
	"math"
	"slices"
	"testing"

	"demesne/api"
)

// model is a stack as the chapter tells it.
type model struct {
	room   int
	places []int
	over   bool
}

func (m *model) push(at int) bool {
	if len(m.places) >= m.room {
		m.over = true
		return false
	}
	m.places = append(m.places, at)
	return true
}

func (m *model) pop() (int, bool) {
	n := len(m.places)
	if n == 0 {
		return 0, false
	}
	at := m.places[n-1]
	m.places = m.places[:n-1]
	return at, true
}

func (m *model) asked() bool {
	was := m.over
	m.over = false
	return was
}

// wild are numbers that are no room: below, above, and such as fewer bits would take for one.
func wild() []int {
	return []int{0, -1, -2, -5, -63, -64, -65, -192, -255, -1 << 16, -1<<16 + 5, -1 << 32, -1<<32 + 1, -1<<32 + 64, math.MinInt32, math.MinInt + 64, math.MinInt + 1, math.MinInt,
		65, 66, 127, 128, 129, 255, 256, 257, 320, 1 << 16, 1<<16 + 1, math.MaxInt32, math.MaxInt32 + 1, 1 << 32, 1<<32 + 1, 1<<32 + 64, 1 << 62, math.MaxInt - 1, math.MaxInt}
}

// places are numbers of any kind: a stack asks nothing of them.
func places() []int {
	return []int{0, -1, 1, 5, -5, 31, 64, 65, 255, 256, 257, 4095, 4096, 1 << 16, 1<<16 + 1, math.MaxInt32, math.MinInt32, 1 << 32, 1<<32 + 1, -1<<32 + 1, 1 << 62, math.MaxInt - 1, math.MaxInt, math.MinInt + 1, math.MinInt, 0, 5}
}

// made is a stack with room for so many places.
func made(t *testing.T, room int) *Stack {
	t.Helper()
	s, e := New(room)
	if s == nil || e != api.OK {
		t.Fatalf("New(%d) = %v, %d; want a stack", room, s, e)
	}
	return s
}

// full is a stack that is just full, of the places from first on.
func full(t *testing.T, room, first int) *Stack {
	t.Helper()
	s := made(t, room)
	for i := range room {
		holdsPush(t, s, first+i, true)
	}
	return s
}

func holdsPush(t *testing.T, s *Stack, at int, want bool) {
	t.Helper()
	if ok := s.Push(at); ok != want {
		t.Fatalf("Push(%d) = %t; want %t", at, ok, want)
	}
}

func holdsPop(t *testing.T, s *Stack, want int, wantOK bool) {
	t.Helper()
	if at, ok := s.Pop(); at != want || ok != wantOK {
		t.Fatalf("Pop() = %d, %t; want %d, %t", at, ok, want, wantOK)
	}
}

func holdsOver(t *testing.T, s *Stack, want bool) {
	t.Helper()
	if over := s.Over(); over != want {
		t.Fatalf("Over() = %t; want %t", over, want)
	}
}

// looks holds what is there against what should be.
func looks(t *testing.T, s *Stack, want ...int) {
	t.Helper()
	if all := s.All(); !slices.Equal(all, want) {
		t.Fatalf("All() = %v; want %v", all, want)
	}
	if n := s.Len(); n != len(want) {
		t.Fatalf("Len() = %d; want %d", n, len(want))
	}
}

// P8.1, P8.2: the chapter's example.
func TestExample(t *testing.T) {
	s := made(t, 2)
	holdsPush(t, s, 5, true)
	holdsPush(t, s, 6, true)
	holdsPush(t, s, 7, false)
	holdsPop(t, s, 6, true)
	holdsOver(t, s, true)
	holdsOver(t, s, false)
	looks(t, s, 5)
}

// P8.1: a new stack of each room has no places, has not overflowed, and takes as many as its room, and no more.
func TestNew(t *testing.T) {
	for room := 1; room <= api.MaxMark; room++ {
		s := made(t, room)
		holdsOver(t, s, false)
		looks(t, s)
		holdsPop(t, s, 0, false)
		var want []int
		for i := range room {
			holdsPush(t, s, 100+i, true)
			want = append(want, 100+i)
			looks(t, s, want...)
		}
		holdsOver(t, s, false)
		holdsPush(t, s, 99, false)
		looks(t, s, want...)
		holdsOver(t, s, true)
	}
}

// P8.1: a room that may not be is refused, and there is no stack.
func TestNewRefuses(t *testing.T) {
	for _, room := range wild() {
		if s, e := New(room); s != nil || e != api.ErrArg {
			t.Fatalf("New(%d) = %v, %d; want none, %d", room, s, e, api.ErrArg)
		}
	}
}

// P8.1: what is done to one stack is not seen in another one.
func TestNewSharesNothing(t *testing.T) {
	a, b := full(t, 3, 10), made(t, 3)
	holdsPush(t, a, 13, false)
	looks(t, b)
	holdsOver(t, b, false)
	holdsPush(t, b, 20, true)
	holdsPush(t, b, 21, true)
	looks(t, a, 10, 11, 12)
	holdsOver(t, a, true)
	holdsPush(t, a, 14, false)
	holdsOver(t, b, false)
	holdsPop(t, b, 21, true)
	looks(t, a, 10, 11, 12)
	looks(t, made(t, 3))
}

// P8.1: by hand, what was put last comes out first, also with Pop between Push.
func TestPushPop(t *testing.T) {
	s := made(t, 4)
	holdsPush(t, s, 9, true)
	holdsPush(t, s, 2, true)
	holdsPop(t, s, 2, true)
	holdsPush(t, s, 40, true)
	holdsPush(t, s, 9, true)
	looks(t, s, 9, 40, 9)
	holdsPop(t, s, 9, true)
	holdsPop(t, s, 40, true)
	holdsPush(t, s, 7, true)
	looks(t, s, 9, 7)
	holdsPop(t, s, 7, true)
	holdsPop(t, s, 9, true)
	holdsOver(t, s, false)
	looks(t, s)
}

// P8.1: a Pop of the last place empties the stack; of an empty one nothing comes out, however often, and it takes places as before.
func TestPopEmpty(t *testing.T) {
	for _, room := range []int{1, 2, api.MaxMark} {
		s := made(t, room)
		for round := range 5 {
			holdsPush(t, s, 8+round, true)
			holdsPop(t, s, 8+round, true)
			for range 3 {
				holdsPop(t, s, 0, false)
				looks(t, s)
			}
			holdsOver(t, s, false)
		}
		for i := range room {
			holdsPush(t, s, i, true)
		}
		holdsPush(t, s, room, false)
		holdsOver(t, s, true)
	}
}

// P8.1: of a stack of one place each Push behind a Pop is on top, and each other one overflows.
func TestRoomOfOne(t *testing.T) {
	s := made(t, 1)
	for at := range 100 {
		holdsPush(t, s, at, true)
		holdsOver(t, s, false)
		holdsPush(t, s, at+1, false)
		looks(t, s, at)
		holdsOver(t, s, true)
		holdsPop(t, s, at, true)
		holdsPop(t, s, 0, false)
		holdsOver(t, s, false)
	}
}

// P8.1: any place goes in, and comes out as it was: also 0, one below 0, and one that is there already.
func TestAnyPlace(t *testing.T) {
	s, all := made(t, api.MaxMark), places()
	for i, at := range all {
		holdsPush(t, s, at, true)
		looks(t, s, all[:i+1]...)
	}
	for i := len(all) - 1; i >= 0; i-- {
		holdsPop(t, s, all[i], true)
		looks(t, s, all[:i]...)
	}
	holdsPop(t, s, 0, false)
	holdsOver(t, s, false)
}

// P8.1: any place overflows a full stack, and changes none that is there.
func TestAnyPlaceOverflows(t *testing.T) {
	for _, at := range places() {
		s := full(t, 3, 50)
		holdsPush(t, s, at, false)
		looks(t, s, 50, 51, 52)
		holdsOver(t, s, true)
		for i := 2; i >= 0; i-- {
			holdsPop(t, s, 50+i, true)
		}
		holdsPop(t, s, 0, false)
	}
}

// P8.1: behind a Pop of a full stack one place goes in again, of each room; what overflowed is not there.
func TestPushBehindPop(t *testing.T) {
	for room := 1; room <= api.MaxMark; room++ {
		s := full(t, room, 1)
		holdsPush(t, s, 777, false)
		holdsPop(t, s, room, true)
		holdsPush(t, s, 888, true)
		holdsPush(t, s, 999, false)
		if n := s.Len(); n != room {
			t.Fatalf("Len() = %d; want %d", n, room)
		}
		holdsOver(t, s, true)
		holdsPop(t, s, 888, true)
		for at := room - 1; at > 0; at-- {
			holdsPop(t, s, at, true)
		}
		holdsPop(t, s, 0, false)
		holdsOver(t, s, false)
	}
}

// P8.2: Over is asked once behind one overflow or several, and stays till it is asked, whatever comes out between.
func TestOver(t *testing.T) {
	s := full(t, 2, 5)
	holdsOver(t, s, false)
	for times := 1; times <= 70; times++ {
		for range times {
			holdsPush(t, s, 9, false)
		}
		holdsPop(t, s, 6, true)
		holdsPush(t, s, 6, true)
		looks(t, s, 5, 6)
		holdsOver(t, s, true)
		for range 3 {
			holdsOver(t, s, false)
		}
		looks(t, s, 5, 6)
	}
	holdsPush(t, s, 9, false)
	holdsPop(t, s, 6, true)
	holdsPop(t, s, 5, true)
	holdsPop(t, s, 0, false)
	holdsOver(t, s, true)
	holdsOver(t, s, false)
	looks(t, s)
}

// P8.2: Over, All and Len change no place, and make no room.
func TestAskingChangesNothing(t *testing.T) {
	s := full(t, 3, 1)
	holdsPush(t, s, 4, false)
	for range 3 {
		looks(t, s, 1, 2, 3)
	}
	holdsOver(t, s, true)
	holdsPush(t, s, 4, false)
	looks(t, s, 1, 2, 3)
	holdsOver(t, s, true)
	holdsPop(t, s, 3, true)
	holdsOver(t, s, false)
	looks(t, s, 1, 2)
}

// P8.2 (R3): what All answers is its caller's alone, spare room too.
func TestAllIsNew(t *testing.T) {
	for n := range api.MaxMark + 1 {
		s, m := made(t, api.MaxMark), &model{room: api.MaxMark}
		for at := range n {
			holdsPush(t, s, at+1, m.push(at+1))
		}
		first, second := s.All(), s.All()
		room := first[:cap(first)]
		for i := range room {
			room[i] = -7
		}
		if !slices.Equal(second, m.places) {
			t.Fatalf("two answers share room: %v", second)
		}
		looks(t, s, m.places...)
		holdsPush(t, s, 1000, m.push(1000))
		looks(t, s, m.places...)
		if len(room) > 0 && slices.Max(room) != slices.Min(room) {
			t.Fatalf("a Push has changed what All answered: %v", room)
		}
	}
}

// P8.2 (R3): what All answered stays as it is, whatever is done to the stack then.
func TestAllStays(t *testing.T) {
	s := full(t, 4, 1)
	kept := s.All()
	for range 4 {
		s.Pop()
	}
	for at := range 6 {
		s.Push(90 + at)
	}
	if !slices.Equal(kept, []int{1, 2, 3, 4}) {
		t.Errorf("what All answered has become %v", kept)
	}
	looks(t, s, 90, 91, 92, 93)
}

// P8.1, P8.2: of no stack at all there is nothing, whatever is asked, and nothing overflows.
func TestNil(t *testing.T) {
	var s *Stack
	for _, at := range append(wild(), places()...) {
		holdsPush(t, s, at, false)
		holdsPop(t, s, 0, false)
		holdsOver(t, s, false)
		looks(t, s)
	}
}

// act does one act of a kind to a stack and to its model, and holds the answers and what is there against each other.
func (m *model) act(t *testing.T, s *Stack, kind, at int) {
	t.Helper()
	switch kind {
	case 0:
		holdsPush(t, s, at, m.push(at))
	case 1:
		want, ok := m.pop()
		holdsPop(t, s, want, ok)
	default:
		holdsOver(t, s, m.asked())
	}
	looks(t, s, m.places...)
}

// P8.1, P8.2: each row of up to nine acts, on the least rooms; Len and All behind each act.
func TestShortRows(t *testing.T) {
	for room := 1; room <= 3; room++ {
		rows := 1
		for length := range 10 {
			for n := range rows {
				s, m := made(t, room), &model{room: room}
				for i := range length {
					m.act(t, s, n%3, i+1)
					n /= 3
				}
			}
			rows *= 3
		}
	}
}

// some answers numbers below an end, always the same ones.
func some(seed uint64) func(below int) int {
	return func(below int) int {
		seed = seed*6364136223846793005 + 1442695040888963407
		return int(seed >> 33 % uint64(below))
	}
}

// P8.1, P8.2: long rows of any acts, on each room, of any places.
func TestAnyActs(t *testing.T) {
	for room := 1; room <= api.MaxMark; room++ {
		s, m := made(t, room), &model{room: room}
		next := some(uint64(room))
		for i := range 2000 {
			// Whether more is put or taken turns, so that the stack is full and empty again and again.
			kind := next(10)
			switch rising := i/(2*room+1)%2 == 0; {
			case kind == 0:
				kind = 2
			case kind < 7 == rising:
				kind = 0
			default:
				kind = 1
			}
			m.act(t, s, kind, next(1<<20)-1<<19)
		}
	}
}

// P8.3: each place that was put comes out once, later ones ahead of earlier ones that were there with it, or the stack overflowed with it.
func TestEachComesOutOnce(t *testing.T) {
	for room := 1; room <= api.MaxMark; room++ {
		s := made(t, room)
		next := some(uint64(room) + 99)
		in, out, lost := map[int]bool{}, map[int]bool{}, map[int]bool{}
		const most = 1000
		take := func() bool {
			at, ok := s.Pop()
			if !ok {
				return false
			}
			if !in[at] || out[at] || lost[at] {
				t.Fatalf("room %d: %d came out: put %t, out before %t, lost %t", room, at, in[at], out[at], lost[at])
			}
			for other := at + 1; other <= most; other++ {
				if in[other] && !out[other] {
					t.Fatalf("room %d: %d came out ahead of %d", room, at, other)
				}
			}
			out[at] = true
			return true
		}
		for at := 1; at <= most; at++ {
			if s.Push(at) {
				in[at] = true
			} else {
				lost[at] = true
				holdsOver(t, s, true)
			}
			if next(5) < 2 {
				take()
			}
		}
		for take() {
		}
		if len(out) != len(in) || len(out)+len(lost) != most || len(lost) == 0 {
			t.Fatalf("room %d: %d were put, %d came out, %d were lost, of %d", room, len(in), len(out), len(lost), most)
		}
		looks(t, s)
	}
}
