package script

import (
	"fmt"
	"slices"
	"strings"
	"testing"

	"demesne/api"
)

// The limits that the chapter names.
const (
	maxScript  = 4000
	maxThreads = 64
	collector  = 255
)

// The operations' numbers, as they stand in the chapter's order.
const (
	step    = 0
	alloc   = 1
	load    = 2
	store   = 3
	read    = 4
	write   = 5
	get     = 6
	put     = 7
	move    = 8
	clear_  = 9
	push    = 10
	pop     = 11
	collect = 12
	cycle   = 13
)

// counts are how many arguments the chapter's table gives to each operation.
func counts() []int {
	return []int{
		step:    0,
		alloc:   3, // dst, refs, size
		load:    3, // dst, src, i
		store:   3, // obj, i, val
		read:    2, // src, i
		write:   3, // obj, i, v
		get:     2, // dst, g
		put:     2, // g, val
		move:    2, // dst, src
		clear_:  1, // dst
		push:    1, // slot
		pop:     1, // slot
		collect: 0,
		cycle:   0,
	}
}

// lawful is the chapter's rule for entries that may be.
func lawful(e Entry) bool {
	all := counts()
	if int(e.Op.Do) >= len(all) {
		return false
	}
	for i, v := range []uint8{e.Op.A, e.Op.B, e.Op.C} {
		if i >= all[e.Op.Do] && v != 0 {
			return false
		}
	}
	switch e.Op.Do {
	case step:
		return e.Agent == collector || e.Agent < maxThreads
	case cycle:
		return e.Agent == collector
	}
	return e.Agent < maxThreads
}

// formula is an entry's bytes, as the chapter tells them; the entry may be.
func formula(e Entry) string {
	return string([]byte{e.Agent, e.Op.Do, e.Op.A, e.Op.B, e.Op.C}[:2+counts()[e.Op.Do]])
}

// model answers what Decode should, for a text of any length: it looks for an entry ahead of all others, and leaves the rest to itself, up to the limit.
func model(s string) ([]Entry, api.Errno) {
	if len(s) > maxScript {
		return nil, api.ErrLimit
	}
	var l []Entry
	for s != "" {
		// Behind a text that is broken off there are no bytes; an entry that needs them is longer than the text.
		full := s + "\x00\x00\x00\x00"
		e := Entry{Agent: full[0], Op: Op{Do: full[1]}}
		if !lawful(e) {
			return nil, api.ErrForm
		}
		n := counts()[e.Op.Do]
		if 2+n > len(s) {
			return nil, api.ErrForm
		}
		for i, to := range []*uint8{&e.Op.A, &e.Op.B, &e.Op.C}[:n] {
			*to = full[2+i]
		}
		l = append(l, e)
		s = s[2+n:]
	}
	return l, api.OK
}

// row is an entry and its bytes, worked out by hand.
type row struct {
	e Entry
	s string
}

// rows are entries of all operations, with arguments of which no two are alike, and such at the edges.
func rows() []row {
	return []row{
		{Entry{}, "\x00\x00"},
		{Entry{0, Op{Do: Step}}, "\x00\x00"},
		{Entry{63, Op{Do: Step}}, "\x3f\x00"},
		{Entry{255, Op{Do: Step}}, "\xff\x00"},
		{Entry{Collector, Op{Do: Cycle}}, "\xff\x0d"},
		{Entry{0, Op{Alloc, 2, 1, 3}}, "\x00\x01\x02\x01\x03"},
		{Entry{1, Op{Alloc, 7, 3, 95}}, "\x01\x01\x07\x03\x5f"},
		{Entry{2, Op{Load, 4, 5, 6}}, "\x02\x02\x04\x05\x06"},
		{Entry{3, Op{Store, 7, 8, 9}}, "\x03\x03\x07\x08\x09"},
		{Entry{4, Op{Do: Read, A: 10, B: 11}}, "\x04\x04\x0a\x0b"},
		{Entry{5, Op{Write, 12, 13, 14}}, "\x05\x05\x0c\x0d\x0e"},
		{Entry{6, Op{Do: Get, A: 15, B: 16}}, "\x06\x06\x0f\x10"},
		{Entry{7, Op{Do: Put, A: 17, B: 18}}, "\x07\x07\x11\x12"},
		{Entry{8, Op{Do: Move, A: 19, B: 20}}, "\x08\x08\x13\x14"},
		{Entry{9, Op{Do: Clear, A: 21}}, "\x09\x09\x15"},
		{Entry{10, Op{Do: Push, A: 22}}, "\x0a\x0a\x16"},
		{Entry{11, Op{Do: Pop, A: 23}}, "\x0b\x0b\x17"},
		{Entry{12, Op{Do: Collect}}, "\x0c\x0c"},
		{Entry{63, Op{Do: Collect}}, "\x3f\x0c"},
		{Entry{63, Op{Write, 0, 0, 255}}, "\x3f\x05\x00\x00\xff"},
		{Entry{63, Op{Write, 255, 0, 0}}, "\x3f\x05\xff\x00\x00"},
		{Entry{63, Op{Store, 255, 255, 255}}, "\x3f\x03\xff\xff\xff"},
		{Entry{0, Op{Load, 0, 0, 0}}, "\x00\x02\x00\x00\x00"},
		{Entry{0, Op{Do: Put, A: 0, B: 255}}, "\x00\x07\x00\xff"},
		{Entry{0, Op{Do: Pop, A: 255}}, "\x00\x0b\xff"},
		{Entry{0, Op{Do: Clear, A: 0}}, "\x00\x09\x00"},
	}
}

// refused are entries that may not be.
func refused() []Entry {
	return []Entry{
		{Agent: 64},
		{Agent: 128},
		{Agent: 254},
		{Agent: 64, Op: Op{Do: Cycle}},
		{Agent: 254, Op: Op{Do: Cycle}},
		{Agent: 64, Op: Op{Alloc, 0, 0, 1}},
		{Agent: 191, Op: Op{Do: Collect}},
		{Agent: 0, Op: Op{Do: Cycle}},
		{Agent: 63, Op: Op{Do: Cycle}},
		{Agent: 0, Op: Op{Do: 14}},
		{Agent: 0, Op: Op{Do: 255}},
		{Agent: 255, Op: Op{Do: 14}},
		{Agent: 255, Op: Op{Do: 255}},
		{Agent: 255, Op: Op{Alloc, 0, 0, 1}},
		{Agent: 255, Op: Op{Do: Collect}},
		{Agent: 255, Op: Op{Do: Pop}},
		{Agent: 0, Op: Op{Do: Step, A: 1}},
		{Agent: 0, Op: Op{Do: Step, B: 1}},
		{Agent: 0, Op: Op{Do: Step, C: 1}},
		{Agent: 255, Op: Op{Do: Step, C: 255}},
		{Agent: 255, Op: Op{Do: Cycle, A: 1}},
		{Agent: 0, Op: Op{Do: Collect, B: 128}},
		{Agent: 0, Op: Op{Do: Read, A: 1, B: 1, C: 1}},
		{Agent: 0, Op: Op{Do: Put, C: 1}},
		{Agent: 0, Op: Op{Do: Clear, A: 1, B: 1}},
		{Agent: 0, Op: Op{Do: Push, A: 1, C: 1}},
	}
}

// refusedTexts are bytes that are none of an entry, and of which no first ones are.
func refusedTexts() []string {
	return []string{
		"\x40\x00", "\x80\x00", "\xfe\x00", // no agent
		"\x40\x0d", "\xfe\x0d", "\x40\x01\x00\x00\x01", "\xbf\x0c",
		"\x00\x0d", "\x3f\x0d", // a thread's Cycle
		"\x00\x0e", "\x00\xff", "\xff\x0e", "\xff\xff", "\x3f\x80", "\x00\x0e\x00\x00\x00", // no operation
		"\xff\x01\x00\x00\x01", "\xff\x02\x00\x00\x00", "\xff\x0c", "\xff\x0b\x00", "\xff\x09\x00", // no operation of the collector
		"\x40\x0e", "\xfe\xff", // neither
	}
}

// long is a script of all operations, over and over, of just so many bytes, 2 or more of them: an entry behind which one byte would be left is passed over.
func long(n int) []Entry {
	var l []Entry
	for i := 0; n > 0; i++ {
		r := rows()[i%len(rows())]
		if left := n - len(r.s); left == 0 || left > 1 {
			l, n = append(l, r.e), left
		}
	}
	return l
}

// textOf is the bytes of entries that all may be.
func textOf(l []Entry) string {
	var s strings.Builder
	for _, e := range l {
		s.WriteString(formula(e))
	}
	return s.String()
}

// chance answers numbers below n, of which the next ones are told by a rule, and look like any.
func chance(seed uint64) func(n int) int {
	return func(n int) int {
		seed = seed*6364136223846793005 + 1442695040888963407
		return int(seed >> 33 % uint64(n))
	}
}

// anyEntry is an entry that may be.
func anyEntry(next func(n int) int) Entry {
	if next(8) == 0 {
		return Entry{Agent: collector, Op: Op{Do: []uint8{step, cycle}[next(2)]}}
	}
	e := Entry{Agent: uint8(next(maxThreads)), Op: Op{Do: uint8(next(cycle))}}
	for _, to := range []*uint8{&e.Op.A, &e.Op.B, &e.Op.C}[:counts()[e.Op.Do]] {
		*to = uint8(next(256))
	}
	return e
}

// brief is entries as a test tells them: of many ones how many there are, and the first ones.
func brief(l []Entry) string {
	if len(l) <= 40 {
		return fmt.Sprint(l)
	}
	return fmt.Sprintf("%d entries %v..", len(l), l[:40])
}

// briefText is bytes as a test tells them, likewise.
func briefText(s string) string {
	if len(s) <= 100 {
		return fmt.Sprintf("%x", s)
	}
	return fmt.Sprintf("%d bytes %x..", len(s), s[:100])
}

func holdsEncode(t *testing.T, l []Entry, want string, wantE api.Errno) {
	t.Helper()
	if s, e := Encode(l); s != want || e != wantE {
		t.Fatalf("Encode(%s) = %s, %d; want %s, %d", brief(l), briefText(s), e, briefText(want), wantE)
	}
}

func holdsDecode(t *testing.T, s string, want []Entry, wantE api.Errno) {
	t.Helper()
	if l, e := Decode(s); !slices.Equal(l, want) || e != wantE {
		t.Fatalf("Decode(%s) = %s, %d; want %s, %d", briefText(s), brief(l), e, brief(want), wantE)
	}
}

func holdsMay(t *testing.T, e Entry, want bool) {
	t.Helper()
	if may := e.May(); may != want {
		t.Fatalf("%v.May() = %v; want %v", e, may, want)
	}
}

// holdsBoth holds entries that all may be and their bytes against each other, both ways.
func holdsBoth(t *testing.T, l []Entry, s string) {
	t.Helper()
	holdsEncode(t, l, s, api.OK)
	holdsDecode(t, s, l, api.OK)
}

// P11.1, P11.2: the chapter's example.
func TestExample(t *testing.T) {
	l := []Entry{
		{Agent: 0, Op: Op{Do: Alloc, A: 2, B: 1, C: 3}},
		{Agent: 0, Op: Op{Do: Step}},
		{Agent: Collector, Op: Op{Do: Cycle}},
	}
	holdsBoth(t, l, "\x00\x01\x02\x01\x03\x00\x00\xff\x0d")
}

// The numbers of the operations, in the chapter's order, of the collector, and of the limits.
func TestNumbers(t *testing.T) {
	got := []uint8{Step, Alloc, Load, Store, Read, Write, Get, Put, Move, Clear, Push, Pop, Collect, Cycle, Collector}
	want := []uint8{step, alloc, load, store, read, write, get, put, move, clear_, push, pop, collect, cycle, collector}
	if !slices.Equal(got, want) {
		t.Errorf("the operations and the collector are %v; want %v", got, want)
	}
	if api.MaxScript != maxScript || api.MaxThreads != maxThreads {
		t.Error("limits", api.MaxScript, api.MaxThreads)
	}
}

// P11.3: how many arguments each operation has, and 0 of each number that is none's.
func TestArgs(t *testing.T) {
	all := counts()
	for do := range 256 {
		want := 0
		if do < len(all) {
			want = all[do]
		}
		if n := Args(uint8(do)); n != want {
			t.Errorf("Args(%d) = %d; want %d", do, n, want)
		}
	}
}

// P11.1, P11.2, P11.3: each operation by hand, alone.
func TestByHand(t *testing.T) {
	for _, r := range rows() {
		holdsMay(t, r.e, true)
		holdsBoth(t, []Entry{r.e}, r.s)
	}
}

// P11.1, P11.2: each operation behind each, and all of them in a row.
func TestByHandInARow(t *testing.T) {
	var all []Entry
	var text string
	for _, first := range rows() {
		for _, second := range rows() {
			holdsBoth(t, []Entry{first.e, second.e}, first.s+second.s)
		}
		all, text = append(all, first.e), text+first.s
	}
	holdsBoth(t, all, text)
	slices.Reverse(all)
	holdsBoth(t, all, textOf(all))
}

// P11.1, P11.2, P11.3: each byte as each argument of each operation.
func TestEachArgument(t *testing.T) {
	for do, n := range counts()[:cycle] {
		for at := range n {
			for v := range 256 {
				args := [3]uint8{101, 102, 103}
				clear(args[n:])
				args[at] = uint8(v)
				e := Entry{Agent: 9, Op: Op{uint8(do), args[0], args[1], args[2]}}
				holdsMay(t, e, true)
				holdsBoth(t, []Entry{e}, string([]byte{9, uint8(do)})+string(args[:n]))
			}
		}
	}
}

// P11.3: every agent with every operation, and arguments that there are, and that there are not.
func TestMay(t *testing.T) {
	values := []uint8{0, 1, 2, 128, 255}
	for agent := range 256 {
		for do := range 256 {
			for _, a := range values {
				for _, b := range values {
					for _, c := range values {
						e := Entry{uint8(agent), Op{uint8(do), a, b, c}}
						if may := e.May(); may != lawful(e) {
							t.Fatalf("%v.May() = %v", e, may)
						}
					}
				}
			}
		}
	}
}

// P11.3: how many entries may be, counted by hand from the table: of 64 threads, with 0 to 3 arguments, and of the collector.
func TestMayCounted(t *testing.T) {
	n := 0
	for agent := range 256 {
		for do := range 256 {
			if (Entry{uint8(agent), Op{Do: uint8(do)}}).May() {
				n++
			}
		}
	}
	if n != 64*13+2 {
		t.Errorf("%d agents with operations; want %d", n, 64*13+2)
	}
}

// P11.3: each value but 0 of an argument that there is not.
func TestMayNoSuchArgument(t *testing.T) {
	for do, n := range counts() {
		agent := uint8(0)
		if do == cycle {
			agent = collector
		}
		for at := n; at < 3; at++ {
			for v := range 256 {
				var args [3]uint8
				args[at] = uint8(v)
				e := Entry{agent, Op{uint8(do), args[0], args[1], args[2]}}
				holdsMay(t, e, v == 0)
				if v != 0 {
					holdsEncode(t, []Entry{e}, "", api.ErrForm)
				}
			}
		}
	}
}

// P11.3: entries that may not be, by hand.
func TestMayNot(t *testing.T) {
	for _, e := range refused() {
		holdsMay(t, e, false)
	}
}

// P11.1, P11.2: no entry and no byte, be the list nil or empty.
func TestNothing(t *testing.T) {
	holdsEncode(t, nil, "", api.OK)
	holdsEncode(t, []Entry{}, "", api.OK)
	holdsEncode(t, make([]Entry, 0, 4), "", api.OK)
	holdsDecode(t, "", nil, api.OK)
}

// P11.1: an entry that may not be, as the first one, as the last one, between others, and alone.
func TestEncodeRefuses(t *testing.T) {
	good := long(60)
	for _, wrong := range refused() {
		holdsEncode(t, []Entry{wrong}, "", api.ErrForm)
		for at := range len(good) + 1 {
			holdsEncode(t, slices.Insert(slices.Clone(good), at, wrong), "", api.ErrForm)
		}
		holdsEncode(t, []Entry{wrong, wrong}, "", api.ErrForm)
	}
}

// P11.1: every agent with every operation, alone and behind another.
func TestEncodeEach(t *testing.T) {
	for agent := range 256 {
		for do := range 256 {
			for _, args := range [][3]uint8{{}, {1}, {1, 2}, {1, 2, 3}, {0, 0, 3}} {
				e := Entry{uint8(agent), Op{uint8(do), args[0], args[1], args[2]}}
				want, wantE := "", api.ErrForm
				if lawful(e) {
					want, wantE = formula(e), api.OK
				}
				holdsEncode(t, []Entry{e}, want, wantE)
				if wantE == api.OK {
					want = "\x3f\x09\x05" + want
				}
				holdsEncode(t, []Entry{{63, Op{Do: Clear, A: 5}}, e}, want, wantE)
			}
		}
	}
}

// P11.1: entries of more than MaxScript bytes have bytes, too; the limit is told where they are read.
func TestEncodeOfMore(t *testing.T) {
	for _, n := range []int{maxScript - 1, maxScript, maxScript + 1, maxScript + 2, maxScript + 5, 2 * maxScript, 10*maxScript + 3} {
		l := long(n)
		s := textOf(l)
		if len(s) != n {
			t.Fatalf("%d bytes; want %d", len(s), n)
		}
		holdsEncode(t, l, s, api.OK)
		holdsEncode(t, append(slices.Clone(l), Entry{Agent: 64}), "", api.ErrForm)
		holdsEncode(t, append([]Entry{{Agent: 64}}, l...), "", api.ErrForm)
		if n > maxScript {
			holdsDecode(t, s, nil, api.ErrLimit)
		} else {
			holdsDecode(t, s, l, api.OK)
		}
	}
	holdsEncode(t, make([]Entry, 10000), strings.Repeat("\x00\x00", 10000), api.OK)
}

// P11.2: a script of just MaxScript bytes, whose last entry, of each length, ends there.
func TestDecodeLongest(t *testing.T) {
	holdsDecode(t, strings.Repeat("\x00\x00", maxScript/2), make([]Entry, maxScript/2), api.OK)
	for _, r := range rows() {
		l := append(long(maxScript-len(r.s)), r.e)
		s := textOf(l)
		if len(s) != maxScript {
			t.Fatalf("%d bytes; want %d", len(s), maxScript)
		}
		holdsBoth(t, l, s)
		holdsDecode(t, s[:maxScript-1], nil, api.ErrForm)
		holdsDecode(t, s+"\x00", nil, api.ErrLimit)
		holdsDecode(t, s+r.s, nil, api.ErrLimit)
		holdsDecode(t, r.s+s, nil, api.ErrLimit)
	}
}

// P11.2: one byte more than MaxScript, also if it is the last one of an entry.
func TestDecodeTooLong(t *testing.T) {
	for _, n := range []int{maxScript + 1, maxScript + 2, maxScript + 3, 2 * maxScript, 1 << 16, 1<<16 + 2, 1 << 20} {
		holdsDecode(t, textOf(long(n)), nil, api.ErrLimit)
	}
}

// P11.2: of a text that is too long, this is told, also if it would be refused for its form: at its beginning, in its midst, at its end, or in two of them.
func TestErrorsInOrder(t *testing.T) {
	full := textOf(long(maxScript))
	for _, wrong := range append(refusedTexts(), "\x00", "\xff", "\x40", "\x00\x01\x02") {
		over := maxScript + 1 - len(wrong)
		for _, s := range []string{
			wrong + full,
			full + wrong,
			wrong + full + wrong,
			full[:over] + wrong,
			wrong + full[:over],
			full[:2000] + wrong + full[2000:],
			strings.Repeat(wrong, maxScript+1),
		} {
			if len(s) <= maxScript {
				t.Fatalf("%d bytes are not too long", len(s))
			}
			holdsDecode(t, s, nil, api.ErrLimit)
		}
		// Ahead of other bytes what is broken off may be read on into them, so that it stands at the end alone.
		short := textOf(long(maxScript - len(wrong)))
		holdsDecode(t, short+wrong, nil, api.ErrForm)
		if slices.Contains(refusedTexts(), wrong) {
			holdsDecode(t, wrong+short, nil, api.ErrForm)
		}
	}
}

// P11.2: bytes that are no entry's, alone, ahead of others, behind others, and between them.
func TestDecodeRefuses(t *testing.T) {
	good := long(60)
	for _, wrong := range refusedTexts() {
		holdsDecode(t, wrong, nil, api.ErrForm)
		for at := range len(good) + 1 {
			holdsDecode(t, textOf(good[:at])+wrong+textOf(good[at:]), nil, api.ErrForm)
		}
	}
}

// P11.2: every agent with every operation, with as many bytes behind them as it has arguments, fewer, and more.
func TestDecodeEach(t *testing.T) {
	for agent := range 256 {
		for do := range 256 {
			for _, behind := range []string{"", "\x00", "\x00\x00", "\x00\x00\x00", "\x05", "\x05\x06", "\x05\x06\x07", "\x05\x06\x07\x00\x00", "\x05\x06\x07\x40\x00"} {
				s := string([]byte{uint8(agent), uint8(do)}) + behind
				want, wantE := model(s)
				holdsDecode(t, s, want, wantE)
			}
		}
	}
}

// P11.2: too few bytes behind each operation, also behind other entries; its bytes are there, but no more.
func TestTooFewBytes(t *testing.T) {
	for _, r := range rows() {
		for n := 1; n < len(r.s); n++ {
			holdsDecode(t, r.s[:n], nil, api.ErrForm)
			holdsDecode(t, "\xff\x0d"+r.s[:n], nil, api.ErrForm)
			holdsDecode(t, r.s+r.s[:n], nil, api.ErrForm)
		}
	}
}

// P11.2: one byte alone is no entry, whatever it is.
func TestOneByte(t *testing.T) {
	for v := range 256 {
		holdsDecode(t, string([]byte{uint8(v)}), nil, api.ErrForm)
	}
}

// P11.4: a text that is broken off anywhere is refused, or is the script of the first ones of its entries.
func TestBrokenOff(t *testing.T) {
	for _, l := range [][]Entry{long(200), long(maxScript), slices.Repeat([]Entry{{63, Op{Write, 255, 255, 255}}}, 50), make([]Entry, 50)} {
		s := textOf(l)
		first, ends := 0, 0
		for n := range len(s) + 1 {
			if n == ends {
				holdsDecode(t, s[:n], l[:first], api.OK)
				if first < len(l) {
					ends += len(formula(l[first]))
					first++
				}
				continue
			}
			holdsDecode(t, s[:n], nil, api.ErrForm)
		}
		if first != len(l) {
			t.Fatalf("%d of %d entries", first, len(l))
		}
	}
}

// P11.4: all short texts, of bytes at the edges: what is decoded is encoded to the same, and nothing is decoded that should not be.
func TestShortTexts(t *testing.T) {
	edges := []byte{0, 1, 4, 9, 12, 13, 14, 63, 64, 255}
	var grow func(s string, more int)
	grow = func(s string, more int) {
		want, wantE := model(s)
		holdsDecode(t, s, want, wantE)
		if wantE == api.OK {
			holdsEncode(t, want, s, api.OK)
		}
		if more > 0 {
			for _, v := range edges {
				grow(s+string([]byte{v}), more-1)
			}
		}
	}
	grow("", 5)
}

// P11.4: entries and bytes answer each other, both ways, for any scripts; and a byte that is turned into another one makes what the chapter says.
func TestAnyScripts(t *testing.T) {
	next := chance(11)
	for range 3000 {
		var l []Entry
		for range next(40) {
			l = append(l, anyEntry(next))
		}
		s := textOf(l)
		holdsBoth(t, l, s)
		if s == "" {
			continue
		}
		turned := []byte(s)
		for range 20 {
			turned[next(len(turned))] = uint8(next(256) >> next(8))
			want, wantE := model(string(turned))
			holdsDecode(t, string(turned), want, wantE)
			if wantE == api.OK {
				holdsEncode(t, want, string(turned), api.OK)
			} else {
				copy(turned, s)
			}
		}
	}
}

// P11.4: no two scripts have the same bytes: all rows of two entries of a few, and each of them alone.
func TestNoTwoAlike(t *testing.T) {
	var all [][]Entry
	for _, first := range rows()[1:] {
		all = append(all, []Entry{first.e})
		for _, second := range rows()[1:] {
			all = append(all, []Entry{first.e, second.e})
		}
	}
	seen := map[string]bool{}
	for _, l := range all {
		s, e := Encode(l)
		if e != api.OK || seen[s] {
			t.Fatalf("Encode(%v) = %x, %d: it is another's, too", l, s, e)
		}
		seen[s] = true
	}
}

// R3: what Decode answers is new memory, with its spare room: what is written there is seen in no other answer, be it an earlier or a later one.
func TestDecodeIsNew(t *testing.T) {
	scrawl := Entry{7, Op{7, 7, 7, 7}}
	for _, want := range [][]Entry{{{1, Op{Do: Step}}}, long(60), long(maxScript)} {
		s := textOf(want)
		earlier, _ := Decode(s)
		l, _ := Decode(s)
		for i := range l[:cap(l)] {
			l[:cap(l)][i] = scrawl
		}
		if !slices.Equal(earlier, want) || slices.Contains(earlier[:cap(earlier)], scrawl) {
			t.Fatalf("Decode(%s) turned to %s; want %s", briefText(s), brief(earlier), brief(want))
		}
		holdsDecode(t, s, want, api.OK)
	}
}

// R3: what is handed to Encode is not changed, with the room behind its end, and not kept.
func TestEncodeChangesNothing(t *testing.T) {
	good := long(60)
	for _, l := range [][]Entry{good, append(slices.Clone(good), Entry{Agent: 64})} {
		room := append(slices.Clone(l), refused()...)
		was := slices.Clone(room)
		s, e := Encode(room[:len(l)])
		if !slices.Equal(room, was) {
			t.Fatalf("Encode(%s) changed its argument to %s", brief(was), brief(room))
		}
		kept := strings.Clone(s)
		for i := range room {
			room[i] = Entry{3, Op{Write, 3, 3, 3}}
		}
		if s != kept {
			t.Fatalf("Encode answered %s, that turned to %s", briefText(kept), briefText(s))
		}
		holdsEncode(t, l, s, e)
	}
}

// R2: calls leave nothing behind, also such as are refused.
func TestNothingIsLeftBehind(t *testing.T) {
	for range 3 {
		for _, r := range rows() {
			holdsDecode(t, r.s+"\x40\x00", nil, api.ErrForm)
			holdsDecode(t, r.s, []Entry{r.e}, api.OK)
			holdsEncode(t, []Entry{r.e, {Agent: 64}}, "", api.ErrForm)
			holdsEncode(t, []Entry{r.e}, r.s, api.OK)
			holdsDecode(t, strings.Repeat(r.s, maxScript), nil, api.ErrLimit)
			holdsDecode(t, r.s+r.s, []Entry{r.e, r.e}, api.OK)
		}
	}
}

// R4: beside an error nothing is answered, not even an empty list with entries behind its end.
func TestEmptyBesideAnError(t *testing.T) {
	good := textOf(long(60))
	for _, s := range []string{good + "\x00", good + "\x40\x00", strings.Repeat("\x00\x00", maxScript)} {
		if l, e := Decode(s); len(l) != 0 || cap(l) != 0 || e == api.OK {
			t.Errorf("Decode(%s) = %s, %d", briefText(s), brief(l[:cap(l)]), e)
		}
	}
}
