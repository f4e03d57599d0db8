package publish

import (
	"slices"
	"strconv"
	"testing"
)

// The bits of a header's word, as the layer word tells them.
const (
	colourBit = 4
	greyBit   = 8
	markBit   = 16
)

// kindOf tells by the bits alone, without the layer word, of what kind a header is whose word it is, from Free's 0 on; or -1, if it is none's.
func kindOf(w uint64) int {
	kind, refs, size := w&3, w>>11&127, w>>18
	switch {
	case kind <= 1 && w&^(3|63*32) == 0:
		return int(kind)
	case refs > size || size > 95:
		return -1
	case kind == 2 && w&(colourBit|greyBit) == 0, kind == 3 && w&markBit == 0:
		return int(kind)
	}
	return -1
}

// refsOf is how many references an object has, if it is one whose header's word it is; else 0.
func refsOf(w uint64) int {
	if kindOf(w) < 2 {
		return 0
	}
	return int(w >> 11 & 127)
}

// published is what a word is behind the publishing of its object.
func published(w uint64, colour uint8) uint64 {
	if kindOf(w) == 2 {
		return w&^markBit | 3 | colourBit*uint64(colour)
	}
	return w
}

// head is the word of a header without colour, grey or marked, of the owner 0.
func head(kind, refs, size uint64) uint64 { return kind + refs<<11 + size<<18 }

// The kinds of touches.
const (
	read = iota
	write
	update
)

// mark is a touch that was done: of what kind, where, what the word was, and what it is; and the worklist ahead of it, as text.
type mark struct {
	work     string
	kind, at int
	was, is  uint64
}

// text is a mark as text, without the words.
func (k mark) text() string {
	return k.work + "rwu"[k.kind:k.kind+1] + strconv.Itoa(k.at)
}

// texts are marks as text, one behind the other.
func texts(l []mark) string {
	s := ""
	for i, k := range l {
		if i > 0 {
			s += " "
		}
		s += k.text()
	}
	return s
}

// list is a list of places as text.
func list(l []int) string {
	b := []byte{'['}
	for i, at := range l {
		if i > 0 {
			b = append(b, ' ')
		}
		b = strconv.AppendInt(b, int64(at), 10)
	}
	return string(append(b, ']'))
}

// plain is a memory.
type plain []uint64

func (m plain) Read(at int) uint64 {
	return m.Update(at, func(v uint64) uint64 { return v })
}

func (m plain) Write(at int, v uint64) {
	m.Update(at, func(uint64) uint64 { return v })
}

func (m plain) Update(at int, f func(v uint64) uint64) uint64 {
	if at < 0 || at >= len(m) {
		return 0
	}
	was := m[at]
	m[at] = f(was)
	return was
}

// tape is a memory that keeps what was done to it, and the worklist ahead of each touch. Behind each touch it may be looked at.
type tape struct {
	words  plain
	work   *[]int
	marks  []mark
	behind func()
}

// newTape is one over words of its own.
func newTape(work *[]int, words ...uint64) *tape {
	return &tape{words: slices.Clone(words), work: work}
}

func (m *tape) Read(at int) uint64 {
	return m.touch(read, at, func(v uint64) uint64 { return v })
}

func (m *tape) Write(at int, v uint64) {
	m.touch(write, at, func(uint64) uint64 { return v })
}

func (m *tape) Update(at int, f func(v uint64) uint64) uint64 {
	return m.touch(update, at, f)
}

func (m *tape) touch(kind, at int, f func(v uint64) uint64) uint64 {
	k := mark{kind: kind, at: at}
	if m.work != nil {
		k.work = list(*m.work)
	}
	k.was = m.words.Update(at, f)
	k.is = m.words.Read(at)
	m.marks = append(m.marks, k)
	if m.behind != nil {
		m.behind()
	}
	return k.was
}

// model publishes as the chapter says, touch by touch, by the numbers of words alone.
type model struct {
	colour uint8
	work   []int
	begun  bool
	looked bool // the header of the first one is read
	refs   int  // how many references it has
	read   int  // how many of them are read
	to     int  // to what the last one leads: there the next touch is; or 0
}

// newModel is one that begins with an Update at a place.
func newModel(at int, colour uint8, work ...int) *model {
	return &model{colour: colour, work: slices.Clone(work), to: at}
}

// done tells whether there is nothing more to touch.
func (o *model) done() bool { return o.begun && len(o.work) == 0 }

// next does the next touch of words.
func (o *model) next(words plain) mark {
	k := mark{work: list(o.work)}
	switch {
	case !o.begun, o.to != 0:
		o.update(&k, words)
	case !o.looked:
		o.touch(&k, words, read, o.work[0])
		o.looked, o.refs, o.read = true, refsOf(k.was), 0
	default:
		o.read++
		o.touch(&k, words, read, o.work[0]+o.read)
		o.to = int(k.was)
	}
	if o.looked && o.read == o.refs && o.to == 0 {
		o.work, o.looked = o.work[1:], false
	}
	return k
}

// update does the Update that is due.
func (o *model) update(k *mark, words plain) {
	o.touch(k, words, update, o.to)
	words.Write(o.to, published(k.was, o.colour))
	k.is = words.Read(o.to)
	if kindOf(k.was) == 2 {
		o.work = append(o.work, o.to)
	}
	o.begun, o.to = true, 0
}

// touch tells of a touch.
func (o *model) touch(k *mark, words plain, kind, at int) {
	w := words.Read(at)
	k.kind, k.at, k.was, k.is = kind, at, w, w
}

// all does all touches there are.
func (o *model) all(words plain) []mark {
	var l []mark
	for !o.done() {
		l = append(l, o.next(words))
	}
	return l
}

// hangs are the places of the Local objects that one reaches by Local ones, itself too, found by looking again and again for one more.
func hangs(words plain, at int) map[int]bool {
	found := map[int]bool{}
	if kindOf(words.Read(at)) == 2 {
		found[at] = true
	}
	for n := -1; n != len(found); {
		n = len(found)
		for from := range words {
			for i := 1; found[from] && i <= refsOf(words[from]); i++ {
				to := int(words.Read(from + i))
				if to != 0 && kindOf(words.Read(to)) == 2 {
					found[to] = true
				}
			}
		}
	}
	return found
}

// waits tells which object should be on a worklist that is not: one that is Global, was Local, and has a Local one among its references; or -1.
func waits(first, words plain, work []int) int {
	for at, w := range words {
		if kindOf(first[at]) != 2 || kindOf(w) != 3 || slices.Contains(work, at) {
			continue
		}
		for i := 1; i <= refsOf(w); i++ {
			if to := int(words.Read(at + i)); to != 0 && kindOf(words.Read(to)) == 2 {
				return at
			}
		}
	}
	return -1
}

// play publishes on words, and holds each touch, the worklist ahead of it, and all words behind, against the model. It answers the words that are left.
func play(t *testing.T, words plain, at int, colour uint8, work ...int) plain {
	t.Helper()
	list := slices.Clone(work)
	m, want := newTape(&list, words...), slices.Clone(words)
	Publish(m, at, colour, &list)
	if marks := newModel(at, colour, work...).all(want); !slices.Equal(m.marks, marks) {
		t.Fatalf("Publish at %d in %d of %v touched %s; want %s", at, colour, words, texts(m.marks), texts(marks))
	}
	if !slices.Equal(m.words, want) || len(list) != 0 {
		t.Fatalf("Publish at %d in %d of %v left %v, the worklist %v; want %v", at, colour, words, m.words, list, want)
	}
	return m.words
}

// follows publishes on words on which references are places of headers, and holds all that follows of it: what is on the worklist behind each touch, and what is left.
func follows(t *testing.T, words plain, at int, colour uint8) {
	t.Helper()
	var work []int
	m := newTape(&work, words...)
	m.behind = func() {
		if x := waits(words, m.words, work); x >= 0 {
			t.Fatalf("Publish at %d in %d of %v: behind %s the object at %d waits nowhere", at, colour, words, texts(m.marks), x)
		}
	}
	Publish(m, at, colour, &work)
	want := slices.Clone(words)
	for x := range hangs(words, at) {
		want[x] = published(want[x], colour)
	}
	if !slices.Equal(m.words, want) || len(work) != 0 {
		t.Fatalf("Publish at %d in %d of %v left %v, the worklist %v; want %v", at, colour, words, m.words, work, want)
	}
}

// some answers what tells any numbers, the same ones each time.
func some(seed uint64) func(below int) int {
	next := seed
	return func(below int) int {
		next = next*6364136223846793005 + 1442695040888963407
		return int(next >> 33 % uint64(below))
	}
}
