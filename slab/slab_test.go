package slab

import (
	"bytes"
	"encoding/binary"
	"math"
	"slices"
	"testing"

	"tumbrel/api"
	"tumbrel/arena"
	"tumbrel/link"
)

const (
	least    = math.MinInt64
	greatest = math.MaxInt64
	pages    = 3 // of the arenas of most tests
)

var code = link.New(11)

// filled is an arena of so many pages, of which hardly two neighbouring bytes are alike, and none is 0 or DD.
func filled(pages int) *arena.Arena {
	a := arena.New(pages)
	b := make([]byte, a.Len())
	for i := range b {
		b[i] = byte(1 + (i*7+i/256*3)%200)
	}
	a.Store(0, b)
	return a
}

// all is all bytes of an arena.
func all(a *arena.Arena) []byte {
	b, _ := a.Load(0, a.Len())
	return b
}

// want is what a slab has to be, byte by byte.
type want struct {
	page, class, owner, size int
	states                   []int
	free                     []int // the first one last
	bytes                    []byte
}

// word lays the eight bytes of a number.
func (w *want) word(at int, v uint64) { binary.LittleEndian.PutUint64(w.bytes[at:], v) }

func (w *want) base(k int) int { return w.page*256 + k*w.size }

func (w *want) slot(k int) []byte { return w.bytes[w.base(k):w.base(k+1)] }

func (w *want) link(k int) {
	next := -1
	if n := len(w.free); n > 0 {
		next = w.base(w.free[n-1])
	}
	w.word(w.base(k), code.Put(w.base(k), next))
	w.free = append(w.free, k)
	w.states[k] = Free
}

func (w *want) take() (int, api.Errno) {
	n := len(w.free)
	if n == 0 {
		return 0, api.ErrFull
	}
	k := w.free[n-1]
	w.free = w.free[:n-1]
	w.states[k] = Live
	clear(w.slot(k))
	w.word(w.base(k+1)-8, code.Canary(w.base(k)))
	return k, api.OK
}

// wrong is the error of a slot that has to be in a state.
func (w *want) wrong(k, state int) api.Errno {
	if k < 0 || k >= len(w.states) {
		return api.ErrRange
	}
	if w.states[k] != state {
		return api.ErrState
	}
	return api.OK
}

func (w *want) drop(k int) api.Errno {
	e := w.wrong(k, Live)
	if e == api.OK {
		w.states[k] = Held
		copy(w.slot(k), bytes.Repeat([]byte{0xDD}, w.size))
	}
	return e
}

func (w *want) give(k int) api.Errno {
	e := w.wrong(k, Held)
	if e == api.OK {
		w.link(k)
	}
	return e
}

// made is a slab in an arena of bytes of all kinds, and what it has to be.
func made(t *testing.T, page, class, owner int) (*arena.Arena, *Slab, *want) {
	t.Helper()
	return madeIn(t, filled(pages), page, class, owner)
}

func madeIn(t *testing.T, a *arena.Arena, page, class, owner int) (*arena.Arena, *Slab, *want) {
	t.Helper()
	size := 16 << class
	w := &want{page: page, class: class, owner: owner, size: size, states: make([]int, 256/size), bytes: all(a)}
	for k := 256/size - 1; k >= 0; k-- {
		w.link(k)
	}
	s, e := Make(a, code, page, class, owner)
	if s == nil || e != api.OK {
		t.Fatalf("Make(%d, %d, %d) is %v, %d", page, class, owner, s, e)
	}
	return a, s, w
}

// against holds a slab that has to be whole, and its arena, against what they have to be.
func against(t *testing.T, a *arena.Arena, s *Slab, w *want) {
	t.Helper()
	standsAs(t, a, s, w)
	if e := s.Check(); e != api.OK {
		t.Fatal("Check is", e)
	}
}

// standsAs is against without Check.
func standsAs(t *testing.T, a *arena.Arena, s *Slab, w *want) {
	t.Helper()
	if s.Page() != w.page || s.Class() != w.class || s.Owner() != w.owner {
		t.Fatalf("page, class and owner are %d, %d, %d, not %d, %d, %d", s.Page(), s.Class(), s.Owner(), w.page, w.class, w.owner)
	}
	counts := map[int]int{}
	for k, state := range w.states {
		counts[state]++
		if s.State(k) != state {
			t.Fatalf("State(%d) is %d, not %d", k, s.State(k), state)
		}
	}
	for _, state := range []int{Free, Live, Held, None, 3, -2, least, greatest} {
		if s.Count(state) != counts[state] {
			t.Fatalf("Count(%d) is %d, not %d", state, s.Count(state), counts[state])
		}
	}
	for _, k := range noSlots(w) {
		if s.State(k) != None {
			t.Fatalf("State(%d) is %d", k, s.State(k))
		}
	}
	for i, b := range all(a) {
		if b != w.bytes[i] {
			t.Fatalf("byte %d is %02x, not %02x", i, b, w.bytes[i])
		}
	}
}

// noSlots: numbers of slots that there are not.
func noSlots(w *want) []int {
	n := len(w.states)
	return []int{least, least + 1, -1 << 32, -256, -n, -1, n, n + 1, 64, 256, 1 << 16, 1 << 32, 1 << 60, greatest - 1, greatest}
}

// take takes a slot that has to be there.
func take(t *testing.T, s *Slab, w *want) int {
	t.Helper()
	k, e := s.Take()
	if wk, we := w.take(); k != wk || e != we {
		t.Fatalf("Take is %d, %d, not %d, %d", k, e, wk, we)
	}
	return k
}

// drop drops a slot whose canary stands, if it is live.
func drop(t *testing.T, s *Slab, w *want, k int) {
	t.Helper()
	stood, e := s.Drop(k)
	if we := w.drop(k); e != we || stood != (we == api.OK) {
		t.Fatalf("Drop(%d) is %v, %d, not %d", k, stood, e, we)
	}
}

// give gives a slot, if it is held.
func give(t *testing.T, s *Slab, w *want, k int) {
	t.Helper()
	e := s.Give(k)
	if we := w.give(k); e != we {
		t.Fatalf("Give(%d) is %d, not %d", k, e, we)
	}
}

// poke writes a word past the slab, as who has no key may.
func poke(t *testing.T, a *arena.Arena, w *want, at int, v uint64) {
	t.Helper()
	if e := a.SetWord(at, v); e != api.OK {
		t.Fatalf("SetWord(%d) is %d", at, e)
	}
	w.word(at, v)
}

// pokeByte changes one byte past the slab.
func pokeByte(a *arena.Arena, w *want, at int, by byte) {
	w.bytes[at] ^= by
	a.Store(at, w.bytes[at:at+1])
}

// checkIs holds Check against an error.
func checkIs(t *testing.T, s *Slab, want api.Errno) {
	t.Helper()
	if e := s.Check(); e != want {
		t.Fatalf("Check is %d, not %d", e, want)
	}
}

func TestNumbersOfStates(t *testing.T) {
	if None != -1 || Free != 0 || Live != 1 || Held != 2 || Gone != 0xDD {
		t.Error("the constants are", None, Free, Live, Held, Gone)
	}
}

func TestNilSlab(t *testing.T) {
	var s *Slab
	if k, e := s.Take(); k != 0 || e != api.ErrNil {
		t.Error("Take is", k, e)
	}
	if s.Check() != api.ErrNil || s.Page() != 0 || s.Class() != 0 || s.Owner() != 0 {
		t.Error("Check, Page, Class, Owner are", s.Check(), s.Page(), s.Class(), s.Owner())
	}
	for _, k := range []int{least, -2, -1, 0, 1, 2, 15, 16, greatest} {
		if stood, e := s.Drop(k); stood || e != api.ErrNil {
			t.Errorf("Drop(%d) is %v, %d", k, stood, e)
		}
		if e := s.Give(k); e != api.ErrNil {
			t.Errorf("Give(%d) is %d", k, e)
		}
		if s.State(k) != None || s.Count(k) != 0 {
			t.Errorf("State(%d), Count(%d) are %d, %d", k, k, s.State(k), s.Count(k))
		}
	}
}

// P1: a slab that nobody made has no slots.
func TestSlabThatNobodyMade(t *testing.T) {
	s := &Slab{}
	if k, e := s.Take(); k != 0 || e != api.ErrFull {
		t.Error("Take is", k, e)
	}
	if stood, e := s.Drop(0); stood || e != api.ErrRange {
		t.Error("Drop is", stood, e)
	}
	if s.Give(0) != api.ErrRange || s.State(0) != None || s.Count(Free) != 0 || s.Check() != api.OK {
		t.Error("Give, State, Count, Check are", s.Give(0), s.State(0), s.Count(Free), s.Check())
	}
}

// P7.1: of each class, in each page of an arena, whatever the owner is.
func TestMakeLinksAllSlots(t *testing.T) {
	for class := range 4 {
		for page := range pages {
			for _, owner := range []int{0, 1, 63, 64, -1, least, greatest} {
				a, s, w := made(t, page, class, owner)
				against(t, a, s, w)
			}
		}
	}
}

// P7.1: what links are, and that all else stays, written out.
func TestMakeWritesLinksAlone(t *testing.T) {
	a := filled(2)
	was := all(a)
	if _, e := Make(a, code, 1, 2, 5); e != api.OK {
		t.Fatal("Make is", e)
	}
	for _, x := range []struct{ at, next int }{{256, 320}, {320, 384}, {384, 448}, {448, -1}} {
		if v, _ := a.Word(x.at); v != code.Put(x.at, x.next) {
			t.Errorf("the link at %d is %x", x.at, v)
		}
		a.Store(x.at, was[x.at:x.at+8])
	}
	if !bytes.Equal(all(a), was) {
		t.Error("more was written than links")
	}
}

// P7.1: the first and the last page of arenas of all sizes.
func TestMakeInTheLastPage(t *testing.T) {
	for _, n := range []int{1, 2, 255, 256} {
		for _, page := range []int{0, n - 1} {
			for class := range 4 {
				a, s, w := madeIn(t, filled(n), page, class, 0)
				for range w.states {
					take(t, s, w)
				}
				against(t, a, s, w)
			}
		}
	}
}

// P7.1: classes and pages that there are not, and a nil arena, whatever else is wrong.
func TestMakeOfWhatMayNotBe(t *testing.T) {
	classes := []int{least, -256, -4, -1, 0, 1, 2, 3, 4, 5, 64, 256, 1 << 32, 1<<32 + 1, greatest}
	places := []int{least, least + 1, -1 << 56, -257, -256, -3, -2, -1, 0, 1, 2, 3, 4, 255, 256, 257, 1 << 32, 1 << 55, 1 << 56, 1<<56 + 1, greatest / 256, greatest - 1, greatest}
	for _, class := range classes {
		for _, page := range places {
			if s, e := Make(nil, code, page, class, 0); s != nil || e != api.ErrNil {
				t.Errorf("Make(nil, %d, %d) is %v, %d", page, class, s, e)
			}
			for _, n := range []int{0, 1, 3} {
				if class >= 0 && class <= 3 && page >= 0 && page < n {
					continue
				}
				a := filled(n)
				if s, e := Make(a, code, page, class, 0); s != nil || e != api.ErrArg {
					t.Errorf("Make(%d, %d) in %d pages is %v, %d", page, class, n, s, e)
				}
				if !bytes.Equal(all(a), all(filled(n))) {
					t.Errorf("Make(%d, %d) in %d pages, refused, writes", page, class, n)
				}
			}
		}
	}
	if s, e := Make(&arena.Arena{}, code, 0, 0, 0); s != nil || e != api.ErrArg {
		t.Error("Make in an arena that nobody made is", s, e)
	}
}

// P7.2: from slot 0 on to the last one; then, and then again, ErrFull.
func TestTakeAllSlots(t *testing.T) {
	for class := range 4 {
		a, s, w := made(t, 1, class, 7)
		for k := range w.states {
			if got := take(t, s, w); got != k {
				t.Fatalf("the slots begin at %d, not %d", got, k)
			}
			against(t, a, s, w)
		}
		for range 3 {
			if k, e := s.Take(); k != 0 || e != api.ErrFull {
				t.Fatal("Take of a full page is", k, e)
			}
			against(t, a, s, w)
		}
	}
}

// P7.2: what a block is when it is taken, written out.
func TestTakeClearsTheBlockAndSetsItsCanary(t *testing.T) {
	a := filled(2)
	s, _ := Make(a, code, 1, 1, 0)
	s.Take()
	if k, e := s.Take(); k != 1 || e != api.OK {
		t.Fatal("Take is", k, e)
	}
	b, _ := a.Load(288, 32)
	if !bytes.Equal(b[:24], make([]byte, 24)) {
		t.Errorf("the block is % x", b[:24])
	}
	if binary.LittleEndian.Uint64(b[24:]) != code.Canary(288) {
		t.Errorf("the canary is % x, of %x", b[24:], code.Canary(288))
	}
}

// P7.2: whatever was written into a block, when it is taken anew its bytes are 0.
func TestTakeAnewClearsTheBlock(t *testing.T) {
	for class := range 4 {
		a, s, w := made(t, 2, class, 0)
		k := take(t, s, w)
		a.Fill(w.base(k), w.size-8, 0xAB)
		drop(t, s, w, k)
		give(t, s, w, k)
		if got := take(t, s, w); got != k {
			t.Fatalf("slot %d is taken, not %d", got, k)
		}
		against(t, a, s, w)
	}
}

// P7.2: Drop and Give of slots that there are not, and of slots in each other state, once and twice.
func TestDropAndGiveOfTheWrongSlot(t *testing.T) {
	for class := range 4 {
		a, s, w := made(t, 1, class, 0)
		for _, k := range noSlots(w) {
			drop(t, s, w, k)
			give(t, s, w, k)
			against(t, a, s, w)
		}
		for k := range w.states { // a free one
			drop(t, s, w, k)
			give(t, s, w, k)
			against(t, a, s, w)
		}
		for k := range w.states {
			take(t, s, w)
			give(t, s, w, k) // a live one
			against(t, a, s, w)
			drop(t, s, w, k)
			against(t, a, s, w)
			drop(t, s, w, k) // a held one
			against(t, a, s, w)
		}
		if k, e := s.Take(); k != 0 || e != api.ErrFull { // held ones are not to be taken
			t.Fatal("Take beside held slots is", k, e)
		}
		for k := range w.states {
			give(t, s, w, k)
			against(t, a, s, w)
			give(t, s, w, k) // twice
			drop(t, s, w, k)
			against(t, a, s, w)
		}
	}
}

// call does the call of that number: Take, then Drop of each slot and of one that there is not, then Give likewise.
func call(t *testing.T, s *Slab, w *want, x int) {
	t.Helper()
	n := len(w.states) + 1
	switch {
	case x == 0:
		take(t, s, w)
	case x <= n:
		drop(t, s, w, x-1)
	default:
		give(t, s, w, x-1-n)
	}
}

// run does the calls whose numbers, to that base, x is made of, on a new slab.
func run(t *testing.T, class, base, x, calls int) {
	t.Helper()
	a, s, w := madeIn(t, filled(1), 0, class, 0)
	for range calls {
		call(t, s, w, x%base)
		x /= base
	}
	against(t, a, s, w)
}

// P7.1, P7.2, P7.4: all sequences of so many calls.
func TestAllSequencesOfCalls(t *testing.T) {
	for _, x := range []struct{ class, calls int }{{3, 5}, {2, 4}, {1, 3}} {
		base := 3 + 2*(256>>4>>x.class)
		n := 1
		for range x.calls {
			n *= base
		}
		for i := range n {
			run(t, x.class, base, i, x.calls)
		}
	}
}

// P7.1, P7.2, P7.4: long sequences in pages of each class; between them, bytes are written into live blocks.
func TestLongSequencesOfCalls(t *testing.T) {
	for class := range 4 {
		for seed := range uint64(20) {
			a, s, w := made(t, 1, class, 3)
			base := 3 + 2*len(w.states)
			for i := range 300 {
				x := link.New(seed<<32 + uint64(i)).Key
				if x>>60 < 5 {
					call(t, s, w, 0)
				} else {
					call(t, s, w, int(x%uint64(base)))
				}
				if k := int(x >> 20 % uint64(len(w.states))); w.states[k] == Live {
					b := bytes.Repeat([]byte{byte(x >> 30)}, w.size-8)
					a.Store(w.base(k), b)
					copy(w.slot(k), b)
				}
				against(t, a, s, w)
			}
		}
	}
}

// P7.4: a slot that was given is the next one that is taken, in whatever order slots are given.
func TestTheLastGivenIsTheNextTaken(t *testing.T) {
	for class := range 4 {
		for turn := range 7 {
			a, s, w := made(t, 0, class, 0)
			n := len(w.states)
			for range n {
				take(t, s, w)
			}
			var order []int
			for i := range n {
				order = append(order, (i*5+turn)%n^turn%2)
			}
			for _, k := range order {
				drop(t, s, w, k)
			}
			for _, k := range order {
				give(t, s, w, k)
				if got := take(t, s, w); got != k {
					t.Fatalf("slot %d was given, %d is taken", k, got)
				}
				drop(t, s, w, k)
				give(t, s, w, k)
			}
			slices.Reverse(order)
			for _, k := range order {
				if got := take(t, s, w); got != k {
					t.Fatalf("slot %d was given last, %d is taken", k, got)
				}
			}
			against(t, a, s, w)
		}
	}
}

// P7.5: each live block has bytes of its own, to its last one.
func TestLiveSlotsHaveNoByteInCommon(t *testing.T) {
	for class := range 4 {
		a, s, w := made(t, 1, class, 0)
		live := map[int]int{}
		for range 3 * len(w.states) {
			k, e := s.Take()
			w.take()
			if e == api.ErrFull {
				drop(t, s, w, len(live)/2)
				give(t, s, w, len(live)/2)
				delete(live, len(live)/2)
				continue
			}
			if live[k]++; live[k] > 1 {
				t.Fatalf("slot %d is taken, and was live", k)
			}
			a.Fill(w.base(k), w.size-8, byte(k+1))
			copy(w.slot(k), bytes.Repeat([]byte{byte(k + 1)}, w.size-8))
			against(t, a, s, w)
		}
	}
}

// Two pages of slots in one arena, of unlike classes, don't touch one another.
func TestTwoSlabsInOneArena(t *testing.T) {
	a, s, w := made(t, 1, 1, 4)
	_, other, ow := madeIn(t, a, 2, 0, 5)
	copy(w.bytes[512:], ow.bytes[512:])
	for i := range 20 {
		take(t, s, w)
		drop(t, s, w, i%8)
		give(t, s, w, i%3)
		standsAs(t, a, s, w)
		copy(ow.bytes, w.bytes)
		take(t, other, ow)
		drop(t, other, ow, i%16)
		give(t, other, ow, i%5)
		against(t, a, other, ow)
		copy(w.bytes, ow.bytes)
		against(t, a, s, w)
	}
}

// noLinks: numbers of which none is a link of that place to another free slot, or to none. Slot 0 of that page is live, 1 held, 2 the first free one.
func noLinks(w *want) []uint64 {
	at := w.base(2)
	l := []uint64{
		0, 1, math.MaxUint64, 0xDDDDDDDDDDDDDDDD, uint64(w.base(3)), uint64(w.base(3)) + 1, code.Canary(at), code.Key,
		code.Put(w.base(3), w.base(4)), code.Put(w.base(1), w.base(3)), code.Put(at+8, w.base(3)), code.Put(at+256, w.base(3)), // of other places
		link.New(12).Put(at, w.base(3)), link.New(12).Put(at, -1),
		code.Put(at, w.base(3)) ^ 1<<63, code.Put(at, w.base(3)) ^ 1<<48, code.Put(at, w.base(3)) ^ 1<<40, code.Put(at, w.base(3)) ^ 1<<31,
	}
	for _, to := range []int{
		w.base(0), w.base(1), at, // to a live one, to a held one, to itself
		w.base(3) - 256, w.base(3) + 256, 0, 3, 4, w.page*256 - 1, w.page*256 + 256, w.page*256 + 512, // to other pages, and behind the arena
		65519, 65520, 65535, 65536, 65536 + w.base(3), 1 << 24, 1 << 30, 1<<31 - 16, 1<<31 - 1,
	} {
		l = append(l, code.Put(at, to))
	}
	for i := 1; i < w.size; i++ {
		l = append(l, code.Put(at, w.base(3)+i), code.Put(at, at+i)) // into a slot's midst
	}
	return l
}

// threeStates is a page of which slot 0 is live, 1 held, 2 the first free one.
func threeStates(t *testing.T, class int) (*arena.Arena, *Slab, *want) {
	t.Helper()
	a, s, w := made(t, 1, class, 0)
	take(t, s, w)
	take(t, s, w)
	drop(t, s, w, 1)
	return a, s, w
}

// P7.2, P7.3: the first free slot's link was written over: Take does nothing, the others go on.
func TestTakeOfALinkThatIsNone(t *testing.T) {
	for class := range 2 { // pages of the others have no five slots
		a, s, w := threeStates(t, class)
		at := w.base(2)
		right := code.Put(at, w.base(3))
		for _, v := range noLinks(w) {
			poke(t, a, w, at, v)
			for range 2 {
				if k, e := s.Take(); k != 0 || e != api.ErrForm {
					t.Fatalf("Take with a link %x is %d, %d", v, k, e)
				}
				standsAs(t, a, s, w)
			}
			checkIs(t, s, api.ErrForm)
		}
		poke(t, a, w, at, right)
		against(t, a, s, w)
		if k := take(t, s, w); k != 2 {
			t.Fatal("Take is", k)
		}
		against(t, a, s, w)
	}
}

// P7.2, P7.3: another free slot's link was written over: Take goes on till it is the first one.
func TestTakeOfALaterLinkThatIsNone(t *testing.T) {
	a, s, w := made(t, 1, 1, 0)
	poke(t, a, w, w.base(2), 0)
	checkIs(t, s, api.ErrForm)
	take(t, s, w)
	take(t, s, w)
	standsAs(t, a, s, w)
	if k, e := s.Take(); k != 0 || e != api.ErrForm {
		t.Fatal("Take is", k, e)
	}
	standsAs(t, a, s, w)
	drop(t, s, w, 0)
	give(t, s, w, 0)
	take(t, s, w) // slot 0 stands ahead of it
	standsAs(t, a, s, w)
	if k, e := s.Take(); k != 0 || e != api.ErrForm {
		t.Fatal("Take is", k, e)
	}
	checkIs(t, s, api.ErrForm)
}

// P7.2: a link leads to a slot that was free, and is live or held when the link is followed.
func TestLinkToASlotThatWasFree(t *testing.T) {
	for _, dropped := range []bool{false, true} {
		a, s, w := made(t, 1, 2, 0)
		poke(t, a, w, w.base(1), code.Put(w.base(1), w.base(0))) // 0 and 1 lead round
		checkIs(t, s, api.ErrForm)
		take(t, s, w)
		if dropped {
			drop(t, s, w, 0)
		}
		if k, e := s.Take(); k != 0 || e != api.ErrForm {
			t.Fatal("Take is", k, e)
		}
		standsAs(t, a, s, w)
		checkIs(t, s, api.ErrForm)
	}
}

// P7.2, P7.3: a link to none ahead of its time: the slot is taken, then there is no first free one any more.
func TestLinkToNoneAheadOfItsTime(t *testing.T) {
	for class := range 4 {
		a, s, w := made(t, 1, class, 0)
		poke(t, a, w, w.base(0), code.Put(w.base(0), -1))
		checkIs(t, s, api.ErrForm)
		take(t, s, w)
		standsAs(t, a, s, w) // the others are free, but not linked
		for range 2 {
			if k, e := s.Take(); k != 0 || e != api.ErrFull {
				t.Fatal("Take is", k, e)
			}
			standsAs(t, a, s, w)
			checkIs(t, s, api.ErrForm)
		}
		w.free = nil // given, it is linked to none
		drop(t, s, w, 0)
		give(t, s, w, 0)
		standsAs(t, a, s, w)
		checkIs(t, s, api.ErrForm)
		take(t, s, w)
		if k, e := s.Take(); k != 0 || e != api.ErrFull {
			t.Fatal("Take is", k, e)
		}
		standsAs(t, a, s, w)
	}
}

// P7.2, P7.3: a link that leads over some free slots, or back, is followed, since it leads to a free one.
func TestLinkToAnotherFreeSlot(t *testing.T) {
	for to := 1; to < 16; to++ {
		a, s, w := made(t, 1, 0, 0)
		poke(t, a, w, w.base(0), code.Put(w.base(0), w.base(to)))
		want := api.ErrForm
		if to == 1 {
			want = api.OK
		}
		checkIs(t, s, want)
		take(t, s, w)
		checkIs(t, s, want)
		w.free = w.free[:16-to]
		for k := to; k < 16; k++ {
			if got := take(t, s, w); got != k {
				t.Fatalf("Take is %d, not %d", got, k)
			}
			standsAs(t, a, s, w)
			checkIs(t, s, want)
		}
		take(t, s, w) // there is none any more
	}
}

// P7.3: links that lead round, from each slot back to each one ahead of it, and Check ends.
func TestLinksThatLeadRound(t *testing.T) {
	for class := range 4 {
		a, s, w := made(t, 1, class, 0)
		n := len(w.states)
		for k := range n {
			right := code.Put(w.base(k), -1)
			if k < n-1 {
				right = code.Put(w.base(k), w.base(k+1))
			}
			for to := range k + 1 {
				poke(t, a, w, w.base(k), code.Put(w.base(k), w.base(to)))
				checkIs(t, s, api.ErrForm)
				standsAs(t, a, s, w)
			}
			poke(t, a, w, w.base(k), right)
			against(t, a, s, w)
		}
	}
}

// P7.3: the last free slot's link leads to none, and to nothing else.
func TestTheLastLink(t *testing.T) {
	a, s, w := threeStates(t, 1)
	at := w.base(7)
	for _, v := range []uint64{0, 1, math.MaxUint64, code.Put(at, w.base(0)), code.Put(at, w.base(1)), code.Put(at, at), code.Put(at, at+32), code.Put(at, 65536)} {
		poke(t, a, w, at, v)
		checkIs(t, s, api.ErrForm)
	}
	for range 5 {
		take(t, s, w)
	}
	if k, e := s.Take(); k != 0 || e != api.ErrForm {
		t.Error("Take of the last one is", k, e)
	}
	poke(t, a, w, at, code.Put(at, -1))
	against(t, a, s, w)
	if k := take(t, s, w); k != 7 {
		t.Error("Take of the last one is", k)
	}
	against(t, a, s, w)
}

// P7.3: what stands in a free slot behind its link is nobody's.
func TestOtherBytesOfFreeSlots(t *testing.T) {
	for class := range 4 {
		a, s, w := made(t, 1, class, 0)
		for k := range w.states {
			for i := 8; i < w.size; i++ {
				pokeByte(a, w, w.base(k)+i, 0xFF)
				against(t, a, s, w)
			}
		}
		for range w.states {
			take(t, s, w)
			against(t, a, s, w)
		}
	}
}

// P7.2, P7.3: each bit of a canary.
func TestCanaryThatWasWrittenOver(t *testing.T) {
	for class := range 4 {
		for bit := range 64 {
			a, s, w := made(t, 1, class, 0)
			take(t, s, w)
			take(t, s, w)
			for k := range 2 {
				pokeByte(a, w, w.base(k+1)-8+bit/8, 1<<(bit%8))
				checkIs(t, s, api.ErrForm)
				pokeByte(a, w, w.base(k+1)-8+bit/8, 1<<(bit%8))
				checkIs(t, s, api.OK)
			}
			pokeByte(a, w, w.base(1)-8+bit/8, 1<<(bit%8))
			standsAs(t, a, s, w)
			stood, e := s.Drop(0)
			w.drop(0)
			if stood || e != api.OK {
				t.Fatal("Drop is", stood, e)
			}
			against(t, a, s, w) // it is held all the same, and whole
			drop(t, s, w, 1)    // the other one's stood
			against(t, a, s, w)
			give(t, s, w, 0)
			if k := take(t, s, w); k != 0 {
				t.Fatal("Take is", k)
			}
			against(t, a, s, w)
		}
	}
}

// P7.2: canaries are those of their own place.
func TestCanaryOfAnotherPlace(t *testing.T) {
	a, s, w := made(t, 1, 1, 0)
	take(t, s, w)
	for _, v := range []uint64{0, code.Canary(w.base(1)), code.Canary(0), code.Canary(w.base(1) - 8), link.New(12).Canary(w.base(0)), 0xDDDDDDDDDDDDDDDD, code.Put(w.base(0), -1)} {
		poke(t, a, w, w.base(1)-8, v)
		checkIs(t, s, api.ErrForm)
	}
	if stood, e := s.Drop(0); stood || e != api.OK {
		t.Error("Drop is", stood, e)
	}
}

// P7.3, P7.4: what is written into the bytes of a live block breaks nothing.
func TestBytesOfLiveBlocks(t *testing.T) {
	for class := range 4 {
		a, s, w := made(t, 1, class, 0)
		for k := range w.states {
			take(t, s, w)
			for i := range w.size - 8 {
				pokeByte(a, w, w.base(k)+i, byte(i+1))
				against(t, a, s, w)
			}
		}
		for k := range w.states {
			drop(t, s, w, k)
			against(t, a, s, w)
		}
	}
}

// P7.3: each byte of a held slot.
func TestHeldByteThatWasChanged(t *testing.T) {
	for class := range 4 {
		a, s, w := made(t, 1, class, 0)
		for range w.states {
			take(t, s, w)
		}
		for k := range w.states {
			drop(t, s, w, k)
			for i := range w.size {
				for _, by := range []byte{1, 0x80, 0xDD, 0xFF} {
					pokeByte(a, w, w.base(k)+i, by)
					checkIs(t, s, api.ErrForm)
					standsAs(t, a, s, w)
					pokeByte(a, w, w.base(k)+i, by)
					checkIs(t, s, api.OK)
				}
			}
		}
		pokeByte(a, w, w.base(1)-1, 1)
		checkIs(t, s, api.ErrForm)
		give(t, s, w, 0) // Give asks for no bytes
		against(t, a, s, w)
	}
}

// P7.3: one slot that is not whole is enough, whichever one, in a page of all states.
func TestCheckOfEachSlot(t *testing.T) {
	a, s, w := made(t, 1, 0, 0)
	for range 12 {
		take(t, s, w)
	}
	for _, k := range []int{1, 4, 5, 9, 11} {
		drop(t, s, w, k)
	}
	give(t, s, w, 5)
	give(t, s, w, 11)
	against(t, a, s, w)
	for k, state := range w.states {
		at := w.base(k) // a link's, or a held byte
		if state == Live {
			at += 15
		}
		pokeByte(a, w, at, 0x40)
		checkIs(t, s, api.ErrForm)
		standsAs(t, a, s, w)
		pokeByte(a, w, at, 0x40)
		against(t, a, s, w)
	}
}

// P7.2: the seed's key is the slab's own; of another key nothing is whole.
func TestKeyOfTheSlab(t *testing.T) {
	a := filled(1)
	s, _ := Make(a, link.New(1), 0, 3, 0)
	s.Take()
	v, _ := a.Word(128)
	if v != link.New(1).Put(128, -1) {
		t.Errorf("the link is %x", v)
	}
	if v, _ = a.Word(120); v != link.New(1).Canary(0) {
		t.Errorf("the canary is %x", v)
	}
	zero := filled(1)
	z, e := Make(zero, link.Code{}, 0, 3, 0)
	if k, te := z.Take(); e != api.OK || k != 0 || te != api.OK || z.Check() != api.OK {
		t.Error("without a key Make, Take, Check are", e, k, te, z.Check())
	}
	if v, _ := zero.Word(120); v != 0 { // the mix of 0
		t.Errorf("the canary of no key is %x", v)
	}
}

func TestTheChaptersExample(t *testing.T) {
	s, e := Make(arena.New(1), link.New(0), 0, 3, 0)
	if e != api.OK {
		t.Fatal("Make is", e)
	}
	for i, want := range []api.Errno{api.OK, api.OK, api.ErrFull} {
		if k, e := s.Take(); e != want || e == api.OK && k != i {
			t.Error("Take is", k, e)
		}
	}
	if stood, e := s.Drop(0); !stood || e != api.OK {
		t.Error("Drop(0) is", stood, e)
	}
	if e := s.Give(0); e != api.OK {
		t.Error("Give(0) is", e)
	}
	if k, e := s.Take(); k != 0 || e != api.OK {
		t.Error("Take is", k, e)
	}
}
