package large

import (
	"bytes"
	"encoding/binary"
	"math"
	"slices"
	"testing"

	"tumbrel/api"
	"tumbrel/arena"
	"tumbrel/link"
)

const (
	least    = math.MinInt64
	greatest = math.MaxInt64
)

var code = link.New(5)

// filled is an arena of so many pages, of which hardly two neighbouring bytes are alike, and none is 0 or DD.
func filled(pages int) *arena.Arena {
	a := arena.New(pages)
	b := make([]byte, a.Len())
	for i := range b {
		b[i] = byte(1 + (i*7+i/256*3)%200)
	}
	a.Store(0, b)
	return a
}

// all is all bytes of an arena.
func all(a *arena.Arena) []byte {
	b, _ := a.Load(0, a.Len())
	return b
}

// want is what a set has to be, page by page and byte by byte.
type want struct {
	sizes map[int]int
	taken []bool // of each page, whether it is a block's
	bytes []byte
}

// takes is how many pages n bytes and a canary fill, counted one by one; 0, if n is not great.
func takes(n int) int {
	if n < 121 || n > 4096 {
		return 0
	}
	p := 0
	for p*256 < n+8 {
		p++
	}
	return p
}

// word lays the eight bytes of a number.
func (w *want) word(at int, v uint64) { binary.LittleEndian.PutUint64(w.bytes[at:], v) }

// lay makes the pages a block's, or nobody's, and their bytes c.
func (w *want) lay(page, run int, taken bool, c byte) {
	for p := page; p < page+run; p++ {
		w.taken[p] = taken
	}
	copy(w.bytes[page*256:], bytes.Repeat([]byte{c}, run*256))
}

func (w *want) make(page, n int) api.Errno {
	run := takes(n)
	if run == 0 || page < 0 {
		return api.ErrArg
	}
	if page >= len(w.taken) || run > len(w.taken)-page {
		return api.ErrRange
	}
	if slices.Contains(w.taken[page:page+run], true) {
		return api.ErrThere
	}
	w.sizes[page] = n
	w.lay(page, run, true, 0)
	w.word((page+run)*256-8, code.Canary(page*256))
	return api.OK
}

func (w *want) drop(page int) api.Errno {
	n, ok := w.sizes[page]
	if !ok {
		return api.ErrNone
	}
	delete(w.sizes, page)
	w.lay(page, takes(n), false, 0xDD)
	return api.OK
}

// made is a set over an arena of bytes of all kinds, and what it has to be.
func made(pages int) (*arena.Arena, *Set, *want) {
	a := filled(pages)
	return a, New(a, code), &want{sizes: map[int]int{}, taken: make([]bool, pages), bytes: all(a)}
}

// ends: pages at, around and far beyond the ends of an arena, and such as go round with a block's pages or bytes.
func ends(pages int) []int {
	return []int{
		least, least + 1, least + 16, -1 << 56, -1 << 55, -pages, -17, -16, -2, -1, pages - 1, pages, pages + 1, 255, 256, 257, 1 << 24, 1 << 32, 1 << 48,
		1 << 55, 1<<55 + 1, 1 << 56, 1<<56 + 1, 1<<56 - 1, greatest / 256, greatest/256 + 1, greatest - 17, greatest - 16, greatest - 1, greatest,
	}
}

// against holds a set whose canaries stand, and its arena, against what they have to be.
func against(t *testing.T, a *arena.Arena, s *Set, w *want) {
	t.Helper()
	standsAs(t, a, s, w)
	if e := s.Check(); e != api.OK {
		t.Fatal("Check is", e)
	}
}

// standsAs is against without Check.
func standsAs(t *testing.T, a *arena.Arena, s *Set, w *want) {
	t.Helper()
	var firsts []int
	for p := range w.taken {
		if s.Size(p) != w.sizes[p] {
			t.Fatalf("Size(%d) is %d, not %d", p, s.Size(p), w.sizes[p])
		}
		if w.sizes[p] > 0 {
			firsts = append(firsts, p)
		}
	}
	for _, p := range ends(len(w.taken)) {
		if s.Size(p) != w.sizes[p] {
			t.Fatalf("Size(%d) is %d", p, s.Size(p))
		}
	}
	if l := s.All(); !slices.Equal(l, firsts) {
		t.Fatal("All is", l, "not", firsts)
	}
	for i, b := range all(a) {
		if b != w.bytes[i] {
			t.Fatalf("byte %d is %02x, not %02x", i, b, w.bytes[i])
		}
	}
}

// makes makes a block, or is refused, as has to be.
func makes(t *testing.T, s *Set, w *want, page, n int) {
	t.Helper()
	e := s.Make(page, n)
	if we := w.make(page, n); e != we {
		t.Fatalf("Make(%d, %d) is %d, not %d", page, n, e, we)
	}
}

// drop drops a block whose canary stands, if there is one.
func drop(t *testing.T, s *Set, w *want, page int) {
	t.Helper()
	stood, e := s.Drop(page)
	if we := w.drop(page); e != we || stood != (we == api.OK) {
		t.Fatalf("Drop(%d) is %v, %d, not %d", page, stood, e, we)
	}
}

// pokeByte changes one byte past the set.
func pokeByte(a *arena.Arena, w *want, at int, by byte) {
	w.bytes[at] ^= by
	a.Store(at, w.bytes[at:at+1])
}

// checkIs holds Check against an error.
func checkIs(t *testing.T, s *Set, want api.Errno) {
	t.Helper()
	if e := s.Check(); e != want {
		t.Fatalf("Check is %d, not %d", e, want)
	}
}

// A nil set, and one of a nil arena.
func TestNilSet(t *testing.T) {
	if New(nil, code) != nil {
		t.Error("New of a nil arena is", New(nil, code))
	}
	for _, s := range []*Set{nil, New(nil, link.Code{})} {
		for _, page := range append(ends(4), 0, 1, 2) {
			for _, n := range []int{least, -1, 0, 1, 120, 121, 4096, 4097, greatest} {
				if e := s.Make(page, n); e != api.ErrNil {
					t.Errorf("Make(%d, %d) is %d", page, n, e)
				}
			}
			if stood, e := s.Drop(page); stood || e != api.ErrNil {
				t.Errorf("Drop(%d) is %v, %d", page, stood, e)
			}
			if s.Size(page) != 0 {
				t.Errorf("Size(%d) is %d", page, s.Size(page))
			}
		}
		if len(s.All()) != 0 || s.Check() != api.ErrNil {
			t.Error("All, Check are", s.All(), s.Check())
		}
	}
}

// P8.1: a set without blocks; New writes nothing. P1: over no pages, and one that nobody made.
func TestSetWithoutBlocks(t *testing.T) {
	for _, pages := range []int{0, 1, 4, 256} {
		a, s, w := made(pages)
		against(t, a, s, w)
		for _, p := range append(ends(pages), 0) {
			drop(t, s, w, p)
		}
		against(t, a, s, w)
	}
	for _, s := range []*Set{{}, New(&arena.Arena{}, code), New(arena.New(0), code)} {
		if e := s.Make(0, 121); e != api.ErrRange {
			t.Error("Make is", e)
		}
		if e := s.Make(0, 120); e != api.ErrArg {
			t.Error("Make of what is not great is", e)
		}
		if stood, e := s.Drop(0); stood || e != api.ErrNone {
			t.Error("Drop is", stood, e)
		}
		if s.Size(0) != 0 || len(s.All()) != 0 || s.Check() != api.OK {
			t.Error("Size, All, Check are", s.Size(0), s.All(), s.Check())
		}
	}
}

// P8.1, P8.2: of each size, at the arena's beginning, in its midst and up to its end.
func TestMakeAndDropOfEachSize(t *testing.T) {
	a, s, w := made(20)
	for n := 121; n <= 4096; n++ {
		for _, page := range []int{0, 2, 20 - takes(n)} {
			makes(t, s, w, page, n)
			if s.Size(page) != n {
				t.Fatalf("Size(%d) is %d, not %d", page, s.Size(page), n)
			}
			if n%15 < 2 || n%256 > 245 {
				against(t, a, s, w)
			}
			drop(t, s, w, page)
		}
		if n%15 < 2 || n%256 > 245 {
			against(t, a, s, w)
		}
	}
	against(t, a, s, w)
}

// P8.1: what a block is when it is made and when it is dropped, written out.
func TestBytesOfABlock(t *testing.T) {
	for _, x := range []struct{ n, pages int }{{121, 1}, {248, 1}, {249, 2}, {504, 2}, {505, 3}, {4088, 16}, {4089, 17}, {4096, 17}} {
		a := filled(19)
		was := all(a)
		s := New(a, code)
		if e := s.Make(1, x.n); e != api.OK {
			t.Fatal("Make is", e)
		}
		end := 256 + 256*x.pages
		b := all(a)
		if !bytes.Equal(b[256:end-8], make([]byte, end-8-256)) || binary.LittleEndian.Uint64(b[end-8:]) != code.Canary(256) {
			t.Errorf("the block of %d bytes is % x", x.n, b[256:end])
		}
		if !bytes.Equal(b[:256], was[:256]) || !bytes.Equal(b[end:], was[end:]) {
			t.Errorf("Make of %d bytes writes into other pages", x.n)
		}
		if stood, e := s.Drop(1); !stood || e != api.OK {
			t.Errorf("Drop of %d bytes is %v, %d", x.n, stood, e)
		}
		b = all(a)
		if !bytes.Equal(b[256:end], bytes.Repeat([]byte{0xDD}, 256*x.pages)) {
			t.Errorf("the dropped block of %d bytes is % x", x.n, b[256:end])
		}
		if !bytes.Equal(b[:256], was[:256]) || !bytes.Equal(b[end:], was[end:]) {
			t.Errorf("Drop of %d bytes writes into other pages", x.n)
		}
	}
}

// P8.1: sizes that are not great, also where the page may not be, or is a block's.
func TestMakeOfASizeThatIsNotGreat(t *testing.T) {
	a, s, w := made(4)
	makes(t, s, w, 1, 300)
	for _, n := range []int{least, least + 1, -4096, -256, -121, -1, 0, 1, 8, 16, 119, 120, 4097, 4098, 1 << 16, 1<<32 + 300, greatest - 255, greatest - 8, greatest - 7, greatest} {
		for _, page := range append(ends(4), 0, 1, 2, 3) {
			if e := s.Make(page, n); e != api.ErrArg {
				t.Errorf("Make(%d, %d) is %d", page, n, e)
			}
		}
	}
	against(t, a, s, w)
}

// P8.1: pages below 0, at the arena's end and beyond it, and such that a sum goes round.
func TestMakeBeyondTheEnds(t *testing.T) {
	for _, pages := range []int{1, 2, 16, 17, 18, 256} {
		for _, n := range []int{121, 248, 249, 505, 4088, 4096} {
			for _, page := range append(ends(pages), 0, 1, 2, pages-2, pages-3, pages-16, pages-17, pages-18) {
				a, s, w := made(pages)
				makes(t, s, w, page, n)
				against(t, a, s, w)
			}
		}
	}
}

// P8.1: ErrArg stands ahead of ErrRange, that ahead of ErrThere.
func TestTheFirstErrorIsAnswered(t *testing.T) {
	a, s, w := made(4)
	makes(t, s, w, 3, 200)
	for _, x := range []struct {
		page, n int
		want    api.Errno
	}{
		{-1, 300, api.ErrArg}, {-1, 4096, api.ErrArg}, {4, 120, api.ErrArg}, {3, 0, api.ErrArg}, {3, 4097, api.ErrArg},
		{3, 249, api.ErrRange}, {2, 600, api.ErrRange}, {0, 4096, api.ErrRange}, {4, 121, api.ErrRange},
		{3, 121, api.ErrThere}, {2, 249, api.ErrThere}, {0, 1000, api.ErrThere},
	} {
		if e := s.Make(x.page, x.n); e != x.want {
			t.Errorf("Make(%d, %d) is %d, not %d", x.page, x.n, e, x.want)
		}
	}
	against(t, a, s, w)
}

// P8.1, P8.3: a block against another one at each place: on its first, midst and last pages, around all of it, and beside it.
func TestMakeOnAnotherBlock(t *testing.T) {
	for run := 1; run <= 5; run++ {
		for other := 1; other <= 10; other++ {
			for page := range 16 {
				a, s, w := made(16)
				makes(t, s, w, 6, run*256-8)
				before := all(a)
				makes(t, s, w, page, other*256-9)
				against(t, a, s, w)
				if len(w.sizes) == 1 && !bytes.Equal(all(a), before) {
					t.Fatalf("Make(%d) of %d pages, refused, writes", page, other)
				}
			}
		}
	}
}

// P8.1: where one has gone, whole or in part, another one may be.
func TestMakeWhereABlockWas(t *testing.T) {
	a, s, w := made(6)
	makes(t, s, w, 1, 700)
	makes(t, s, w, 4, 300)
	for _, x := range []struct{ page, n int }{{0, 1000}, {0, 200}, {2, 300}, {3, 200}, {2, 500}} {
		drop(t, s, w, 1)
		makes(t, s, w, x.page, x.n)
		against(t, a, s, w)
		drop(t, s, w, x.page)
		makes(t, s, w, 1, 700)
		against(t, a, s, w)
	}
}

// P8.1: Drop twice, of a block's later pages, and of pages that there are not.
func TestDropWhereNoBlockBegins(t *testing.T) {
	a, s, w := made(8)
	makes(t, s, w, 2, 1000)
	for _, page := range append(ends(8), 0, 1, 3, 4, 5, 6, 7) {
		drop(t, s, w, page)
		against(t, a, s, w)
	}
	drop(t, s, w, 2)
	against(t, a, s, w)
	a.Fill(0, a.Len(), 7) // a second Drop would be seen
	w.lay(0, 8, false, 7)
	drop(t, s, w, 2)
	against(t, a, s, w)
}

// P8.1, P8.2: all sequences of five calls in an arena of three pages.
func TestAllSequencesOfCalls(t *testing.T) {
	sizes := []int{200, 300, 600}
	const calls = 12 // Make of each size at each page, Drop of each page
	for x := range calls * calls * calls * calls * calls {
		a, s, w := made(3)
		for i, y := 0, x; i < 5; i, y = i+1, y/calls {
			if c := y % calls; c < 9 {
				makes(t, s, w, c/3, sizes[c%3])
			} else {
				drop(t, s, w, c-9)
			}
		}
		if x%7 == 0 {
			against(t, a, s, w)
		}
	}
}

// P8.1, P8.2, P8.3: long sequences over the greatest arena; between them, bytes are written into blocks.
func TestLongSequencesOfCalls(t *testing.T) {
	for seed := range uint64(4) {
		a, s, w := made(256)
		for i := range 400 {
			x := link.New(seed<<32 + uint64(i)).Key
			page := int(x % 259)
			switch {
			case x>>60 < 9:
				makes(t, s, w, page-2, int(x>>20%4100))
			case x>>60 < 12:
				drop(t, s, w, page-2)
			}
			for p, n := range w.sizes {
				if p%5 == i%5 {
					a.Fill(p*256, n, byte(i))
					copy(w.bytes[p*256:], bytes.Repeat([]byte{byte(i)}, n))
				}
			}
			if i%10 == 0 {
				against(t, a, s, w)
			}
		}
		for _, p := range s.All() {
			drop(t, s, w, p)
		}
		against(t, a, s, w)
	}
}

// P8.2: All of several blocks, made in whatever order, and after some went.
func TestAllRises(t *testing.T) {
	a, s, w := made(32)
	for i := range 16 {
		makes(t, s, w, i*7%16*2, 121+i*20)
		against(t, a, s, w)
	}
	for i := range 16 {
		drop(t, s, w, i*5%16*2)
		against(t, a, s, w)
	}
}

// P8.2: what is written into All's answer, or appended to it, is seen by no later one.
func TestAllAnswersNewMemory(t *testing.T) {
	a, s, w := made(8)
	makes(t, s, w, 1, 300)
	makes(t, s, w, 5, 300)
	l := s.All()
	_ = append(l[:1], 3)
	l[0] = 4
	against(t, a, s, w)
}

// P8.1, P8.2: each bit of a canary, of one block among several.
func TestCanaryThatWasWrittenOver(t *testing.T) {
	for _, page := range []int{1, 2, 5} {
		for bit := range 64 {
			a, s, w := made(8)
			makes(t, s, w, 1, 248)
			makes(t, s, w, 2, 700)
			makes(t, s, w, 5, 500)
			at := (page+takes(w.sizes[page]))*256 - 8 + bit/8
			pokeByte(a, w, at, 1<<(bit%8))
			standsAs(t, a, s, w)
			checkIs(t, s, api.ErrForm)
			pokeByte(a, w, at, 1<<(bit%8))
			against(t, a, s, w)
			pokeByte(a, w, at, 1<<(bit%8))
			stood, e := s.Drop(page)
			w.drop(page)
			if stood || e != api.OK {
				t.Fatalf("Drop(%d) is %v, %d", page, stood, e)
			}
			against(t, a, s, w) // it is gone all the same; the others' stand
			for _, p := range s.All() {
				drop(t, s, w, p)
			}
			against(t, a, s, w)
		}
	}
}

// P8.1: canaries are those of the first byte's place, by the set's own key.
func TestCanaryOfAnotherPlace(t *testing.T) {
	a, s, w := made(4)
	makes(t, s, w, 1, 300)
	right, _ := a.Word(760)
	if right != code.Canary(256) {
		t.Errorf("the canary is %x", right)
	}
	for _, v := range []uint64{0, 1, code.Canary(0), code.Canary(512), code.Canary(760), code.Canary(1), link.New(6).Canary(256), 0xDDDDDDDDDDDDDDDD} {
		a.SetWord(760, v)
		checkIs(t, s, api.ErrForm)
	}
	a.SetWord(760, right)
	against(t, a, s, w)
	a.SetWord(760, 0)
	if stood, e := s.Drop(1); stood || e != api.OK {
		t.Error("Drop is", stood, e)
	}
}

// P8.3: each of a block's bytes, and those between them and the canary, may be written into.
func TestBytesOfBlocksBreakNoCanary(t *testing.T) {
	for _, n := range []int{121, 247, 248, 249, 503, 504, 505, 4088, 4089, 4096} {
		a, s, w := made(19)
		makes(t, s, w, 1, n)
		for at := 256; at < 256+256*takes(n)-8; at++ {
			pokeByte(a, w, at, byte(at)|1)
			checkIs(t, s, api.OK)
		}
		if takes(n)*256-8 < n {
			t.Fatalf("%d bytes have no room", n)
		}
		against(t, a, s, w)
		drop(t, s, w, 1)
		against(t, a, s, w)
	}
}

// Two sets of one arena know each its own blocks alone.
func TestTwoSets(t *testing.T) {
	a := filled(4)
	s, o := New(a, code), New(a, link.New(6))
	if s.Make(0, 200) != api.OK || o.Make(1, 600) != api.OK {
		t.Fatal("Make is refused")
	}
	if s.Size(1) != 0 || o.Size(0) != 0 || !slices.Equal(s.All(), []int{0}) || !slices.Equal(o.All(), []int{1}) {
		t.Error("All are", s.All(), o.All())
	}
	if s.Check() != api.OK || o.Check() != api.OK {
		t.Error("Check are", s.Check(), o.Check())
	}
	if stood, e := s.Drop(1); stood || e != api.ErrNone {
		t.Error("Drop of another set's block is", stood, e)
	}
}

func TestTheChaptersExample(t *testing.T) {
	s := New(arena.New(4), link.New(0))
	if e := s.Make(1, 300); e != api.OK {
		t.Error("Make(1, 300) is", e)
	}
	if s.Size(1) != 300 {
		t.Error("Size(1) is", s.Size(1))
	}
	if e := s.Make(2, 200); e != api.ErrThere {
		t.Error("Make(2, 200) is", e)
	}
}
