package region

import (
	"bytes"
	"encoding/binary"
	"slices"
	"testing"

	"tumbrel/api"
	"tumbrel/arena"
	"tumbrel/pages"
)

// P1: a nil region, at all arguments.
func TestNilRegion(t *testing.T) {
	var r *Region
	for _, x := range (&want{}).ends() {
		for _, y := range []int{least, -1, 0, 1, 63, 64, 300, greatest} {
			wrongNil(t, r, x, y)
		}
	}
	if len(r.Live()) != 0 || r.Arena() != nil || r.Pages() != nil || r.Config() != (Config{}) || r.Check() != api.ErrNil {
		t.Error("Live, Arena, Pages, Config, Check are", r.Live(), r.Arena(), r.Pages(), r.Config(), r.Check())
	}
}

// wrongNil tells which calls of a nil region answer more than that it is nil.
func wrongNil(t *testing.T, r *Region, x, y int) {
	t.Helper()
	refused := func(call string, n int, e api.Errno) {
		if n != 0 || e != api.ErrNil {
			t.Errorf("%s(%d) is %d, %d", call, x, n, e)
		}
	}
	n, e := r.Open(x, y)
	refused("Open", n, e)
	n, e = r.Take(x)
	refused("Take", n, e)
	n, e = r.Great(x)
	refused("Great", n, e)
	refused("Give", 0, r.Give(x))
	refused("Shut", 0, r.Shut(x))
	if stood, e := r.Drop(x); stood || e != api.ErrNil {
		t.Errorf("Drop(%d) is %v, %d", x, stood, e)
	}
	if p, ok := r.Find(x); p != (Place{}) || ok {
		t.Errorf("Find(%d) is %v, %v", x, p, ok)
	}
	if p, ok := r.Home(x, y); p != 0 || ok {
		t.Errorf("Home(%d, %d) is %d, %v", x, y, p, ok)
	}
	if r.Owner(x) != 0 || r.Count(x, y) != 0 {
		t.Errorf("Owner, Count of %d are %d, %d", x, r.Owner(x), r.Count(x, y))
	}
}

// P1: a region that nobody made ends all calls, too.
func TestRegionThatNobodyMade(t *testing.T) {
	r := &Region{}
	for _, x := range (&want{}).ends() {
		r.Open(x, 0)
		r.Open(0, x)
		r.Great(x)
		r.Great(300)
		r.Take(x)
		r.Drop(x)
		r.Give(x)
		r.Shut(x)
		r.Home(0, x)
		r.Count(x, 0)
		if p, ok := r.Find(x); p != (Place{}) || ok || r.Owner(x) != -1 {
			t.Errorf("Find, Owner of %d are %v, %v, %d", x, p, ok, r.Owner(x))
		}
	}
	if len(r.Live()) != 0 || r.Config() != (Config{}) || r.Arena() != nil || r.Pages() != nil {
		t.Error("Live, Config, Arena, Pages are", r.Live(), r.Config(), r.Arena(), r.Pages())
	}
	r.Check()
}

// P9.1: what an arena can't be parted into; sums go round.
func TestConfigsThatMayNotBe(t *testing.T) {
	for _, x := range [][2]int{
		{0, 0}, {-1, 0}, {0, -1}, {-1, -1}, {-1, 2}, {2, -1}, {-1, 257}, {257, -1}, {300, -100}, {-100, 300},
		{257, 0}, {0, 257}, {256, 1}, {1, 256}, {128, 129}, {256, 256}, {1 << 32, 0}, {0, 1 << 32}, {1 << 32, 1},
		{least, 0}, {0, least}, {least, least}, {least, 1}, {1, least}, {least, greatest}, {greatest, least},
		{greatest, 0}, {0, greatest}, {greatest, 1}, {1, greatest}, {greatest, greatest}, {greatest - 1, 3}, {3, greatest - 1},
		{greatest, 2 - greatest}, {2 - greatest, greatest}, {least, least + 4}, {least + 200, least}, {1 << 62, 1 << 62}, {-2, greatest},
	} {
		for _, seed := range []uint64{0, 5} {
			if r, e := New(Config{x[0], x[1], seed}); r != nil || e != api.ErrArg {
				t.Errorf("New(%v) is %v, %d", x, r, e)
			}
		}
	}
}

// P9.1: all that may be, of one region or both, up to 256 pages.
func TestNew(t *testing.T) {
	for manual := 0; manual <= 257; manual++ {
		for managed := 0; managed <= 257; managed++ {
			r, e := New(Config{manual, managed, 1})
			if n := manual + managed; n < 1 || n > 256 {
				if r != nil || e != api.ErrArg {
					t.Fatalf("New(%d, %d) is %v, %d", manual, managed, r, e)
				}
			} else if e != api.OK || r.Arena().Len() != n*256 || !pages.Same(r.Pages(), pages.New(n)) {
				t.Fatalf("New(%d, %d) is %v, %d", manual, managed, r, e)
			}
		}
	}
	for _, x := range [][2]int{{1, 0}, {0, 1}, {1, 1}, {2, 5}, {256, 0}, {0, 256}, {1, 255}, {255, 1}} {
		r, w := made(t, x[0], x[1])
		against(t, r, w)
	}
}

// P9.1: Arena and Pages are these themselves; Config is a value.
func TestWhatARegionStandsOn(t *testing.T) {
	r, w := made(t, 3, 1)
	if r.Arena() == nil || r.Arena() != r.Arena() || r.Pages() == nil || r.Pages() != r.Pages() {
		t.Fatal("Arena, Pages are others each time")
	}
	a, p := r.Arena(), r.Pages()
	open(t, r, w, 1, 2)
	at := take(t, r, w, 0)
	poke(r, w, at+3, 9)
	against(t, r, w)
	if a != r.Arena() || p != r.Pages() || p.Row(0) != (pages.Row{Kind: api.Slab, Class: 1, Owner: 2, Run: 1}) {
		t.Error("Arena, Pages are others behind an Open", p.Row(0))
	}
	if b, e := a.Load(at+3, 1); e != api.OK || b[0] != 9 {
		t.Error("the arena is another one", b, e)
	}
	c := r.Config()
	c.Manual = 0
	against(t, r, w)
	if o, _ := New(r.Config()); o.Arena() == a || o.Pages() == p {
		t.Error("two regions share what they stand on")
	}
}

// P9.1: the seed is that of links and canaries.
func TestSeeds(t *testing.T) {
	var all [][]byte
	for _, seed := range []uint64{0, 1, 77, 1 << 63, 1<<64 - 1} {
		r, e := New(Config{1, 0, seed})
		if e != api.OK || r.Config().Seed != seed {
			t.Fatal("New is", e)
		}
		r.Open(3, 0)
		if at, e := r.Take(0); at != 0 || e != api.OK {
			t.Error("Take is", at, e)
		}
		b, _ := r.Arena().Load(0, 256)
		if slices.ContainsFunc(all, func(o []byte) bool { return bytes.Equal(o, b) }) {
			t.Error("links and canaries of two seeds are alike")
		}
		all = append(all, b)
	}
}

// The chapter's example.
func TestExample(t *testing.T) {
	r, e := New(Config{Manual: 2})
	if e != api.OK {
		t.Fatal("New is", e)
	}
	if p, e := r.Open(1, 3); p != 0 || e != api.OK {
		t.Error("Open is", p, e)
	}
	if at, e := r.Take(0); at != 0 || e != api.OK {
		t.Error("Take is", at, e)
	}
	if at, e := r.Take(0); at != 32 || e != api.OK {
		t.Error("Take is", at, e)
	}
	if p, ok := r.Find(40); p != (Place{Page: 0, Slot: 1, Base: 32, Size: 24, State: 1}) || !ok {
		t.Error("Find is", p, ok)
	}
}

// P9.1: Find of the first and the last byte of slots of all states and classes, written out.
func TestFindInSlots(t *testing.T) {
	for class, size := range []int{16, 32, 64, 128} {
		r, w := made(t, 4, 1)
		open(t, r, w, 0, 0)
		page := open(t, r, w, class, 9)
		held := take(t, r, w, page)
		live := take(t, r, w, page)
		drop(t, r, w, held)
		for k := range 256 / size {
			base := 256 + k*size
			state := []int{2, 1, 0}[min(k, 2)]
			for _, at := range []int{base, base + 1, base + size - 9, base + size - 8, base + size - 1} {
				if p, ok := r.Find(at); p != (Place{Page: 1, Slot: k, Base: base, Size: size - 8, State: state}) || !ok {
					t.Errorf("Find(%d) is %v, %v", at, p, ok)
				}
			}
		}
		if held != 256 || live != 256+size {
			t.Error("blocks are at", held, live)
		}
		against(t, r, w)
	}
}

// P9.1: Find of all bytes of a great block's pages, also behind its own bytes and at its canary.
func TestFindInGreatBlocks(t *testing.T) {
	for _, n := range []int{121, 248, 249, 300, 504, 505, 4088, 4089, 4096} {
		r, w := made(t, 20, 1)
		open(t, r, w, 2, 4)
		at := great(t, r, w, n)
		if at != 256 {
			t.Error("the block is at", at)
		}
		end := 256 + (n+8+255)/256*256
		for _, x := range []int{at, at + 1, at + 255, at + n - 1, at + n, end - 8, end - 1} {
			if p, ok := r.Find(x); ok != (x < end) || ok && p != (Place{Page: 1, Slot: 0, Base: 256, Size: n, State: 1, Great: true}) {
				t.Errorf("Find(%d) is %v, %v", x, p, ok)
			}
		}
		for _, x := range []int{end, end + 1, 20*256 - 1, 20 * 256} {
			if p, ok := r.Find(x); p != (Place{}) || ok {
				t.Errorf("Find(%d) is %v, %v", x, p, ok)
			}
		}
		against(t, r, w)
	}
}

// P9.1: bytes that have no place: of free pages, of managed ones, free and mapped, below 0, beyond the arena.
func TestFindOfBytesWithoutAPlace(t *testing.T) {
	r, w := mixed(t)
	for _, at := range append(w.ends(), 6*256, 6*256+255, 7*256, 7*256+32, 8*256-1, 8*256, 9*256-1, 9*256) {
		p, ok := r.Find(at)
		if at >= 0 && at < 6*256 {
			continue
		}
		if p != (Place{}) || ok {
			t.Errorf("Find(%d) is %v, %v", at, p, ok)
		}
	}
	against(t, r, w)
}

// P9.2: Open of all classes and all owners, and of such that there are not, whether a page is left or not.
func TestOpen(t *testing.T) {
	for class := -1; class <= 4; class++ {
		for owner := -1; owner <= 64; owner++ {
			r, w := made(t, 1, 1)
			open(t, r, w, class, owner)
			against(t, r, w)
			open(t, r, w, class, owner) // ErrArg stands ahead of ErrFull
			against(t, r, w)
		}
	}
	for _, x := range []int{least, least + 1, -1 << 32, -64, -2, 64, 65, 256, 1 << 32, 1<<32 + 1, greatest - 1, greatest} {
		r, w := made(t, 1, 0)
		for range 2 {
			for _, y := range [][2]int{{x, x}, {x, 0}, {0, x}, {3, x}, {x, 63}} {
				if p, e := r.Open(y[0], y[1]); p != 0 || e != api.ErrArg {
					t.Errorf("Open(%d, %d) is %d, %d", y[0], y[1], p, e)
				}
			}
			against(t, r, w)
			open(t, r, w, 0, 0)
		}
	}
}

// P9.2: the first free page, up to the manual region's end; no managed one is opened.
func TestOpenAllPages(t *testing.T) {
	for _, x := range [][2]int{{1, 0}, {3, 2}, {0, 4}, {256, 0}, {200, 56}} {
		r, w := made(t, x[0], x[1])
		for i := range x[0] {
			if p := open(t, r, w, i%4, i%64); p != i {
				t.Fatal("opened is", p)
			}
		}
		against(t, r, w)
		for range 2 {
			if p, e := r.Open(0, 0); p != 0 || e != api.ErrFull {
				t.Error("Open is", p, e)
			}
		}
		against(t, r, w)
		for _, p := range []int{x[0] - 1, x[0] / 2, 0} { // a gap is the first free page
			if x[0] > 0 {
				shut(t, r, w, p)
				against(t, r, w)
				open(t, r, w, 3, 63)
				against(t, r, w)
			}
		}
	}
}

// P9.2: what Open writes: links alone; what stood in the page stays.
func TestOpenWritesLinksAlone(t *testing.T) {
	r, w := made(t, 2, 0)
	r.Arena().Fill(0, 512, 0xEE)
	w.fill(0, 512, 0xEE)
	open(t, r, w, 2, 1)
	against(t, r, w)
	b, _ := r.Arena().Load(0, 256)
	if bytes.Count(b, []byte{0xEE}) < 256-4*8 {
		t.Error("Open writes more than links")
	}
	for k, next := range []int{64, 128, 192, -1} {
		if v := binary.LittleEndian.Uint64(b[k*64:]); v != w.code.Put(k*64, next) {
			t.Errorf("the link at %d is %x", k*64, v)
		}
	}
}

// P9.2: Take of all slots of a page, then ErrFull; held ones are not taken.
func TestTake(t *testing.T) {
	for class, n := range []int{16, 8, 4, 2} {
		r, w := made(t, 3, 0)
		open(t, r, w, 3, 0)
		page := open(t, r, w, class, 5)
		for k := range n {
			if at := take(t, r, w, page); at != 256+k*256/n {
				t.Fatal("taken is", at)
			}
			against(t, r, w)
		}
		if at, e := r.Take(page); at != 0 || e != api.ErrFull {
			t.Error("Take is", at, e)
		}
		drop(t, r, w, 256)
		if at, e := r.Take(page); at != 0 || e != api.ErrFull {
			t.Error("Take beside a held slot is", at, e)
		}
		against(t, r, w)
		give(t, r, w, 256)
		if at := take(t, r, w, page); at != 256 {
			t.Error("taken is", at)
		}
		against(t, r, w)
	}
}

// P9.2: Take and Shut of free pages, great blocks' pages, managed pages, and pages that there are not.
func TestTakeAndShutOfOtherPages(t *testing.T) {
	r, w := mixed(t)
	for _, page := range append(w.ends(), 4, 5, 6, 7, 8, 9) {
		if page >= 0 && page < 4 {
			continue
		}
		if at, e := r.Take(page); at != 0 || e != api.ErrNone {
			t.Errorf("Take(%d) is %d, %d", page, at, e)
		}
		if e := r.Shut(page); e != api.ErrNone {
			t.Errorf("Shut(%d) is %d", page, e)
		}
		for state := -1; state <= 3; state++ {
			if c := r.Count(page, state); c != 0 {
				t.Errorf("Count(%d, %d) is %d", page, state, c)
			}
		}
	}
	against(t, r, w)
}

// P9.2: a link that was written over is ErrForm, and nothing is taken; one that leads to none ends the page.
func TestTakeOfALinkThatWasWrittenOver(t *testing.T) {
	r, w := made(t, 1, 0)
	open(t, r, w, 2, 0)
	poke(r, w, 7, 0x80)
	if at, e := r.Take(0); at != 0 || e != api.ErrForm {
		t.Error("Take is", at, e)
	}
	standsAs(t, r, w)
	checkIs(t, r, api.ErrForm)
	poke(r, w, 7, 0x80)
	against(t, r, w)
	take(t, r, w, 0)
	r.Arena().SetWord(64, w.code.Put(64, -1))
	if at, e := r.Take(0); at != 64 || e != api.OK {
		t.Error("Take is", at, e)
	}
	if at, e := r.Take(0); at != 0 || e != api.ErrFull {
		t.Error("Take behind a link to none is", at, e)
	}
	if p, ok := r.Home(2, 0); p != 0 || !ok || r.Count(0, 0) != 2 {
		t.Error("Home, Count are", p, ok, r.Count(0, 0))
	}
	checkIs(t, r, api.ErrForm)
}

// P9.2: Drop and Give of all bytes: within a block, at its canary, of free, held and live slots, of great blocks, of bytes without a place; twice.
func TestDropAndGiveOfEachByte(t *testing.T) {
	for at := -20; at < 9*256+20; at++ {
		r, w := mixed(t)
		for range 2 {
			drop(t, r, w, at)
			drop(t, r, w, at)
			give(t, r, w, at)
			give(t, r, w, at)
		}
		if at%16 < 2 {
			against(t, r, w)
		}
		bytesAre(t, r, w)
	}
	r, w := mixed(t)
	for _, at := range w.ends() {
		if at < 0 || at >= 256 {
			drop(t, r, w, at)
			give(t, r, w, at)
		}
	}
	against(t, r, w)
}

// P9.2: the errors of Drop and Give, written out.
func TestErrorsOfDropAndGive(t *testing.T) {
	r, w := mixed(t) // page 1 has slots of 32 bytes: a held one, a live one, free ones; page 4 begins a great block
	for _, x := range []struct {
		at         int
		drop, give api.Errno
	}{
		{256, api.ErrState, api.OK}, {288, api.OK, api.ErrState}, {320, api.ErrState, api.ErrState}, {257, api.ErrNone, api.ErrNone},
		{280, api.ErrNone, api.ErrNone}, {289, api.ErrNone, api.ErrNone}, {312, api.ErrNone, api.ErrNone}, {304, api.ErrNone, api.ErrNone},
		{1024, api.OK, api.ErrNone}, {1025, api.ErrNone, api.ErrNone}, {1280, api.ErrNone, api.ErrNone}, {1528, api.ErrNone, api.ErrNone},
		{1536, api.ErrNone, api.ErrNone}, {1792, api.ErrNone, api.ErrNone}, {2304, api.ErrNone, api.ErrNone}, {-256, api.ErrNone, api.ErrNone},
	} {
		r, w = mixed(t)
		if e := r.Give(x.at); e != x.give {
			t.Errorf("Give(%d) is %d, not %d", x.at, e, x.give)
		}
		r, w = mixed(t)
		if stood, e := r.Drop(x.at); e != x.drop || stood != (e == api.OK) {
			t.Errorf("Drop(%d) is %v, %d, not %d", x.at, stood, e, x.drop)
		}
	}
	drop(t, r, w, 0)
}

// P9.2: whether a canary stood, of a slot and of a great block; it is dropped all the same.
func TestDropBehindABrokenCanary(t *testing.T) {
	for _, at := range []int{288, 1024} {
		for bit := range 64 {
			r, w := mixed(t)
			p, _ := r.Find(at)
			guard := at + p.Size
			if p.Great {
				guard = 1536 - 8
			}
			poke(r, w, guard+bit/8, 1<<(bit%8))
			standsAs(t, r, w)
			checkIs(t, r, api.ErrForm)
			stood, e := r.Drop(at)
			if w.drop(at); stood || e != api.OK {
				t.Fatalf("Drop(%d) is %v, %d", at, stood, e)
			}
			against(t, r, w)
		}
	}
}

// P9.2: Shut with live, held and only free slots; a page that was shut is free, and can be anything.
func TestShut(t *testing.T) {
	for class, n := range []int{16, 8, 4, 2} {
		for k := range n {
			r, w := made(t, 2, 0)
			open(t, r, w, class, 7)
			for range n {
				take(t, r, w, 0)
			}
			if e := r.Shut(0); e != api.ErrState {
				t.Error("Shut of a full page is", e)
			}
			for i := range n {
				if i != k {
					drop(t, r, w, i*256/n)
					give(t, r, w, i*256/n)
				}
			}
			if e := r.Shut(0); e != api.ErrState {
				t.Error("Shut beside a live slot is", e)
			}
			drop(t, r, w, k*256/n)
			if e := r.Shut(0); e != api.ErrState {
				t.Error("Shut beside a held slot is", e)
			}
			against(t, r, w)
			give(t, r, w, k*256/n)
			shut(t, r, w, 0)
			against(t, r, w)
			if e := r.Shut(0); e != api.ErrNone {
				t.Error("Shut twice is", e)
			}
			great(t, r, w, 400)
			against(t, r, w)
		}
	}
}

// P9.2: what was shut is opened anew with slots of another class and owner, none of them live.
func TestOpenBehindShut(t *testing.T) {
	for class := range 4 {
		for other := range 4 {
			r, w := made(t, 1, 0)
			open(t, r, w, class, 1)
			at := take(t, r, w, 0)
			scribble(r, w, Place{Base: at, Size: 8}, 0xAA)
			drop(t, r, w, at)
			give(t, r, w, at)
			shut(t, r, w, 0)
			open(t, r, w, other, 2)
			against(t, r, w)
			take(t, r, w, 0)
			against(t, r, w)
		}
	}
}

// P9.2: of each size, and of sizes that are not great, whether there is room or not.
func TestGreatOfEachSize(t *testing.T) {
	r, w := made(t, 18, 2)
	full, fw := made(t, 1, 17)
	open(t, full, fw, 0, 0)
	for n := -300; n <= 4400; n++ {
		at, e := r.Great(n)
		wa, we := w.great(n)
		if at != 0 || e != we || wa != 0 || (e == api.OK) != (n >= 121 && n <= 4096) {
			t.Fatalf("Great(%d) is %d, %d", n, at, e)
		}
		if e == api.OK {
			drop(t, r, w, at)
		}
		great(t, full, fw, n)
	}
	against(t, full, fw)
	for _, n := range []int{least, least + 1, -4096, 1 << 16, 1<<32 + 300, greatest - 255, greatest - 8, greatest - 7, greatest} {
		great(t, full, fw, n)
		great(t, r, w, n)
	}
	for _, n := range []int{121, 248, 249, 4088, 4089, 4096} {
		at := great(t, r, w, n)
		against(t, r, w)
		drop(t, r, w, at)
		against(t, r, w)
	}
}

// P9.2: a gap that just suffices, and one that does not, ahead of the manual region's end and of the managed one.
func TestGreatInGaps(t *testing.T) {
	for gap := range 5 {
		for run := 1; run <= 5; run++ {
			r, w := made(t, gap+1+3, 6)
			for range gap + 4 {
				open(t, r, w, 0, 0)
			}
			for p := range gap {
				shut(t, r, w, p)
			}
			shut(t, r, w, gap+1)
			shut(t, r, w, gap+2)
			at, e := r.Great(run*256 - 8)
			wa, we := w.great(run*256 - 8)
			switch {
			case run <= gap:
				if at != 0 || e != api.OK {
					t.Errorf("Great of %d pages in a gap of %d is %d, %d", run, gap, at, e)
				}
			case run <= 2:
				if at != (gap+1)*256 || e != api.OK {
					t.Errorf("Great of %d pages behind a gap of %d is %d, %d", run, gap, at, e)
				}
			case at != 0 || e != api.ErrFull:
				t.Errorf("Great of %d pages is %d, %d", run, at, e)
			}
			if at != wa || e != we {
				t.Error("Great is", at, e, "not", wa, we)
			}
			against(t, r, w)
		}
	}
}

// P9.2: the manual region's last pages suffice just; free managed pages behind them are none of its.
func TestGreatAtTheManualRegionsEnd(t *testing.T) {
	for run := 1; run <= 17; run++ {
		r, w := made(t, run, 20)
		great(t, r, w, min(run*256-8, 4096))
		against(t, r, w)
		great(t, r, w, 121)
		against(t, r, w)
		if run > 1 {
			short, sw := made(t, run-1, 20)
			if at, e := short.Great(min(run*256-8, 4096)); at != 0 || e != api.ErrFull {
				t.Errorf("Great of %d pages in fewer is %d, %d", run, at, e)
			}
			against(t, short, sw)
		}
	}
	r, w := made(t, 0, 5)
	great(t, r, w, 300)
	open(t, r, w, 0, 0)
	against(t, r, w)
}

// P9.3: Home goes past full pages, other classes and other owners, and comes back behind a Give, not behind a Drop.
func TestHome(t *testing.T) {
	r, w := made(t, 6, 0)
	for _, x := range [][2]int{{3, 1}, {2, 1}, {3, 2}, {3, 1}, {3, 1}} {
		open(t, r, w, x[0], x[1])
	}
	home := func(class, owner, want int, ok bool) {
		t.Helper()
		if p, is := r.Home(class, owner); p != want || is != ok {
			t.Errorf("Home(%d, %d) is %d, %v", class, owner, p, is)
		}
		against(t, r, w)
	}
	home(3, 1, 0, true)
	home(2, 1, 1, true)
	home(3, 2, 2, true)
	home(2, 2, 0, false)
	home(0, 0, 0, false)
	take(t, r, w, 0)
	home(3, 1, 0, true)
	take(t, r, w, 0)
	home(3, 1, 3, true)
	take(t, r, w, 3)
	take(t, r, w, 3)
	home(3, 1, 4, true)
	drop(t, r, w, 128)
	home(3, 1, 4, true)
	give(t, r, w, 128)
	home(3, 1, 0, true)
	take(t, r, w, 0)
	shut(t, r, w, 4)
	home(3, 1, 0, false)
	drop(t, r, w, 3*256)
	home(3, 1, 0, false)
	give(t, r, w, 3*256)
	home(3, 1, 3, true)
	for _, x := range []int{least, -1, 4, 64, 1 << 32, greatest} {
		home(x, 1, 0, false)
		home(3, x, 0, false)
	}
}

// P9.3: Live rises, with slots and great blocks mixed; held and free ones are not among it.
func TestLive(t *testing.T) {
	r, w := made(t, 10, 1)
	great(t, r, w, 300)
	open(t, r, w, 3, 4)
	great(t, r, w, 200)
	open(t, r, w, 1, 5)
	for _, page := range []int{4, 2, 4, 2, 4} {
		take(t, r, w, page)
	}
	drop(t, r, w, 4*256)
	want := []Place{
		{Page: 0, Base: 0, Size: 300, State: 1, Great: true},
		{Page: 2, Slot: 0, Base: 512, Size: 120, State: 1},
		{Page: 2, Slot: 1, Base: 640, Size: 120, State: 1},
		{Page: 3, Base: 768, Size: 200, State: 1, Great: true},
		{Page: 4, Slot: 1, Base: 1056, Size: 24, State: 1},
		{Page: 4, Slot: 2, Base: 1088, Size: 24, State: 1},
	}
	if l := r.Live(); !slices.Equal(l, want) {
		t.Error("Live is", l)
	}
	against(t, r, w)
	l := r.Live()
	_ = append(l[:2], Place{Page: 9})
	l[0].Base = 17
	against(t, r, w)
}

// P9.3: Owner of each sort of page, at its first and last byte.
func TestOwner(t *testing.T) {
	r, w := made(t, 5, 2)
	open(t, r, w, 1, 63)
	open(t, r, w, 2, 0)
	great(t, r, w, 300)
	r.Pages().Map(5, 7, pages.Row{Kind: api.Managed, Class: 2, Owner: 8, Run: 1})
	for at, want := range map[int]int{
		0: 63, 1: 63, 255: 63, 256: 0, 511: 0, 512: -1, 1023: -1, 1024: -1, 1279: -1, 1280: -1, 1535: -1, 1536: -1, 1791: -1,
		1792: -1, -1: -1, -255: -1, -256: -1, least: -1, greatest: -1, 65536: -1, 1 << 32: -1,
	} {
		if o := r.Owner(at); o != want {
			t.Errorf("Owner(%d) is %d, not %d", at, o, want)
		}
	}
}

// P9.3: Check behind each bit of links, canaries and held slots, and of great blocks' canaries; of other bytes it asks nothing.
func TestCheckBehindBytesThatWereWrittenOver(t *testing.T) {
	asked := func(w *want, at int) bool {
		p, ok := w.find(at)
		switch {
		case !ok:
			return false
		case p.Great:
			return at >= 1536-8
		case p.State == 0:
			return at < p.Base+8
		case p.State == 1:
			return at >= p.Base+p.Size
		}
		return true
	}
	r, w := mixed(t)
	for at := range 9 * 256 {
		for bit := at % 3; bit < 8; bit += 3 {
			poke(r, w, at, 1<<bit)
			if e := r.Check(); (e == api.ErrForm) != asked(w, at) || e != api.ErrForm && e != api.OK {
				t.Fatalf("Check is %d, with bit %d of byte %d turned", e, bit, at)
			}
			poke(r, w, at, 1<<bit)
		}
	}
	against(t, r, w)
}

// P9.3: each page of slots, and each great block, of many is asked.
func TestCheckAsksAll(t *testing.T) {
	r, w := made(t, 256, 0)
	for i := range 128 {
		open(t, r, w, i%4, i%64)
		great(t, r, w, 130)
	}
	for p := range 256 {
		at := p * 256 // a link
		if p%2 == 1 {
			at += 255 // a canary
		}
		poke(r, w, at, 4)
		checkIs(t, r, api.ErrForm)
		poke(r, w, at, 4)
		checkIs(t, r, api.OK)
	}
}

// P9.4, P9.5: a full region of all classes; each byte of live blocks is written into.
func TestFullRegionOfWrittenBlocks(t *testing.T) {
	r, w := made(t, 12, 1)
	for i := range 8 {
		p := open(t, r, w, i%4, i)
		for w.count(p, 0) > 0 {
			take(t, r, w, p)
		}
	}
	great(t, r, w, 504)
	great(t, r, w, 249)
	var of [13 * 256]int // of each byte, how many live blocks have it
	for i, p := range r.Live() {
		if p.Base%16 != 0 || p.Base < 0 || p.Base+p.Size > 12*256 {
			t.Error("a live block is", p)
		}
		for at := p.Base; at < p.Base+p.Size; at++ {
			of[at]++
		}
		scribble(r, w, p, byte(i)|1)
		against(t, r, w)
	}
	if slices.Max(of[:]) > 1 {
		t.Error("two live blocks have a byte in common")
	}
	emptied(t, r, w)
}

// emptied drops, gives and shuts all: then the pages are free.
func emptied(t *testing.T, r *Region, w *want) {
	t.Helper()
	for _, p := range r.Live() {
		drop(t, r, w, p.Base)
	}
	for at := 0; at < w.c.Manual*256; at += 16 {
		if p, ok := r.Find(at); ok && p.Base == at && p.State == 2 {
			give(t, r, w, at)
		}
	}
	for p := range w.c.Manual {
		shut(t, r, w, p)
	}
	against(t, r, w)
	if !pages.Same(r.Pages(), pages.New(len(w.pages))) || len(r.Live()) != 0 {
		t.Error("pages are left")
	}
}

// call does one of many calls, which hang on x.
func call(t *testing.T, r *Region, w *want, x int) {
	t.Helper()
	n := len(w.pages)
	page, at := x/16%(n+2)-1, x/4096%(n*16+4)*16-32
	if live := w.live(); len(live) > 0 && x>>50%3 > 0 {
		at = live[x/4096%len(live)].Base
	}
	switch x % 16 {
	case 0, 1:
		open(t, r, w, x/16%4, x/64%4)
	case 2, 3, 4, 5, 6:
		take(t, r, w, page)
	case 7, 8, 9:
		drop(t, r, w, at)
	case 10, 11, 12:
		give(t, r, w, x/4096%(n*16)*16)
	case 13:
		shut(t, r, w, page)
	case 14:
		great(t, r, w, 100+x/16%1500)
	case 15:
		if p, ok := r.Find(at); ok && p.State == 1 {
			scribble(r, w, p, byte(x>>30))
		}
	}
}

// P9.2 to P9.5: long sequences of calls, over small regions and the greatest one.
func TestLongSequencesOfCalls(t *testing.T) {
	for i, x := range [][2]int{{1, 0}, {1, 1}, {2, 0}, {3, 2}, {6, 1}, {12, 4}, {40, 0}, {256, 0}} {
		r, w := made(t, x[0], x[1])
		every := 3 + x[0]*x[0]/40
		for k := range 1500 {
			call(t, r, w, dice(i, k))
			if k%every == 0 {
				against(t, r, w)
			}
		}
		emptied(t, r, w)
	}
}

// P9.2: all sequences of five calls over two pages.
func TestAllSequencesOfCalls(t *testing.T) {
	calls := []func(*testing.T, *Region, *want){
		func(t *testing.T, r *Region, w *want) { open(t, r, w, 3, 1) },
		func(t *testing.T, r *Region, w *want) { take(t, r, w, 0) },
		func(t *testing.T, r *Region, w *want) { take(t, r, w, 1) },
		func(t *testing.T, r *Region, w *want) { drop(t, r, w, 0) },
		func(t *testing.T, r *Region, w *want) { drop(t, r, w, 256) },
		func(t *testing.T, r *Region, w *want) { give(t, r, w, 0) },
		func(t *testing.T, r *Region, w *want) { give(t, r, w, 256) },
		func(t *testing.T, r *Region, w *want) { shut(t, r, w, 0) },
		func(t *testing.T, r *Region, w *want) { great(t, r, w, 200) },
		func(t *testing.T, r *Region, w *want) { great(t, r, w, 300) },
	}
	n := len(calls)
	for x := range n * n * n * n * n {
		r, w := made(t, 2, 0)
		for i, y := 0, x; i < 5; i, y = i+1, y/n {
			calls[y%n](t, r, w)
		}
		if x%37 == 0 {
			against(t, r, w)
		}
		checkIs(t, r, api.OK)
	}
}

// Two regions know nothing of each other, and do the same of the same calls.
func TestTwoRegions(t *testing.T) {
	r, w := made(t, 5, 1)
	o, v := made(t, 5, 1)
	for k := range 300 {
		call(t, r, w, dice(99, k))
	}
	against(t, o, v)
	for k := range 300 {
		call(t, o, v, dice(99, k))
	}
	against(t, r, w)
	against(t, o, v)
	a, _ := r.Arena().Load(0, 6*256)
	b, _ := o.Arena().Load(0, 6*256)
	if !bytes.Equal(a, b) || !pages.Same(r.Pages(), o.Pages()) || !slices.Equal(r.Live(), o.Live()) {
		t.Error("the same calls do something else")
	}
}

// P1: whoever maps and unmaps pages past the region, and writes into the arena, each call ends; what is unmapped is no page of slots, and no great block.
func TestPagesThatWereMappedPastTheRegion(t *testing.T) {
	r, _ := mixed(t)
	for p := range 9 {
		r.Pages().Unmap(p)
	}
	for at := range 9 * 256 {
		if p, ok := r.Find(at); p != (Place{}) || ok || r.Owner(at) != -1 {
			t.Fatalf("Find, Owner of %d are %v, %v, %d", at, p, ok, r.Owner(at))
		}
		if _, e := r.Drop(at); e != api.ErrNone || r.Give(at) != api.ErrNone {
			t.Fatalf("Drop(%d) is %d", at, e)
		}
	}
	if len(r.Live()) != 0 {
		t.Error("Live is", r.Live())
	}
	if at, e := r.Great(1100); at != 0 || e == api.OK || r.Pages().Longest(0, 9) != 9 {
		t.Error("Great over a block is", at, e)
	}
	if p, e := r.Open(1, 1); p != 0 || e != api.OK || r.Count(0, 0) != 8 {
		t.Error("Open is", p, e)
	}
	for k := range 4000 {
		x := dice(7, k)
		switch x % 3 {
		case 0:
			r.Pages().Map(x/16%9, x/256%12, pages.Row{Kind: x / 4096 % 5, Class: x >> 20 % 4, Owner: x >> 22 % 4, Run: 1 + x>>24%3})
		case 1:
			r.Pages().Unmap(x / 16 % 9)
		case 2:
			r.Arena().Fill(x/16%(9*256), x>>20%40, byte(x>>30))
		}
		rudely(r, dice(8, k))
	}
}

// P9.2: a page that was shut has no slots, whatever it is mapped as past the region.
func TestShutPageThatIsMappedAnew(t *testing.T) {
	r, w := made(t, 2, 0)
	page := open(t, r, w, 1, 3)
	shut(t, r, w, page)
	r.Pages().Map(0, 2, pages.Row{Kind: api.Slab, Class: 1, Owner: 3, Run: 1})
	if at, e := r.Take(page); at != 0 || e != api.ErrNone || r.Count(page, 0) != 0 {
		t.Error("Take, Count are", at, e, r.Count(page, 0))
	}
	if p, ok := r.Find(40); p != (Place{}) || ok {
		t.Error("Find is", p, ok)
	}
	if p, ok := r.Home(1, 3); p != 0 || ok {
		t.Error("Home is", p, ok)
	}
}

// rudely calls all, whatever comes of it.
func rudely(r *Region, x int) {
	r.Open(x%5, x/8%4)
	page, at := x/32%9, x/512%(9*16)*16
	r.Take(page)
	r.Drop(at)
	r.Give(at)
	r.Great(100 + x>>20%1000)
	r.Shut(x >> 30 % 9)
	r.Find(at + 3)
	r.Home(x%4, x/8%4)
	r.Live()
	r.Count(page, 0)
	r.Owner(at)
	r.Check()
}

// P9.1 to P9.3: a region over the greatest arena reaches its last byte.
func TestGreatestRegion(t *testing.T) {
	r, w := made(t, 256, 0)
	for p := range 256 {
		open(t, r, w, 3, p%64)
		take(t, r, w, p)
		take(t, r, w, p)
	}
	if p, ok := r.Find(65535); p != (Place{Page: 255, Slot: 1, Base: 65408, Size: 120, State: 1}) || !ok {
		t.Error("Find is", p, ok)
	}
	if p, ok := r.Find(65536); p != (Place{}) || ok {
		t.Error("Find is", p, ok)
	}
	if l := r.Live(); len(l) != 512 || r.Arena().Len() != arena.New(256).Len() {
		t.Error("Live has", len(l))
	}
	against(t, r, w)
}
