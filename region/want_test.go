package region

import (
	"bytes"
	"encoding/binary"
	"math"
	"slices"
	"testing"

	"tumbrel/api"
	"tumbrel/link"
	"tumbrel/pages"
	"tumbrel/slab"
)

const (
	least    = math.MinInt64
	greatest = math.MaxInt64
)

// wantPage is what a page has to be.
type wantPage struct {
	row    pages.Row
	size   int   // of a great block's first page
	states []int // of a page of slots
	free   []int // the slots in the order in which they were freed; the last one is taken first
}

// want is what a region has to be, page by page and byte by byte.
type want struct {
	c     Config
	code  link.Code
	pages []wantPage
	bytes []byte
}

// made is a region, and what it has to be.
func made(t *testing.T, manual, managed int) (*Region, *want) {
	t.Helper()
	c := Config{Manual: manual, Managed: managed, Seed: 77}
	r, e := New(c)
	if r == nil || e != api.OK {
		t.Fatalf("New(%v) is %v, %d", c, r, e)
	}
	n := manual + managed
	return r, &want{c: c, code: link.New(77), pages: make([]wantPage, n), bytes: make([]byte, n*256)}
}

// word lays the eight bytes of a number.
func (w *want) word(at int, v uint64) { binary.LittleEndian.PutUint64(w.bytes[at:], v) }

// fill lays n times c.
func (w *want) fill(at, n int, c byte) { copy(w.bytes[at:], bytes.Repeat([]byte{c}, n)) }

// first is the first of so many free pages of the manual region behind one another; -1: there are not so many.
func (w *want) first(run int) int {
	for p := 0; p+run <= w.c.Manual; p++ {
		if !slices.ContainsFunc(w.pages[p:p+run], func(g wantPage) bool { return g.row.Kind != api.Free }) {
			return p
		}
	}
	return -1
}

// head is the page that a page belongs to; -1: none.
func (w *want) head(page int) int {
	for page >= 0 && page < len(w.pages) && w.pages[page].row.Kind == api.Tail {
		page--
	}
	if page < 0 || page >= len(w.pages) {
		return -1
	}
	return page
}

// slotted is whether it is a page of slots.
func (w *want) slotted(page int) bool {
	return page >= 0 && page < w.c.Manual && w.pages[page].row.Kind == api.Slab
}

func (w *want) find(at int) (Place, bool) {
	if at < 0 || at >= w.c.Manual*256 {
		return Place{}, false
	}
	h := w.head(at / 256)
	g := w.pages[h]
	switch g.row.Kind {
	case api.Slab:
		size := 16 << g.row.Class
		k := at % 256 / size
		return Place{Page: h, Slot: k, Base: h*256 + k*size, Size: size - 8, State: g.states[k]}, true
	case api.Large:
		return Place{Page: h, Base: h * 256, Size: g.size, State: 1, Great: true}, true
	}
	return Place{}, false
}

// based is the place that begins there.
func (w *want) based(at int) (Place, bool) {
	p, ok := w.find(at)
	return p, ok && p.Base == at
}

// link frees a slot in front of those that are free.
func (w *want) link(page, k int) {
	g := &w.pages[page]
	size := 16 << g.row.Class
	at, next := page*256+k*size, -1
	if n := len(g.free); n > 0 {
		next = page*256 + g.free[n-1]*size
	}
	w.word(at, w.code.Put(at, next))
	g.free = append(g.free, k)
	g.states[k] = 0
}

func (w *want) open(class, owner int) (int, api.Errno) {
	if class < 0 || class > 3 || owner < 0 || owner > 63 {
		return 0, api.ErrArg
	}
	p := w.first(1)
	if p < 0 {
		return 0, api.ErrFull
	}
	n := 16 >> class
	w.pages[p] = wantPage{row: pages.Row{Kind: api.Slab, Class: class, Owner: owner, Run: 1}, states: make([]int, n)}
	for k := n - 1; k >= 0; k-- {
		w.link(p, k)
	}
	return p, api.OK
}

func (w *want) take(page int) (int, api.Errno) {
	if !w.slotted(page) {
		return 0, api.ErrNone
	}
	g := &w.pages[page]
	n := len(g.free)
	if n == 0 {
		return 0, api.ErrFull
	}
	k, size := g.free[n-1], 16<<g.row.Class
	g.free, g.states[k] = g.free[:n-1], 1
	at := page*256 + k*size
	w.fill(at, size-8, 0)
	w.word(at+size-8, w.code.Canary(at))
	return at, api.OK
}

func (w *want) drop(at int) api.Errno {
	p, ok := w.based(at)
	switch {
	case !ok:
		return api.ErrNone
	case p.Great:
		run := w.pages[p.Page].row.Run
		clear(w.pages[p.Page : p.Page+run])
		w.fill(at, run*256, 0xDD)
	case p.State != 1:
		return api.ErrState
	default:
		w.pages[p.Page].states[p.Slot] = 2
		w.fill(at, p.Size+8, 0xDD)
	}
	return api.OK
}

func (w *want) give(at int) api.Errno {
	p, ok := w.based(at)
	switch {
	case !ok || p.Great:
		return api.ErrNone
	case p.State != 2:
		return api.ErrState
	}
	w.link(p.Page, p.Slot)
	return api.OK
}

func (w *want) shut(page int) api.Errno {
	if !w.slotted(page) {
		return api.ErrNone
	}
	if w.count(page, 0) < len(w.pages[page].states) {
		return api.ErrState
	}
	w.pages[page] = wantPage{}
	return api.OK
}

func (w *want) great(n int) (int, api.Errno) {
	if n < 121 || n > 4096 {
		return 0, api.ErrArg
	}
	run := 1
	for run*256 < n+8 {
		run++
	}
	p := w.first(run)
	if p < 0 {
		return 0, api.ErrFull
	}
	w.pages[p] = wantPage{row: pages.Row{Kind: api.Large, Run: run}, size: n}
	for i := p + 1; i < p+run; i++ {
		w.pages[i] = wantPage{row: pages.Row{Kind: api.Tail}}
	}
	w.fill(p*256, run*256, 0)
	w.word((p+run)*256-8, w.code.Canary(p*256))
	return p * 256, api.OK
}

func (w *want) home(class, owner int) (int, bool) {
	for p, g := range w.pages {
		if w.slotted(p) && g.row.Class == class && g.row.Owner == owner && len(g.free) > 0 {
			return p, true
		}
	}
	return 0, false
}

func (w *want) live() []Place {
	var l []Place
	for at := 0; at < len(w.bytes); at += 16 {
		if p, ok := w.based(at); ok && p.State == 1 {
			l = append(l, p)
		}
	}
	return l
}

func (w *want) owner(at int) int {
	if at < 0 || !w.slotted(at/256) {
		return -1
	}
	return w.pages[at/256].row.Owner
}

func (w *want) count(page, state int) int {
	c := 0
	if w.slotted(page) {
		for _, s := range w.pages[page].states {
			if s == state {
				c++
			}
		}
	}
	return c
}

// ends: numbers around the ends of the manual region and of the arena, in pages and in bytes, far beyond them, and such as go round.
func (w *want) ends() []int {
	l := []int{least, least + 1, least + 256, -1 << 56, -1 << 32, -65536, -257, -256, -255, -16, -2, -1, 0, 1, 255, 256, 257, 65535, 65536, 65537, 1 << 32, 1<<32 + 16, 1 << 55, 1 << 56, 1<<56 + 1, greatest - 255, greatest - 1, greatest}
	for _, n := range []int{w.c.Manual, w.c.Manual + w.c.Managed} {
		l = append(l, n-1, n, n+1, n*256-16, n*256-1, n*256, n*256+1, n*256+16)
	}
	return l
}

// against holds a region that has to be whole against what it has to be.
func against(t *testing.T, r *Region, w *want) {
	t.Helper()
	standsAs(t, r, w)
	checkIs(t, r, api.OK)
}

// standsAs is against without Check.
func standsAs(t *testing.T, r *Region, w *want) {
	t.Helper()
	bytesAre(t, r, w)
	if r.Config() != w.c || r.Pages().Len() != len(w.pages) {
		t.Fatal("Config, Pages are", r.Config(), r.Pages().Len())
	}
	for p, g := range w.pages {
		if r.Pages().Row(p) != g.row {
			t.Fatalf("page %d is %v, not %v", p, r.Pages().Row(p), g.row)
		}
		for _, state := range []int{-1, 0, 1, 2, 3} {
			if c := r.Count(p, state); c != w.count(p, state) {
				t.Fatalf("Count(%d, %d) is %d, not %d", p, state, c, w.count(p, state))
			}
		}
	}
	if l := r.Live(); !slices.Equal(l, w.live()) {
		t.Fatal("Live is", l, "not", w.live())
	}
	placesAre(t, r, w)
	homesAre(t, r, w)
}

// bytesAre holds the arena's bytes against what they have to be.
func bytesAre(t *testing.T, r *Region, w *want) {
	t.Helper()
	b, e := r.Arena().Load(0, len(w.bytes))
	if e != api.OK || r.Arena().Len() != len(w.bytes) {
		t.Fatal("the arena has", r.Arena().Len(), "bytes")
	}
	for i := range b {
		if b[i] != w.bytes[i] {
			t.Fatalf("byte %d is %02x, not %02x", i, b[i], w.bytes[i])
		}
	}
}

// placesAre holds Find and Owner of bytes against what they have to be: of each one of a small region, of a great one's some.
func placesAre(t *testing.T, r *Region, w *want) {
	t.Helper()
	look := func(at int) {
		p, ok := r.Find(at)
		if wp, wok := w.find(at); p != wp || ok != wok {
			t.Fatalf("Find(%d) is %v, %v, not %v, %v", at, p, ok, wp, wok)
		}
		if o := r.Owner(at); o != w.owner(at) {
			t.Fatalf("Owner(%d) is %d, not %d", at, o, w.owner(at))
		}
	}
	step := 1 + len(w.bytes)/2500*2 // an odd one
	for at := 0; at < len(w.bytes); at += step {
		look(at)
	}
	for _, at := range w.ends() {
		look(at)
	}
}

// homesAre holds Home of all classes and some owners against what it has to be.
func homesAre(t *testing.T, r *Region, w *want) {
	t.Helper()
	for class := -1; class <= 4; class++ {
		for _, owner := range []int{-1, 0, 1, 2, 3, 62, 63, 64} {
			p, ok := r.Home(class, owner)
			if wp, wok := w.home(class, owner); p != wp || ok != wok {
				t.Fatalf("Home(%d, %d) is %d, %v, not %d, %v", class, owner, p, ok, wp, wok)
			}
		}
	}
}

// checkIs holds Check against an error.
func checkIs(t *testing.T, r *Region, want api.Errno) {
	t.Helper()
	if e := r.Check(); e != want {
		t.Fatalf("Check is %d, not %d", e, want)
	}
}

// same holds a number and an error against what they have to be.
func same(t *testing.T, call string, of, got int, e api.Errno, want int, we api.Errno) int {
	t.Helper()
	if got != want || e != we {
		t.Fatalf("%s(%d) is %d, %d, not %d, %d", call, of, got, e, want, we)
	}
	return got
}

// open opens a page, or is refused, as has to be; so do those that follow.
func open(t *testing.T, r *Region, w *want, class, owner int) int {
	t.Helper()
	p, e := r.Open(class, owner)
	wp, we := w.open(class, owner)
	return same(t, "Open", class, p, e, wp, we)
}

func take(t *testing.T, r *Region, w *want, page int) int {
	t.Helper()
	at, e := r.Take(page)
	wa, we := w.take(page)
	return same(t, "Take", page, at, e, wa, we)
}

func great(t *testing.T, r *Region, w *want, n int) int {
	t.Helper()
	at, e := r.Great(n)
	wa, we := w.great(n)
	return same(t, "Great", n, at, e, wa, we)
}

func drop(t *testing.T, r *Region, w *want, at int) {
	t.Helper()
	stood, e := r.Drop(at)
	if we := w.drop(at); e != we || stood != (we == api.OK) {
		t.Fatalf("Drop(%d) is %v, %d, not %d", at, stood, e, we)
	}
}

func give(t *testing.T, r *Region, w *want, at int) {
	t.Helper()
	e := r.Give(at)
	if we := w.give(at); e != we {
		t.Fatalf("Give(%d) is %d, not %d", at, e, we)
	}
}

func shut(t *testing.T, r *Region, w *want, page int) {
	t.Helper()
	e := r.Shut(page)
	if we := w.shut(page); e != we {
		t.Fatalf("Shut(%d) is %d, not %d", page, e, we)
	}
}

// poke changes one byte past the region, as who has no key may.
func poke(r *Region, w *want, at int, by byte) {
	w.bytes[at] ^= by
	r.Arena().Store(at, w.bytes[at:at+1])
}

// scribble writes c into all bytes of a block.
func scribble(r *Region, w *want, p Place, c byte) {
	r.Arena().Fill(p.Base, p.Size, c)
	w.fill(p.Base, p.Size, c)
}

// dice is a number that hangs on two others.
func dice(seed, i int) int { return int(link.New(uint64(seed)<<32+uint64(i)).Key >> 1) }

// mixed is a region of each sort of page: of classes 0 to 3, a great block of two pages, a free one; behind them two managed ones, of which one is mapped.
func mixed(t *testing.T) (*Region, *want) {
	t.Helper()
	r, w := made(t, 7, 2)
	for class := range 4 {
		open(t, r, w, class, class)
		held := take(t, r, w, class)
		if class < 3 {
			take(t, r, w, class)
		}
		drop(t, r, w, held)
	}
	great(t, r, w, 300)
	managed := pages.Row{Kind: api.Managed, Class: 1, Run: 1}
	if p, e := r.Pages().Map(7, 9, managed); p != 7 || e != api.OK {
		t.Fatal("Map is", p, e)
	}
	w.pages[7].row = managed
	against(t, r, w)
	return r, w
}

// In the tests numbers of states stand for their names.
func TestNumbersOfStates(t *testing.T) {
	if slab.None != -1 || slab.Free != 0 || slab.Live != 1 || slab.Held != 2 {
		t.Error("the states are", slab.None, slab.Free, slab.Live, slab.Held)
	}
}
