package fault

import (
	"math"
	"slices"
	"testing"

	"tumbrel/api"
	"tumbrel/link"
	"tumbrel/pages"
	"tumbrel/region"
)

const (
	least    = math.MinInt64
	greatest = math.MaxInt64
)

// want is what a ledger has to be: of each byte of the manual region how many there are.
type want struct {
	manual, all int
	gone        []bool
	reports     []Report
}

// block is a live block's bytes, from lo up to but not hi: those of its slot, or of its pages.
type block struct{ lo, hi int }

// made is a region, a ledger of it, and what that one has to be.
func made(t *testing.T, manual, managed int) (*region.Region, *Ledger, *want) {
	t.Helper()
	r, e := region.New(region.Config{Manual: manual, Managed: managed, Seed: 3})
	if e != api.OK {
		t.Fatal("New is", e)
	}
	l := New(r)
	if l == nil {
		t.Fatal("a ledger of a region is nil")
	}
	return r, l, &want{manual: manual * 256, all: (manual + managed) * 256, gone: make([]bool, manual*256)}
}

// blocks is all live blocks, by what the pages are and by the states of their slots.
func blocks(r *region.Region) []block {
	var l []block
	for _, p := range r.Live() {
		if p.Great {
			l = append(l, block{p.Page * 256, (p.Page + r.Pages().Row(p.Page).Run) * 256})
		} else {
			size := 16 << r.Pages().Row(p.Page).Class
			l = append(l, block{p.Page*256 + p.Slot*size, p.Page*256 + (p.Slot+1)*size})
		}
	}
	return l
}

// over is the live block that a byte lies in, and whether there is one.
func over(r *region.Region, at int) (block, bool) {
	for _, b := range blocks(r) {
		if b.lo <= at && at < b.hi {
			return b, true
		}
	}
	return block{}, false
}

func (w *want) fault(r *region.Region, at int) api.Fault {
	switch {
	case at < 0 || at >= w.all:
		return api.FaultOutside
	case at >= w.manual:
		return api.FaultManaged
	}
	b, live := over(r, at)
	switch {
	case live && b.lo == at:
		return api.FaultNone
	case live:
		return api.FaultInside
	case w.gone[at]:
		return api.FaultDouble
	}
	return api.FaultNever
}

func (w *want) took(r *region.Region, at int) api.Errno {
	b, live := over(r, at)
	if !live || b.lo != at {
		return api.ErrNone
	}
	clear(w.gone[b.lo:b.hi])
	return api.OK
}

func (w *want) dropped(r *region.Region, at int) api.Errno {
	if at < 0 || at >= w.manual {
		return api.ErrRange
	}
	if b, live := over(r, at); live && b.lo == at {
		return api.ErrState
	}
	w.gone[at] = true
	return api.OK
}

// ends: addresses below 0, at the ends of both regions, beyond, and greatest ones.
func (w *want) ends() []int {
	l := []int{least, least + 1, -1 << 56, -1 << 32, -65536, -257, -256, -255, -17, -16, -2, -1, 65535, 65536, 65537, 1 << 32, 1<<32 + 16, 1 << 56, greatest - 255, greatest - 1, greatest}
	for _, n := range []int{w.manual, w.all} {
		l = append(l, n-256, n-16, n-1, n, n+1, n+16, n+256)
	}
	return l
}

// against holds a ledger against what it has to be.
func against(t *testing.T, r *region.Region, l *Ledger, w *want) {
	t.Helper()
	var gone []int
	for at, is := range w.gone {
		if is {
			gone = append(gone, at)
		}
	}
	if g := l.Gone(); !slices.Equal(g, gone) {
		t.Fatal("Gone is", g, "not", gone)
	}
	if n := l.Reports(); !slices.Equal(n, w.reports) {
		t.Fatal("Reports are", len(n), "not", len(w.reports))
	}
	for at := -3; at < w.all+3; at++ {
		faultIs(t, l, at, w.fault(r, at))
	}
	for _, at := range w.ends() {
		faultIs(t, l, at, w.fault(r, at))
	}
}

// faultIs holds an address's fault against what it has to be.
func faultIs(t *testing.T, l *Ledger, at int, want api.Fault) {
	t.Helper()
	if f := l.Fault(at); f != want {
		t.Fatalf("Fault(%d) is %d, not %d", at, f, want)
	}
}

// took tells of a block, as has to be answered; so does dropped.
func took(t *testing.T, r *region.Region, l *Ledger, w *want, at int) {
	t.Helper()
	if e, we := l.Took(at), w.took(r, at); e != we {
		t.Fatalf("Took(%d) is %d, not %d", at, e, we)
	}
}

func dropped(t *testing.T, r *region.Region, l *Ledger, w *want, at int) {
	t.Helper()
	if e, we := l.Dropped(at), w.dropped(r, at); e != we {
		t.Fatalf("Dropped(%d) is %d, not %d", at, e, we)
	}
}

// do asks that a call of the region is done.
func do(t *testing.T, e api.Errno) {
	t.Helper()
	if e != api.OK {
		t.Fatal("the region refuses:", e)
	}
}

// open opens a page of slots.
func open(t *testing.T, r *region.Region, class int) int {
	t.Helper()
	p, e := r.Open(class, 1)
	do(t, e)
	return p
}

// take takes a block from a page; the ledger is not told.
func take(t *testing.T, r *region.Region, page int) int {
	t.Helper()
	at, e := r.Take(page)
	do(t, e)
	return at
}

// great makes a great block; the ledger is not told.
func great(t *testing.T, r *region.Region, n int) int {
	t.Helper()
	at, e := r.Great(n)
	do(t, e)
	return at
}

// drop drops a block, and tells the ledger.
func drop(t *testing.T, r *region.Region, l *Ledger, w *want, at int) {
	t.Helper()
	_, e := r.Drop(at)
	do(t, e)
	dropped(t, r, l, w, at)
}

// A nil ledger, and one of a nil region.
func TestNilLedger(t *testing.T) {
	if New(nil) != nil {
		t.Error("New of a nil region is", New(nil))
	}
	for _, l := range []*Ledger{nil, New(nil)} {
		for _, at := range append((&want{}).ends(), 0, 1, 16, 32) {
			if e := l.Took(at); e != api.ErrNil {
				t.Errorf("Took(%d) is %d", at, e)
			}
			if e := l.Dropped(at); e != api.ErrNil {
				t.Errorf("Dropped(%d) is %d", at, e)
			}
			if f := l.Fault(at); f != api.FaultOutside {
				t.Errorf("Fault(%d) is %d", at, f)
			}
			l.Note(at, at, api.FaultDouble)
		}
		if len(l.Reports()) != 0 || len(l.Gone()) != 0 {
			t.Error("Reports, Gone are", l.Reports(), l.Gone())
		}
	}
}

// P1: a ledger that nobody made, and one of a region that nobody made, end all calls; nothing is in their arenas.
func TestLedgerThatNobodyMade(t *testing.T) {
	for _, l := range []*Ledger{{}, New(&region.Region{})} {
		for _, at := range append((&want{}).ends(), 0, 16) {
			if e := l.Took(at); e != api.ErrNone {
				t.Errorf("Took(%d) is %d", at, e)
			}
			if e := l.Dropped(at); e != api.ErrRange {
				t.Errorf("Dropped(%d) is %d", at, e)
			}
			if f := l.Fault(at); f != api.FaultOutside {
				t.Errorf("Fault(%d) is %d", at, f)
			}
		}
		if len(l.Gone()) != 0 || len(l.Reports()) != 0 {
			t.Error("Gone, Reports are", l.Gone(), l.Reports())
		}
	}
}

// The chapter's example.
func TestExample(t *testing.T) {
	r, l, w := made(t, 2, 0)
	open(t, r, 1)
	take(t, r, 0)
	if at := take(t, r, 0); at != 32 {
		t.Fatal("taken is", at)
	}
	drop(t, r, l, w, 32)
	faultIs(t, l, 32, api.FaultDouble)
	do(t, r.Give(32))
	faultIs(t, l, 32, api.FaultDouble)
	take(t, r, 0)
	faultIs(t, l, 32, api.FaultNone)
	do(t, l.Took(32))
	faultIs(t, l, 32, api.FaultNone)
	if len(l.Gone()) != 0 {
		t.Error("Gone is", l.Gone())
	}
}

// P10.1: a ledger in which nothing is gone, over regions of each kind, also one in which there are blocks already.
func TestNew(t *testing.T) {
	for _, x := range [][2]int{{1, 0}, {0, 1}, {2, 3}, {5, 0}, {0, 4}} {
		r, l, w := made(t, x[0], x[1])
		against(t, r, l, w)
	}
	r, _, w := made(t, 3, 1)
	open(t, r, 2)
	at := take(t, r, 0)
	take(t, r, 0)
	_, e := r.Drop(at)
	do(t, e)
	l := New(r)
	against(t, r, l, w)
	faultIs(t, l, at, api.FaultNever) // nobody told it
}

// P10.1: each fault, written out.
func TestFaults(t *testing.T) {
	r, l, w := made(t, 6, 2)
	open(t, r, 2)         // slots at 0, 64, 128, 192
	a := take(t, r, 0)    // 0
	b := take(t, r, 0)    // 64
	g := great(t, r, 300) // 256 up to 768
	h := great(t, r, 200) // 768 up to 1024
	drop(t, r, l, w, a)   // held
	drop(t, r, l, w, h)   // a free page
	do(t, r.Give(a))      // free
	if b != 64 || g != 256 || h != 768 {
		t.Fatal("blocks are at", b, g, h)
	}
	for at, want := range map[int]api.Fault{
		0: api.FaultDouble, 1: api.FaultNever, 56: api.FaultNever, 63: api.FaultNever,
		64: api.FaultNone, 65: api.FaultInside, 119: api.FaultInside, 120: api.FaultInside, 127: api.FaultInside,
		128: api.FaultNever, 192: api.FaultNever, 255: api.FaultNever,
		256: api.FaultNone, 257: api.FaultInside, 511: api.FaultInside, 512: api.FaultInside, 555: api.FaultInside, 556: api.FaultInside, 760: api.FaultInside, 767: api.FaultInside,
		768: api.FaultDouble, 769: api.FaultNever, 1023: api.FaultNever, 1024: api.FaultNever, 1535: api.FaultNever,
		1536: api.FaultManaged, 1792: api.FaultManaged, 2047: api.FaultManaged,
		2048: api.FaultOutside, 2049: api.FaultOutside, 65536: api.FaultOutside, greatest: api.FaultOutside, -1: api.FaultOutside, -64: api.FaultOutside, -256: api.FaultOutside, least: api.FaultOutside,
	} {
		faultIs(t, l, at, want)
	}
	against(t, r, l, w)
}

// P10.1: the ends of regions of one sort alone.
func TestFaultsOfOneRegionAlone(t *testing.T) {
	_, l, _ := made(t, 1, 0)
	for at, want := range map[int]api.Fault{-1: api.FaultOutside, 0: api.FaultNever, 255: api.FaultNever, 256: api.FaultOutside} {
		faultIs(t, l, at, want)
	}
	_, l, _ = made(t, 0, 1)
	for at, want := range map[int]api.Fault{-1: api.FaultOutside, 0: api.FaultManaged, 255: api.FaultManaged, 256: api.FaultOutside} {
		faultIs(t, l, at, want)
	}
	_, l, _ = made(t, 255, 1)
	for at, want := range map[int]api.Fault{65279: api.FaultNever, 65280: api.FaultManaged, 65535: api.FaultManaged, 65536: api.FaultOutside} {
		faultIs(t, l, at, want)
	}
}

// P10.1: a slot's faults through its states, at each of its bytes, of each class.
func TestFaultsOfASlot(t *testing.T) {
	for class, size := range []int{16, 32, 64, 128} {
		r, l, w := made(t, 2, 1)
		p := open(t, r, class)
		faultIs(t, l, 0, api.FaultNever)
		at := take(t, r, p)
		for range 2 {
			faultIs(t, l, at, api.FaultNone)
			faultIs(t, l, at+size-1, api.FaultInside)
			faultIs(t, l, at+size, api.FaultNever)
			against(t, r, l, w)
			took(t, r, l, w, at)
		}
		drop(t, r, l, w, at)
		against(t, r, l, w)
		do(t, r.Give(at))
		against(t, r, l, w)
		do(t, r.Shut(p))
		against(t, r, l, w)
		faultIs(t, l, at, api.FaultDouble)
	}
}

// P10.1: Took of all addresses: it is told of live blocks' first bytes alone.
func TestTookOfEachAddress(t *testing.T) {
	r, l, w := made(t, 5, 1)
	open(t, r, 1)
	take(t, r, 0)
	take(t, r, 0)
	great(t, r, 300)
	drop(t, r, l, w, 0)
	for at := range 5 * 256 {
		if at != 32 && at != 256 {
			dropped(t, r, l, w, at)
		}
	}
	for at := -300; at < 6*256+300; at++ {
		if at != 32 && at != 256 {
			took(t, r, l, w, at)
		}
	}
	for _, at := range w.ends() {
		took(t, r, l, w, at)
	}
	against(t, r, l, w)
	took(t, r, l, w, 32)
	against(t, r, l, w)
	took(t, r, l, w, 256)
	against(t, r, l, w)
	took(t, r, l, w, 256)
	against(t, r, l, w)
	if n := len(l.Gone()); n != 5*256-32-512 {
		t.Error("gone are", n)
	}
}

// P10.1: of a slot that covers several addresses that are gone, and of its neighbours', just those among its bytes come back.
func TestTookOfASlotOverSmallOnes(t *testing.T) {
	for class, size := range []int{16, 32, 64, 128} {
		r, l, w := made(t, 1, 0)
		open(t, r, 0)
		for range 16 {
			take(t, r, 0)
		}
		for k := range 16 {
			drop(t, r, l, w, k*16)
			do(t, r.Give(k*16))
		}
		do(t, r.Shut(0))
		if len(l.Gone()) != 16 {
			t.Fatal("Gone is", l.Gone())
		}
		open(t, r, class)
		take(t, r, 0)
		against(t, r, l, w)
		took(t, r, l, w, 0)
		against(t, r, l, w)
		if g := l.Gone(); len(g) != 16-size/16 || g[0] != size {
			t.Errorf("behind a block of %d bytes Gone is %v", size, g)
		}
	}
}

// P10.1: a great block covers all bytes of its pages, and none beside them.
func TestTookOfAGreatBlock(t *testing.T) {
	for _, n := range []int{121, 200, 247, 248, 249, 300, 504, 505, 4088, 4089, 4096} {
		r, l, w := made(t, 19, 1)
		for at := range 19 * 256 {
			dropped(t, r, l, w, at)
		}
		open(t, r, 3)
		at := great(t, r, n)
		took(t, r, l, w, at)
		against(t, r, l, w)
		run := (n + 8 + 255) / 256
		if g := l.Gone(); len(g) != (19-run)*256 || slices.Contains(g, 256) || slices.Contains(g, 255+run*256) || !slices.Contains(g, 255) || !slices.Contains(g, 256+run*256) {
			t.Errorf("behind a block of %d bytes %d addresses are gone", n, len(g))
		}
	}
}

// P10.1: great blocks that went, with one over both of them, and small ones in their place.
func TestTookOverGreatBlocks(t *testing.T) {
	r, l, w := made(t, 4, 0)
	a, b := great(t, r, 300), great(t, r, 400)
	drop(t, r, l, w, a)
	drop(t, r, l, w, b)
	against(t, r, l, w)
	took(t, r, l, w, great(t, r, 800))
	against(t, r, l, w)
	if len(l.Gone()) != 0 {
		t.Error("Gone is", l.Gone())
	}
	drop(t, r, l, w, 0)
	open(t, r, 0)
	against(t, r, l, w)
	faultIs(t, l, 0, api.FaultDouble)
	took(t, r, l, w, take(t, r, 0))
	against(t, r, l, w)
	if len(l.Gone()) != 0 {
		t.Error("Gone is", l.Gone())
	}
}

// P10.1: Dropped of all addresses, of live blocks, of what is no block's, of managed ones, twice.
func TestDroppedOfEachAddress(t *testing.T) {
	r, l, w := made(t, 4, 2)
	open(t, r, 2)
	live, held := take(t, r, 0), take(t, r, 0)
	_, e := r.Drop(held)
	do(t, e)
	g := great(t, r, 300)
	r.Pages().Map(4, 6, pages.Row{Kind: api.Managed, Class: 1, Run: 1})
	for range 2 {
		for at := -300; at < 6*256+300; at++ {
			dropped(t, r, l, w, at)
		}
		for _, at := range w.ends() {
			dropped(t, r, l, w, at)
		}
		against(t, r, l, w)
	}
	for at, want := range map[int]api.Errno{
		live: api.ErrState, g: api.ErrState, live + 1: api.OK, held: api.OK, 255: api.OK, g + 1: api.OK, g + 511: api.OK, 1023: api.OK,
		1024: api.ErrRange, 1535: api.ErrRange, 1536: api.ErrRange, -1: api.ErrRange, least: api.ErrRange, greatest: api.ErrRange,
	} {
		if e := l.Dropped(at); e != want {
			t.Errorf("Dropped(%d) is %d, not %d", at, e, want)
		}
	}
	if n := len(l.Gone()); n != 4*256-2 {
		t.Error("gone are", n)
	}
}

// P10.1: what lies within a live block is inside of it, though it is gone; it is gone still when the block goes.
func TestGoneWithinALiveBlock(t *testing.T) {
	r, l, w := made(t, 2, 0)
	at := great(t, r, 300)
	dropped(t, r, l, w, at+16)
	faultIs(t, l, at+16, api.FaultInside)
	drop(t, r, l, w, at)
	faultIs(t, l, at+16, api.FaultDouble)
	against(t, r, l, w)
	great(t, r, 200)
	faultIs(t, l, at+16, api.FaultInside) // nobody has told of this one
	took(t, r, l, w, at)
	drop(t, r, l, w, at)
	faultIs(t, l, at+16, api.FaultNever)
	against(t, r, l, w)
}

// P10.1: Gone rises, in whatever order blocks went.
func TestGoneRises(t *testing.T) {
	r, l, w := made(t, 256, 0)
	for i := range 4096 {
		at := i * 2731 % 4096 * 16
		do(t, l.Dropped(at))
		w.gone[at] = true
	}
	g := l.Gone()
	for i, at := range g {
		if at != i*16 {
			t.Fatal("Gone has", at, "at", i)
		}
	}
	if len(g) != 4096 || len(r.Live()) != 0 {
		t.Error("gone are", len(g))
	}
}

// P10.1, P10.2: what is written into an answer, or appended to it, is seen by no later one.
func TestAnswersAreNewMemory(t *testing.T) {
	r, l, w := made(t, 1, 0)
	for _, at := range []int{16, 48, 80} {
		dropped(t, r, l, w, at)
		l.Note(1, at, api.FaultNever)
		w.reports = append(w.reports, Report{1, at, api.FaultNever})
	}
	g, n := l.Gone(), l.Reports()
	_, _ = append(g[:1], 7), append(n[:1], Report{9, 9, 9})
	g[0], n[0] = 8, Report{8, 8, 8}
	against(t, r, l, w)
	n = l.Reports()
	l.Note(2, 3, api.FaultInside)
	w.reports = append(w.reports, Report{2, 3, api.FaultInside})
	_ = append(n, Report{7, 7, 7})
	against(t, r, l, w)
}

// P10.2: reports as they came, of all threads, addresses and faults that may be and may not be, but of FaultNone.
func TestNote(t *testing.T) {
	r, l, w := made(t, 1, 1)
	numbers := []int{least, -1, 0, 1, 63, 64, 256, 512, greatest}
	for _, thread := range numbers {
		for _, at := range numbers {
			for f := api.FaultNone; f <= api.FaultDouble; f++ {
				l.Note(thread, at, f)
				if f != api.FaultNone {
					w.reports = append(w.reports, Report{thread, at, f})
				}
			}
		}
	}
	for _, f := range []api.Fault{-1, 6, least, greatest} {
		l.Note(1, 1, f)
		w.reports = append(w.reports, Report{1, 1, f})
	}
	l.Note(1, 1, api.FaultNever)
	l.Note(1, 1, api.FaultNever) // the same one again is one more
	w.reports = append(w.reports, Report{1, 1, api.FaultNever}, Report{1, 1, api.FaultNever})
	against(t, r, l, w)
	if len(l.Gone()) != 0 || len(r.Live()) != 0 {
		t.Error("Note changes more than reports")
	}
}

// P10.2: 4096 reports, and no more; those of FaultNone aren't counted.
func TestMostReports(t *testing.T) {
	r, l, w := made(t, 1, 0)
	for i := range 5000 {
		l.Note(i%64, i, api.FaultNone)
		l.Note(i%64, i, api.FaultDouble)
		if i < 4096 {
			w.reports = append(w.reports, Report{i % 64, i, api.FaultDouble})
		}
		if i > 4090 && i < 4100 {
			against(t, r, l, w)
		}
	}
	against(t, r, l, w)
	if len(l.Reports()) != 4096 {
		t.Error("Reports has", len(l.Reports()))
	}
	dropped(t, r, l, w, 16) // the ledger goes on
	against(t, r, l, w)
}

// P10.1: what is refused changes nothing.
func TestRefusedCallsChangeNothing(t *testing.T) {
	r, l, w := made(t, 2, 1)
	open(t, r, 1)
	take(t, r, 0)
	at := take(t, r, 0)
	drop(t, r, l, w, at)
	dropped(t, r, l, w, 3)
	for _, x := range []int{least, -1, 1, 3, at, at + 1, 64, 511, 512, 768, greatest} {
		if e := l.Took(x); e != api.ErrNone {
			t.Errorf("Took(%d) is %d", x, e)
		}
		against(t, r, l, w)
	}
	for _, x := range []int{least, -1, 0, 512, 513, 767, 768, greatest} {
		if e := l.Dropped(x); e == api.OK {
			t.Errorf("Dropped(%d) is %d", x, e)
		}
		against(t, r, l, w)
	}
}

// Two ledgers of one region know each what it was told.
func TestTwoLedgers(t *testing.T) {
	r, l, w := made(t, 1, 0)
	o := New(r)
	dropped(t, r, l, w, 16)
	l.Note(0, 16, api.FaultDouble)
	w.reports = append(w.reports, Report{0, 16, api.FaultDouble})
	against(t, r, l, w)
	if len(o.Gone()) != 0 || len(o.Reports()) != 0 || o.Fault(16) != api.FaultNever {
		t.Error("Gone, Reports, Fault are", o.Gone(), o.Reports(), o.Fault(16))
	}
}

// history is what became of each address of a region, apart from any ledger.
type history struct {
	was  map[int]bool  // it was a block's, and nobody has had its place since
	live map[int]block // blocks by their first bytes
}

// gave: a block has the place of all that were there.
func (h *history) gave(b block) {
	h.live[b.lo] = b
	for at := b.lo; at < b.hi; at++ {
		delete(h.was, at)
	}
}

// went: a block is live no more.
func (h *history) went(at int) {
	delete(h.live, at)
	h.was[at] = true
}

// exact holds the faults of all addresses of the manual region against a history.
func (h *history) exact(t *testing.T, l *Ledger, manual int) {
	t.Helper()
	for at := range manual {
		f := l.Fault(at)
		if _, live := h.live[at]; live != (f == api.FaultNone) {
			t.Fatalf("Fault(%d) is %d, live: %v", at, f, live)
		}
		if h.was[at] != (f == api.FaultDouble) {
			t.Fatalf("Fault(%d) is %d, gone: %v", at, f, h.was[at])
		}
	}
}

// step does one call of the region, told to the ledger and to the history.
func (h *history) step(t *testing.T, r *region.Region, l *Ledger, x int) {
	t.Helper()
	n := r.Pages().Len()
	before := r.Live()
	at, e := -1, api.ErrNone
	switch x % 8 {
	case 0:
		r.Open(x/8%4, x/32%3)
	case 1, 2:
		at, e = r.Take(x / 8 % n)
	case 3:
		at, e = r.Great(121 + x/8%900)
	case 4, 5:
		if len(before) > 0 {
			p := before[x/8%len(before)].Base
			_, e := r.Drop(p)
			do(t, e)
			do(t, l.Dropped(p))
			h.went(p)
		}
	case 6:
		for p := x / 8 % 16; p < n*16; p += 3 {
			r.Give(p * 16)
		}
	case 7:
		r.Shut(x / 8 % n)
	}
	if e == api.OK {
		do(t, l.Took(at))
		b, _ := over(r, at)
		h.gave(b)
	}
}

// P10.3: told of each block that is given and dropped, the ledger is exact.
func TestExact(t *testing.T) {
	for i, x := range [][2]int{{1, 0}, {2, 1}, {4, 0}, {9, 2}} {
		for seed := range 3 {
			r, l, w := made(t, x[0], x[1])
			h := &history{was: map[int]bool{}, live: map[int]block{}}
			for k := range 1500 {
				h.step(t, r, l, int(link.New(uint64(i*10+seed)<<32+uint64(k)).Key>>1))
				if k%7 == 0 {
					h.exact(t, l, w.manual)
				}
			}
			h.exact(t, l, w.manual)
			if len(l.Gone()) != len(h.was) {
				t.Error("Gone is", l.Gone())
			}
		}
	}
}

// P10.1: Took and Dropped in any order, and of any address, over a region that goes on: held against the words byte by byte.
func TestLongSequencesOfCalls(t *testing.T) {
	for seed := range 3 {
		r, l, w := made(t, 5, 1)
		h := &history{was: map[int]bool{}, live: map[int]block{}}
		told := New(r) // the region's calls are told to another one
		for k := range 1200 {
			x := int(link.New(uint64(100+seed)<<32+uint64(k)).Key >> 1)
			h.step(t, r, told, x)
			took(t, r, l, w, x>>8%100*16)
			dropped(t, r, l, w, x>>16%1700-100)
			if live := r.Live(); len(live) > 0 {
				took(t, r, l, w, live[x>>30%len(live)].Base)
				dropped(t, r, l, w, live[x>>30%len(live)].Base)
			}
			if k%40 == 0 {
				against(t, r, l, w)
			}
		}
		against(t, r, l, w)
	}
}
