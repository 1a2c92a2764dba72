package pages

import (
	"math"
	"testing"

	"tumbrel/api"
)

const (
	least    = math.MinInt64
	greatest = math.MaxInt64
)

// ends: numbers of pages at, around and far beyond the ends of a table of ten.
func ends() []int {
	return []int{least, least + 1, -256, -10, -1, 0, 1, 2, 5, 8, 9, 10, 11, 255, 256, 257, 1 << 31, 1 << 32, greatest - 1, greatest}
}

// rows: what pages may become, of each kind.
func rows() []Row {
	return []Row{
		{Kind: api.Slab, Class: 2, Owner: 63, Run: 1}, {Kind: api.Large, Run: 2}, {Kind: api.Managed, Class: 3, Run: 1},
		{Kind: api.Slab, Class: least, Owner: greatest, Run: 3}, {Kind: api.Managed, Class: -1, Owner: -1, Run: 4},
	}
}

// against holds all that can be asked of a table against a list of rows.
func against(t *testing.T, x *Table, want []Row) {
	t.Helper()
	if x.Len() != len(want) {
		t.Fatalf("Len is %d, not %d", x.Len(), len(want))
	}
	head := 0
	for i, r := range want {
		if x.Row(i) != r {
			t.Fatalf("Row(%d) is %v, not %v", i, x.Row(i), r)
		}
		if r.Kind != api.Tail {
			head = i
		}
		wantHead, wantOK := head, true
		if r.Kind == api.Free {
			wantHead, wantOK = 0, false
		}
		if h, ok := x.Head(i); h != wantHead || ok != wantOK {
			t.Fatalf("Head(%d) is %d, %v, not %d, %v", i, h, ok, wantHead, wantOK)
		}
	}
}

// count is how many rows from lo up to but not hi are of a kind, and how many free ones stand behind one another, asked one by one.
func count(l []Row, lo, hi, kind int) (int, int) {
	c, n, most := 0, 0, 0
	for i, r := range l {
		if i < lo || i >= hi {
			continue
		}
		if r.Kind == kind {
			c++
		}
		if n++; r.Kind != api.Free {
			n = 0
		}
		most = max(most, n)
	}
	return c, most
}

// place is where the first run of free rows of that length begins, from lo up to but not hi, tried one by one.
func place(l []Row, lo, hi, run int) (int, bool) {
	for at := range l {
		end := at + run
		if at < lo || end > hi || end > len(l) {
			continue
		}
		if c, _ := count(l, at, end, api.Free); c == run {
			return at, true
		}
	}
	return 0, false
}

// lay makes rows from at on r's.
func lay(l []Row, at int, r Row) {
	for i := range r.Run {
		l[at+i] = Row{Kind: api.Tail}
	}
	l[at] = r
}

// bounded holds Count and Longest within all bounds against a list.
func bounded(t *testing.T, x *Table, want []Row, bounds []int) {
	t.Helper()
	for _, lo := range bounds {
		for _, hi := range bounds {
			for kind := -1; kind <= 5; kind++ {
				c, most := count(want, lo, hi, kind)
				if n := x.Count(lo, hi, kind); n != c {
					t.Fatalf("Count(%d, %d, %d) is %d, not %d", lo, hi, kind, n, c)
				}
				if n := x.Longest(lo, hi); n != most {
					t.Fatalf("Longest(%d, %d) is %d, not %d", lo, hi, n, most)
				}
			}
		}
	}
}

// mixed is a table of ten pages: free, a Slab, free, a Large of 3, free, free, a Managed, free.
func mixed(t *testing.T) (*Table, []Row) {
	t.Helper()
	x, l := New(10), make([]Row, 10)
	for _, c := range []struct {
		at int
		r  Row
	}{{1, Row{api.Slab, 2, 5, 1}}, {3, Row{api.Large, 0, 0, 3}}, {8, Row{api.Managed, 1, 0, 1}}} {
		if at, e := x.Map(c.at, 10, c.r); at != c.at || e != api.OK {
			t.Fatalf("Map from %d is %d, %d", c.at, at, e)
		}
		lay(l, c.at, c.r)
	}
	return x, l
}

func TestNilTable(t *testing.T) {
	var x *Table
	if x.Len() != 0 || x.Copy() != nil {
		t.Error("it has pages", x.Len(), x.Copy())
	}
	for _, i := range ends() {
		if x.Row(i) != (Row{}) {
			t.Errorf("Row(%d) is %v", i, x.Row(i))
		}
		if e := x.Unmap(i); e != api.ErrNil {
			t.Errorf("Unmap(%d) is %d", i, e)
		}
		if h, ok := x.Head(i); h != 0 || ok {
			t.Errorf("Head(%d) is %d, %v", i, h, ok)
		}
		for _, k := range ends() {
			for _, r := range append(rows(), Row{}, Row{Kind: api.Tail, Run: 1}) {
				if at, e := x.Map(i, k, r); at != 0 || e != api.ErrNil {
					t.Errorf("Map(%d, %d, %v) is %d, %d", i, k, r, at, e)
				}
			}
			if x.Count(i, k, api.Free) != 0 || x.Longest(i, k) != 0 {
				t.Errorf("there are pages from %d up to %d", i, k)
			}
		}
	}
	if !Same(nil, nil) || !Same(nil, New(0)) || !Same(New(0), nil) || !Same(&Table{}, nil) {
		t.Error("it is not the same as a table without pages")
	}
	if Same(nil, New(1)) || Same(New(1), nil) {
		t.Error("it is the same as a table with a page")
	}
}

// P4.1.
func TestNewHoldsItsLength(t *testing.T) {
	for _, c := range []struct{ n, want int }{
		{least, 0}, {-256, 0}, {-1, 0}, {0, 0}, {1, 1}, {2, 2}, {255, 255}, {256, 256}, {257, 256}, {1 << 40, 256}, {greatest, 256},
	} {
		x := New(c.n)
		if x == nil {
			t.Fatalf("New(%d) is nil", c.n)
		}
		against(t, x, make([]Row, c.want))
		if x.Count(0, 256, api.Free) != c.want || x.Longest(0, 256) != c.want {
			t.Errorf("New(%d) has not so many free pages", c.n)
		}
	}
}

// P4.1, P4.2, P4.3: pages that there are not.
func TestPagesBeyondTheEnds(t *testing.T) {
	x, want := mixed(t)
	for _, at := range ends() {
		if at >= 0 && at < 10 {
			continue
		}
		if x.Row(at) != (Row{}) {
			t.Errorf("Row(%d) is %v", at, x.Row(at))
		}
		if h, ok := x.Head(at); h != 0 || ok {
			t.Errorf("Head(%d) is %d, %v", at, h, ok)
		}
		if e := x.Unmap(at); e != api.ErrNone {
			t.Errorf("Unmap(%d) is %d", at, e)
		}
	}
	against(t, x, want)
}

// P4.2.
func TestMapOfEachKind(t *testing.T) {
	for _, r := range rows() {
		x, want := New(10), make([]Row, 10)
		at, e := x.Map(3, 10, r)
		if at != 3 || e != api.OK {
			t.Errorf("Map of %v is %d, %d", r, at, e)
		}
		lay(want, 3, r)
		against(t, x, want)
		bounded(t, x, want, ends())
	}
}

// P4.2: what may not be is told, also where there is no room, and nothing is done.
func TestMapOfWhatMayNotBe(t *testing.T) {
	x, want := mixed(t)
	for _, n := range ends() {
		for _, hi := range []int{0, 10} {
			if n != api.Slab && n != api.Large && n != api.Managed {
				if at, e := x.Map(0, hi, Row{Kind: n, Run: 1}); at != 0 || e != api.ErrArg {
					t.Errorf("Map of kind %d is %d, %d", n, at, e)
				}
			}
			if n < 1 || n > 256 {
				if at, e := x.Map(0, hi, Row{Kind: api.Large, Run: n}); at != 0 || e != api.ErrArg {
					t.Errorf("Map of Run %d is %d, %d", n, at, e)
				}
			}
		}
	}
	for _, kind := range []int{api.Free, api.Tail} {
		if at, e := x.Map(0, 10, Row{kind, 1, 2, 1}); at != 0 || e != api.ErrArg {
			t.Errorf("Map of kind %d is %d, %d", kind, at, e)
		}
	}
	against(t, x, want)
}

// P4.2: all bounds, all lengths.
func TestMapTakesTheFirstPagesWithinBounds(t *testing.T) {
	for _, lo := range ends() {
		for _, hi := range ends() {
			for _, run := range []int{1, 2, 3, 4, 10, 11, 255, 256} {
				x, want := mixed(t)
				r := Row{api.Large, 7, 8, run}
				at, ok := place(want, lo, hi, run)
				wantE := api.ErrFull
				if ok {
					wantE = api.OK
					lay(want, at, r)
				}
				if got, e := x.Map(lo, hi, r); got != at || e != wantE {
					t.Errorf("Map(%d, %d) of %d is %d, %d, not %d, %d", lo, hi, run, got, e, at, wantE)
				}
				against(t, x, want)
			}
		}
	}
}

// P4.2.
func TestMapOfAllPages(t *testing.T) {
	x, want := New(256), make([]Row, 256)
	r := Row{api.Managed, 1, 2, 256}
	if at, e := x.Map(least, greatest, r); at != 0 || e != api.OK {
		t.Error("Map of all pages is", at, e)
	}
	lay(want, 0, r)
	against(t, x, want)
	if at, e := x.Map(0, 256, Row{Kind: api.Slab, Run: 1}); at != 0 || e != api.ErrFull {
		t.Error("Map behind that is", at, e)
	}
	if x.Longest(0, 256) != 0 || x.Count(0, 256, api.Tail) != 255 {
		t.Error("Longest, Tails are", x.Longest(0, 256), x.Count(0, 256, api.Tail))
	}
	if at, e := New(255).Map(0, 256, r); at != 0 || e != api.ErrFull {
		t.Error("Map of more pages than there are is", at, e)
	}
	if e := x.Unmap(0); e != api.OK || !Same(x, New(256)) {
		t.Error("Unmap is", e)
	}
}

// P4.2: of each page, first ones, Tails, free ones.
func TestUnmap(t *testing.T) {
	for at := range 10 {
		x, want := mixed(t)
		wantE := api.ErrNone
		if r := want[at]; r.Kind != api.Free && r.Kind != api.Tail {
			wantE = api.OK
			clear(want[at : at+r.Run])
		}
		for range 2 {
			if e := x.Unmap(at); e != wantE {
				t.Errorf("Unmap(%d) is %d, not %d", at, e, wantE)
			}
			against(t, x, want)
			wantE = api.ErrNone
		}
	}
}

// P4.3: the chapter's example.
func TestHeadOfATail(t *testing.T) {
	x := New(4)
	if at, e := x.Map(1, 4, Row{Kind: api.Large, Run: 2}); at != 1 || e != api.OK {
		t.Error("Map is", at, e)
	}
	if h, ok := x.Head(2); h != 1 || !ok {
		t.Error("Head(2) is", h, ok)
	}
	if x.Longest(0, 4) != 1 {
		t.Error("Longest is", x.Longest(0, 4))
	}
}

// P4.3: two that stand behind one another are two.
func TestHeadOfNeighbours(t *testing.T) {
	x, want := New(7), make([]Row, 7)
	for i, run := range []int{2, 1, 3, 1} {
		r := Row{api.Large, i, i, run}
		at, e := x.Map(0, 7, r)
		if e != api.OK {
			t.Fatal("Map is", e)
		}
		lay(want, at, r)
		against(t, x, want)
	}
	x.Unmap(2)
	want[2] = Row{}
	against(t, x, want)
}

// P4.3.
func TestCountAndLongestWithinBounds(t *testing.T) {
	x, want := mixed(t)
	bounds := ends()
	for i := range 12 {
		bounds = append(bounds, i)
	}
	bounded(t, x, want, bounds)
	bounded(t, New(0), nil, ends())
	bounded(t, New(10), make([]Row, 10), ends())
	for _, kind := range []int{least, greatest, 6, 256} {
		if x.Count(0, 10, kind) != 0 {
			t.Errorf("Count of kind %d is %d", kind, x.Count(0, 10, kind))
		}
	}
}

// P4.3.
func TestCopyHasNothingInCommon(t *testing.T) {
	x, want := mixed(t)
	c := x.Copy()
	if c == nil || c == x || !Same(c, x) || !Same(x, c) {
		t.Fatal("Copy is not the same")
	}
	c.Unmap(3)
	c.Map(0, 10, Row{Kind: api.Slab, Run: 1})
	against(t, x, want)
	d := x.Copy()
	x.Unmap(1)
	x.Unmap(3)
	x.Unmap(8)
	against(t, d, want)
	if e := New(0).Copy(); e == nil || e.Len() != 0 {
		t.Error("Copy of a table without pages is", e)
	}
}

// P4.3.
func TestSame(t *testing.T) {
	one := func(n, at int, r Row) *Table {
		x := New(n)
		x.Map(at, n, r)
		return x
	}
	r := Row{api.Slab, 1, 2, 2}
	l := []*Table{
		New(0), New(1), New(5), New(6), one(6, 0, r), one(6, 1, r), one(5, 0, r),
		one(6, 0, Row{api.Large, 1, 2, 2}), one(6, 0, Row{api.Slab, 0, 2, 2}), one(6, 0, Row{api.Slab, 1, 3, 2}),
		one(6, 0, Row{api.Slab, 1, 2, 1}), one(6, 0, Row{api.Slab, 1, 2, 3}),
	}
	for i, a := range l {
		for k, b := range l {
			if Same(a, b) != (i == k) {
				t.Errorf("tables %d and %d: Same is %v", i, k, Same(a, b))
			}
			if Same(a, b.Copy()) != (i == k) {
				t.Errorf("tables %d and a Copy of %d: Same is %v", i, k, i != k)
			}
		}
	}
}

// P4.4: what is mapped and unmapped leaves all as it was, in whatever order it goes.
func TestMapAndUnmapLeaveNothing(t *testing.T) {
	for _, back := range []bool{false, true} {
		x, want := mixed(t)
		var heads []int
		for _, run := range []int{2, 1, 1, 1} {
			at, e := x.Map(0, 10, Row{api.Large, 3, 4, run})
			if e != api.OK {
				t.Fatal("Map is", e)
			}
			heads = append(heads, at)
		}
		if x.Longest(0, 10) != 0 {
			t.Error("there are free pages", x.Longest(0, 10))
		}
		for i := range heads {
			if back {
				i = len(heads) - 1 - i
			}
			if e := x.Unmap(heads[i]); e != api.OK {
				t.Errorf("Unmap(%d) is %d", heads[i], e)
			}
		}
		against(t, x, want)
	}
}

// P4.2, P4.3, P4.4: long changes against a list; Map finds a place just if Longest is not below its Run.
func TestLongChanges(t *testing.T) {
	const n = 40
	x, want := New(n), make([]Row, n)
	s := uint64(1)
	next := func(n int) int {
		s = s*6364136223846793005 + 1442695040888963407
		return int(s>>33) % n
	}
	kinds := []int{api.Slab, api.Large, api.Managed}
	for range 6000 {
		lo, hi := next(n+4)-2, next(n+4)-2
		if next(3) == 0 {
			at := next(n)
			wantE := api.ErrNone
			if r := want[at]; r.Run > 0 {
				wantE = api.OK
				clear(want[at : at+r.Run])
			}
			if e := x.Unmap(at); e != wantE {
				t.Fatalf("Unmap(%d) is %d, not %d", at, e, wantE)
			}
		} else {
			r := Row{kinds[next(3)], next(4), next(64), 1 + next(6)}
			longest := x.Longest(lo, hi)
			wantAt, ok := place(want, lo, hi, r.Run)
			at, e := x.Map(lo, hi, r)
			if at != wantAt || (e == api.OK) != ok || (longest >= r.Run) != ok || !ok && e != api.ErrFull {
				t.Fatalf("Map(%d, %d) of %d is %d, %d, not %d, %v; Longest was %d", lo, hi, r.Run, at, e, wantAt, ok, longest)
			}
			if ok {
				lay(want, at, r)
			}
		}
		against(t, x, want)
		bounded(t, x, want, []int{lo, hi, 0, n})
	}
}
