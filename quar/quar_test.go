package quar

import (
	"math"
	"slices"
	"testing"

	"tumbrel/link"
)

const (
	least    = math.MinInt64
	greatest = math.MaxInt64
)

// want is what has to wait: at most so many, the one that has waited longest first.
type want struct {
	most int
	l    []int
}

func (w *want) put(at int) (int, bool) {
	w.l = append(w.l, at)
	if len(w.l) > w.most {
		return w.take()
	}
	return 0, false
}

func (w *want) take() (int, bool) {
	if len(w.l) == 0 {
		return 0, false
	}
	at := w.l[0]
	w.l = w.l[1:]
	return at, true
}

// mosts: what New is given, and how many may wait then.
func mosts() map[int]int {
	return map[int]int{
		least: 0, least + 1: 0, -1 << 32: 0, -65: 0, -64: 0, -2: 0, -1: 0, 0: 0,
		1: 1, 2: 2, 3: 3, 31: 31, 32: 32, 62: 62, 63: 63, 64: 64,
		65: 64, 66: 64, 127: 64, 128: 64, 256: 64, 1 << 31: 64, 1 << 32: 64, 1<<32 + 1: 64, greatest - 1: 64, greatest: 64,
	}
}

// oddly: addresses that no arena has, and those at an arena's ends.
func oddly() []int {
	return []int{least, least + 1, -1 << 32, -65536, -256, -16, -1, 0, 1, 16, 255, 65535, 65536, 1 << 32, greatest - 1, greatest}
}

// made is one in which at most so many wait, and what has to wait in it.
func made(t *testing.T, most int) (*Quar, *want) {
	t.Helper()
	q := New(most)
	if q == nil {
		t.Fatalf("New(%d) is nil", most)
	}
	return q, &want{most: min(max(most, 0), 64)}
}

// against holds all that can be asked against what has to wait; those in seen may wait no more.
func against(t *testing.T, q *Quar, w *want, seen ...int) {
	t.Helper()
	if n := q.Len(); n != len(w.l) {
		t.Fatalf("of at most %d Len is %d, not %d", w.most, n, len(w.l))
	}
	if l := q.All(); !slices.Equal(l, w.l) {
		t.Fatalf("of at most %d All is %v, not %v", w.most, l, w.l)
	}
	for _, at := range slices.Concat(w.l, seen, oddly()) {
		if has := q.Has(at); has != slices.Contains(w.l, at) {
			t.Fatalf("of at most %d Has(%d) is %v; All is %v", w.most, at, has, w.l)
		}
	}
}

// put puts an address, as has to be answered; so does take.
func put(t *testing.T, q *Quar, w *want, at int) {
	t.Helper()
	x, ok := q.Put(at)
	if wx, wok := w.put(at); x != wx || ok != wok {
		t.Fatalf("of at most %d Put(%d) is %d, %v, not %d, %v", w.most, at, x, ok, wx, wok)
	}
}

func take(t *testing.T, q *Quar, w *want) {
	t.Helper()
	x, ok := q.Take()
	if wx, wok := w.take(); x != wx || ok != wok {
		t.Fatalf("of at most %d Take is %d, %v, not %d, %v", w.most, x, ok, wx, wok)
	}
}

// putIs puts an address, as is written out; so does takeIs.
func putIs(t *testing.T, q *Quar, at, want int, out bool) {
	t.Helper()
	if x, ok := q.Put(at); x != want || ok != out {
		t.Errorf("Put(%d) is %d, %v, not %d, %v", at, x, ok, want, out)
	}
}

func takeIs(t *testing.T, q *Quar, want int, out bool) {
	t.Helper()
	if x, ok := q.Take(); x != want || ok != out {
		t.Errorf("Take is %d, %v, not %d, %v", x, ok, want, out)
	}
}

func allIs(t *testing.T, q *Quar, want ...int) {
	t.Helper()
	if l := q.All(); !slices.Equal(l, want) || q.Len() != len(want) {
		t.Errorf("All is %v, Len %d, not %v", l, q.Len(), want)
	}
}

// drawn: numbers that are mixed of a seed.
func drawn(seed, k int) int { return int(link.New(uint64(seed)<<32+uint64(k)).Key >> 1) }

// A nil one.
func TestNilQuar(t *testing.T) {
	var q *Quar
	for range 2 {
		for _, at := range oddly() {
			putIs(t, q, at, 0, false)
			if q.Has(at) {
				t.Errorf("Has(%d)", at)
			}
		}
		takeIs(t, q, 0, false)
		allIs(t, q)
	}
}

// P1: one that nobody made ends all calls; none may wait in it.
func TestQuarThatNobodyMade(t *testing.T) {
	q, w := &Quar{}, &want{}
	against(t, q, w)
	take(t, q, w)
	for _, at := range oddly() {
		put(t, q, w, at)
		against(t, q, w)
	}
	take(t, q, w)
}

// The chapter's example.
func TestExample(t *testing.T) {
	q := New(2)
	putIs(t, q, 16, 0, false)
	putIs(t, q, 32, 0, false)
	putIs(t, q, 48, 16, true)
	allIs(t, q, 32, 48)
}

// P11.1: at most so many wait, the limit's own among them.
func TestNewHoldsItsLimit(t *testing.T) {
	if Most != 64 {
		t.Error("Most is", Most)
	}
	for most, may := range mosts() {
		q, w := made(t, most)
		against(t, q, w)
		takeIs(t, q, 0, false)
		for k := range may {
			putIs(t, q, 16*k+16, 0, false)
			if q.Len() != k+1 {
				t.Fatalf("of New(%d) wait %d, not %d", most, q.Len(), k+1)
			}
		}
		for k := range 2*may + 3 {
			putIs(t, q, 16*(may+k)+16, 16*k+16, true)
			if q.Len() != may {
				t.Fatalf("of New(%d) wait %d, not %d", most, q.Len(), may)
			}
		}
		for k := range may {
			takeIs(t, q, 16*(2*may+3+k)+16, true)
		}
		takeIs(t, q, 0, false)
		allIs(t, q)
	}
}

// P11.1: where none may wait, each one comes out as it goes in.
func TestPutWhereNoneMayWait(t *testing.T) {
	for _, most := range []int{0, -1, -64, least} {
		q := New(most)
		for _, at := range append(oddly(), 16, 16, 0, 0) {
			putIs(t, q, at, at, true)
			allIs(t, q)
			takeIs(t, q, 0, false)
			if q.Has(at) {
				t.Errorf("of New(%d) %d waits", most, at)
			}
		}
	}
}

// P11.1: into an empty one, into one that is all but full, and into one that is full, at each turn of the ring.
func TestPutAtEachFill(t *testing.T) {
	for _, most := range []int{1, 2, 3, 5, 62, 63, 64, 65} {
		for turn := range 130 {
			q, w := made(t, most)
			for k := range turn { // one waits at a time: the ring's first place moves on
				put(t, q, w, 8*k)
				take(t, q, w)
			}
			against(t, q, w, 0)
			for k := range w.most - 1 {
				put(t, q, w, 16*k+16)
			}
			against(t, q, w, 16*w.most)
			put(t, q, w, 16*w.most)
			against(t, q, w)
			put(t, q, w, 7)
			against(t, q, w, 16)
			take(t, q, w)
			against(t, q, w, 16, 32, 48)
			put(t, q, w, 9)
			put(t, q, w, 11)
			against(t, q, w, 16, 32, 48, 64)
		}
	}
}

// P11.1: addresses of any kind wait, come out and are answered as themselves; 0 with true is not 0 with false.
func TestAddressesOfAnyKind(t *testing.T) {
	q, w := made(t, 3)
	for range 3 {
		for _, at := range oddly() {
			put(t, q, w, at)
			against(t, q, w)
		}
	}
	for range 4 {
		take(t, q, w)
		against(t, q, w)
	}
	q = New(1)
	putIs(t, q, 0, 0, false)
	allIs(t, q, 0)
	putIs(t, q, 0, 0, true)
	allIs(t, q, 0)
	putIs(t, q, -1, 0, true)
	putIs(t, q, 5, -1, true)
	takeIs(t, q, 5, true)
	takeIs(t, q, 0, false)
}

// P11.1: an address that waits already waits once more.
func TestPutOfOneThatWaits(t *testing.T) {
	q := New(4)
	for range 3 {
		putIs(t, q, 16, 0, false)
	}
	allIs(t, q, 16, 16, 16)
	putIs(t, q, 32, 0, false)
	putIs(t, q, 16, 16, true)
	allIs(t, q, 16, 16, 32, 16)
	putIs(t, q, 32, 16, true)
	allIs(t, q, 16, 32, 16, 32)
	takeIs(t, q, 16, true)
	takeIs(t, q, 32, true)
	allIs(t, q, 16, 32)
}

// P11.1: Take of an empty one, till none waits, and behind the ring has gone round.
func TestTake(t *testing.T) {
	q := New(3)
	takeIs(t, q, 0, false)
	putIs(t, q, 16, 0, false)
	takeIs(t, q, 16, true)
	takeIs(t, q, 0, false)
	takeIs(t, q, 0, false)
	for k := range 300 { // the empty Takes above moved nothing
		putIs(t, q, k, 0, false)
		putIs(t, q, -k, 0, false)
		allIs(t, q, k, -k)
		takeIs(t, q, k, true)
		allIs(t, q, -k)
		takeIs(t, q, -k, true)
		takeIs(t, q, 0, false)
		allIs(t, q)
	}
}

// P11.1: a ring that goes round more than once, full all the time, and emptied at each of its places.
func TestRoundTheRing(t *testing.T) {
	for _, most := range []int{1, 2, 63, 64} {
		for fill := range 200 {
			q, w := made(t, most)
			for k := range fill {
				put(t, q, w, 16*k)
			}
			against(t, q, w, 0, 16, 16*fill)
			for range most + 2 {
				take(t, q, w)
			}
			against(t, q, w, 0, 16*fill, 16*fill-16)
			for k := range most + 1 {
				put(t, q, w, 16*k+8)
			}
			against(t, q, w, 8, 16*fill-16)
		}
	}
}

// P11.2: Has of one that waits once, twice, that went by Put and that went by Take.
func TestHas(t *testing.T) {
	q := New(3)
	hasIs := func(at int, want bool) {
		t.Helper()
		if q.Has(at) != want {
			t.Errorf("Has(%d) is %v; All is %v", at, !want, q.All())
		}
	}
	hasIs(0, false) // a place in which nothing was put yet is no address
	hasIs(16, false)
	q.Put(16)
	hasIs(16, true)
	hasIs(0, false)
	hasIs(15, false)
	hasIs(-16, false)
	q.Put(32)
	q.Put(16)
	hasIs(16, true)
	hasIs(32, true)
	q.Put(48) // the first 16 goes
	hasIs(16, true)
	q.Put(64) // 32 goes
	hasIs(32, false)
	hasIs(16, true)
	q.Put(80) // the other 16 goes
	hasIs(16, false)
	hasIs(48, true)
	takeIs(t, q, 48, true)
	hasIs(48, false)
	hasIs(64, true)
	takeIs(t, q, 64, true)
	takeIs(t, q, 80, true)
	for _, at := range []int{0, 16, 32, 48, 64, 80} {
		hasIs(at, false)
	}
	q.Put(0)
	hasIs(0, true)
	takeIs(t, q, 0, true)
	hasIs(0, false)
}

// P11.2: each one that waits is found, wherever in the ring it stands, and none beside.
func TestHasOfEachOne(t *testing.T) {
	for fill := range 200 {
		q, w := made(t, 64)
		for k := range fill {
			put(t, q, w, 16*k)
		}
		for k := range fill + 2 {
			if has, want := q.Has(16*k), k >= fill-64 && k < fill; has != want {
				t.Fatalf("behind %d Puts Has(%d) is %v", fill, 16*k, has)
			}
		}
	}
}

// P11.2: what is asked changes nothing.
func TestAsking(t *testing.T) {
	q, w := made(t, 2)
	for _, at := range []int{16, 32, 48} {
		put(t, q, w, at)
	}
	for range 5 {
		against(t, q, w, 16)
	}
	take(t, q, w)
	against(t, q, w, 16, 32)
	against(t, q, w, 16, 32)
}

// P11.2: what is written into an answer, or appended to it, is seen by no later one.
func TestAnswersAreNewMemory(t *testing.T) {
	for _, most := range []int{3, 64} {
		q, w := made(t, most)
		for _, at := range []int{16, 32, 48} {
			put(t, q, w, at)
		}
		a, b := q.All(), q.All()
		a[0], a[2] = 7, 9
		_ = append(a[:1], 8)
		_ = append(b, 8)
		if !slices.Equal(b, w.l) {
			t.Error("an answer is", b)
		}
		against(t, q, w, 7, 8, 9)
		put(t, q, w, 64)
		take(t, q, w)
		if !slices.Equal(b, []int{16, 32, 48}) {
			t.Error("an earlier answer is", b)
		}
		against(t, q, w, 7, 8, 9, 16)
	}
}

// Two of them have nothing in common.
func TestTwoOfThem(t *testing.T) {
	a, wa := made(t, 2)
	b, wb := made(t, 2)
	put(t, a, wa, 16)
	against(t, b, wb, 16)
	put(t, b, wb, 32)
	put(t, b, wb, 48)
	put(t, b, wb, 64)
	against(t, a, wa, 32, 48, 64)
	take(t, a, wa)
	against(t, b, wb, 16)
}

// P11.1, P11.2: all rows of nine calls, of small ones.
func TestAllShortRowsOfCalls(t *testing.T) {
	for most := range 4 {
		for row := range 19683 { // three kinds of calls, nine of them
			q, w := made(t, most)
			for k := range 9 {
				switch row % 3 {
				case 0:
					put(t, q, w, 16*k+16)
				case 1:
					put(t, q, w, 16)
				case 2:
					take(t, q, w)
				}
				row /= 3
			}
			against(t, q, w, 16, 32, 48)
		}
	}
}

// P11.3: addresses come out as they went in, by Put and by Take, and none is lost.
func TestOutAsTheyWentIn(t *testing.T) {
	for most, may := range mosts() {
		q := New(most)
		var in, out []int
		for k := range 2000 {
			x := drawn(most&63, k)
			at, ok := 0, false
			if x%5 < 3 {
				in = append(in, x>>8%4096*16) // some more than once
				at, ok = q.Put(in[len(in)-1])
			} else {
				at, ok = q.Take()
			}
			if ok {
				out = append(out, at)
			}
			if n := len(in) - len(out); n != q.Len() || n > may {
				t.Fatalf("of New(%d) wait %d of %d", most, q.Len(), n)
			}
		}
		if all := slices.Concat(out, q.All()); !slices.Equal(all, in) {
			t.Errorf("of New(%d) came out and wait %v; in went %v", most, all, in)
		}
		for range q.Len() {
			at, _ := q.Take()
			out = append(out, at)
		}
		if !slices.Equal(out, in) {
			t.Errorf("of New(%d) came out %v; in went %v", most, out, in)
		}
	}
}

// P11.1, P11.2: long rows of calls, in times of more Puts and of more Takes.
func TestLongRowsOfCalls(t *testing.T) {
	for i, most := range []int{0, 1, 2, 3, 7, 31, 62, 63, 64, 65, greatest} {
		q, w := made(t, most)
		for k := range 3000 {
			x := drawn(100+i, k)
			if x%8 < 2+k/100%5 {
				put(t, q, w, (x>>8%90-5)*16)
			} else {
				take(t, q, w)
			}
			if k%5 == 0 {
				against(t, q, w, (x>>8%90-5)*16)
			}
		}
	}
}
