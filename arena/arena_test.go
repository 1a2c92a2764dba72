package arena

import (
	"bytes"
	"math"
	"testing"

	"tumbrel/api"
)

const (
	least    = math.MinInt64
	greatest = math.MaxInt64
)

// filled is an arena of so many pages, of which hardly two neighbouring words are alike, and the same bytes.
func filled(t *testing.T, pages int) (*Arena, []byte) {
	t.Helper()
	a, b := New(pages), make([]byte, pages*256)
	for i := range b {
		b[i] = byte(i*7 + i/256*3 + 1)
	}
	if e := a.Store(0, b); e != api.OK {
		t.Fatal("Store of all bytes is", e)
	}
	return a, b
}

// against holds all of an arena's bytes against a list.
func against(t *testing.T, a *Arena, want []byte) {
	t.Helper()
	got, e := a.Load(0, a.Len())
	if e != api.OK || a.Len() != len(want) {
		t.Fatalf("Load of all %d bytes is %d, there are to be %d", a.Len(), e, len(want))
	}
	for i := range want {
		if got[i] != want[i] {
			t.Fatalf("byte %d is %02x, not %02x", i, got[i], want[i])
		}
	}
}

// ends: places and lengths around which something may go beyond the ends of an arena of two pages, or round.
func ends() []int {
	return []int{
		least, least + 1, least + 8, least + 511, least + 512, -512, -257, -256, -9, -8, -7, -1, 0, 1, 2, 7, 8, 9, 255, 256, 257,
		500, 503, 504, 505, 508, 511, 512, 513, 520, 1024, 1 << 31, 1 << 32, 1<<63 - 512, greatest - 512, greatest - 8, greatest - 7, greatest - 1, greatest,
	}
}

// fits is whether n bytes from at on lie within so many, reckoned so that nothing goes round.
func fits(at, n, size int) bool {
	return at >= 0 && n >= 0 && n <= size && at <= size-n
}

func TestNilArena(t *testing.T) {
	var a *Arena
	if a.Len() != 0 || a.Copy() != nil {
		t.Error("it has bytes", a.Len(), a.Copy())
	}
	for _, at := range ends() {
		for _, n := range ends() {
			if b, e := a.Load(at, n); b != nil || e != api.ErrNil {
				t.Errorf("Load(%d, %d) is %v, %d", at, n, b, e)
			}
			if e := a.Fill(at, n, 1); e != api.ErrNil {
				t.Errorf("Fill(%d, %d) is %d", at, n, e)
			}
		}
		if e := a.Store(at, nil); e != api.ErrNil {
			t.Errorf("Store(%d) is %d", at, e)
		}
		if w, e := a.Word(at); w != 0 || e != api.ErrNil {
			t.Errorf("Word(%d) is %d, %d", at, w, e)
		}
		if e := a.SetWord(at, 1); e != api.ErrNil {
			t.Errorf("SetWord(%d) is %d", at, e)
		}
	}
	if n, e := a.Do(func(*View) { t.Error("it was called") }); n != 0 || e != api.ErrNil {
		t.Error("Do is", n, e)
	}
	if n, e := a.Do(nil); n != 0 || e != api.ErrNil {
		t.Error("Do of nil is", n, e)
	}
}

// P3.1.
func TestNewHoldsItsSize(t *testing.T) {
	for _, c := range []struct{ pages, want int }{
		{least, 0}, {-256, 0}, {-1, 0}, {0, 0}, {1, 256}, {2, 512}, {3, 768},
		{255, 65280}, {256, 65536}, {257, 65536}, {1 << 56, 65536}, {greatest, 65536},
	} {
		a := New(c.pages)
		if a == nil || a.Len() != c.want {
			t.Fatalf("New(%d) has %d bytes, not %d", c.pages, a.Len(), c.want)
		}
		against(t, a, make([]byte, c.want))
	}
}

// P3.1: of no pages, and of an arena that nobody made.
func TestNoPages(t *testing.T) {
	for _, a := range []*Arena{New(0), New(-1), {}} {
		if b, e := a.Load(0, 0); len(b) != 0 || e != api.OK {
			t.Error("Load of nothing is", b, e)
		}
		if a.Store(0, nil) != api.OK || a.Store(0, []byte{}) != api.OK || a.Fill(0, 0, 1) != api.OK {
			t.Error("nothing can't be stored")
		}
		if a.Store(0, []byte{1}) != api.ErrRange || a.Fill(0, 1, 1) != api.ErrRange || a.Store(1, nil) != api.ErrRange {
			t.Error("something can be stored")
		}
		if w, e := a.Word(0); w != 0 || e != api.ErrRange {
			t.Error("Word is", w, e)
		}
		if e := a.SetWord(0, 1); e != api.ErrRange {
			t.Error("SetWord is", e)
		}
		if c := a.Copy(); c == nil || c.Len() != 0 {
			t.Error("Copy is", c)
		}
	}
}

// P3.1.
func TestLoadWithinAndBeyondTheEnds(t *testing.T) {
	a, all := filled(t, 2)
	for _, at := range ends() {
		for _, n := range ends() {
			b, e := a.Load(at, n)
			if !fits(at, n, 512) {
				if b != nil || e != api.ErrRange {
					t.Errorf("Load(%d, %d) is %d bytes, %d", at, n, len(b), e)
				}
			} else if e != api.OK || !bytes.Equal(b, all[at:at+n]) {
				t.Errorf("Load(%d, %d) is % x, %d", at, n, b, e)
			}
		}
	}
	against(t, a, all)
}

// P3.1: all places and lengths of a page.
func TestLoadOfEachPlace(t *testing.T) {
	a, all := filled(t, 1)
	for at := -2; at <= 258; at++ {
		for n := -2; n <= 258; n++ {
			b, e := a.Load(at, n)
			if ok := fits(at, n, 256); (e == api.OK) != ok || ok && !bytes.Equal(b, all[at:at+n]) || !ok && (b != nil || e != api.ErrRange) {
				t.Fatalf("Load(%d, %d) is % x, %d", at, n, b, e)
			}
		}
	}
}

// P3.1.
func TestLoadAnswersNewMemory(t *testing.T) {
	a, all := filled(t, 1)
	b, _ := a.Load(10, 20)
	c, _ := a.Load(10, 20)
	for i := range b {
		b[i] = 0
	}
	_ = append(b[:5], 9, 9, 9)
	_ = append(b, 9, 9, 9)
	against(t, a, all)
	if !bytes.Equal(c, all[10:30]) {
		t.Errorf("another answer is % x", c)
	}
	a.Fill(0, 256, 5)
	if !bytes.Equal(c, all[10:30]) {
		t.Error("an answer changes with the arena")
	}
}

// P3.1.
func TestStoreAndFillWithinAndBeyondTheEnds(t *testing.T) {
	for _, at := range ends() {
		for _, n := range ends() {
			a, want := filled(t, 2)
			wantE := api.ErrRange
			if fits(at, n, 512) {
				wantE = api.OK
				copy(want[at:], bytes.Repeat([]byte{0xEE}, n))
			}
			if e := a.Fill(at, n, 0xEE); e != wantE {
				t.Errorf("Fill(%d, %d) is %d", at, n, e)
			}
			against(t, a, want)
			if n < 0 || n > 1024 {
				continue
			}
			a, _ = filled(t, 2)
			if e := a.Store(at, bytes.Repeat([]byte{0xEE}, n)); e != wantE {
				t.Errorf("Store(%d) of %d bytes is %d", at, n, e)
			}
			against(t, a, want)
		}
	}
}

// P3.1.
func TestStoreLaysTheBytesInOrderAndKeepsNoList(t *testing.T) {
	a, want := filled(t, 1)
	b := []byte{9, 8, 7, 6, 5}
	if e := a.Store(251, b); e != api.OK {
		t.Error("Store is", e)
	}
	copy(want[251:], b)
	if !bytes.Equal(b, []byte{9, 8, 7, 6, 5}) {
		t.Error("the list was changed", b)
	}
	clear(b)
	against(t, a, want)
	if e := a.Store(256, nil); e != api.OK {
		t.Error("Store of nothing at the end is", e)
	}
	if e := a.Store(257, nil); e != api.ErrRange {
		t.Error("Store of nothing behind the end is", e)
	}
	against(t, a, want)
}

// P3.1.
func TestFillOfEachByte(t *testing.T) {
	for c := range 256 {
		a, want := filled(t, 1)
		if e := a.Fill(c, 1, byte(c)); e != api.OK {
			t.Errorf("Fill(%d) is %d", c, e)
		}
		want[c] = byte(c)
		against(t, a, want)
	}
}

// wordError is what Word has to tell of a place in an arena of so many bytes.
func wordError(at, size int) api.Errno {
	switch {
	case !fits(at, 8, size):
		return api.ErrRange
	case at%8 != 0:
		return api.ErrArg
	}
	return api.OK
}

// P3.1.
func TestWordOfEachPlace(t *testing.T) {
	places := ends()
	for at := -20; at < 540; at++ {
		places = append(places, at)
	}
	for _, at := range places {
		a, want := filled(t, 2)
		e := wordError(at, 512)
		var v uint64
		if e == api.OK {
			for i := range 8 {
				v += uint64(want[at+i]) << (8 * i)
			}
		}
		if w, got := a.Word(at); w != v || got != e {
			t.Errorf("Word(%d) is %x, %d, not %x, %d", at, w, got, v, e)
		}
		if got := a.SetWord(at, 0x0102030405060708); got != e {
			t.Errorf("SetWord(%d) is %d, not %d", at, got, e)
		}
		if e == api.OK {
			copy(want[at:], []byte{8, 7, 6, 5, 4, 3, 2, 1})
		}
		against(t, a, want)
	}
}

// P3.1.
func TestWordsOfAllBits(t *testing.T) {
	a := New(1)
	for i := range 64 {
		for _, v := range []uint64{1 << i, ^uint64(1 << i), 1<<i - 1} {
			if e := a.SetWord(248, v); e != api.OK {
				t.Error("SetWord is", e)
			}
			if w, e := a.Word(248); w != v || e != api.OK {
				t.Errorf("Word is %x, %d, not %x", w, e, v)
			}
		}
	}
}

// P3.1.
func TestCopyHasNothingInCommon(t *testing.T) {
	for _, pages := range []int{0, 1, 2, 256} {
		a, want := filled(t, pages)
		c := a.Copy()
		if c == nil || c == a {
			t.Fatal("Copy is", c)
		}
		against(t, c, want)
		c.Fill(0, c.Len(), 1)
		against(t, a, want)
		d := a.Copy()
		a.Fill(0, a.Len(), 2)
		against(t, d, want)
		against(t, c, bytes.Repeat([]byte{1}, pages*256))
	}
}
