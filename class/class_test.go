package class

import (
	"math"
	"testing"
)

const (
	least    = math.MinInt64
	greatest = math.MaxInt64
)

// wanted: of each class a slot's bytes, how many slots a page has, a block's bytes.
func wanted() [][3]int { return [][3]int{{16, 16, 8}, {32, 8, 24}, {64, 4, 56}, {128, 2, 120}} }

// strangers: numbers of classes that there are not.
func strangers() []int {
	return []int{least, least + 1, -1 << 32, -64, -5, -4, -3, -2, -1, 4, 5, 6, 7, 8, 16, 63, 64, 65, 1 << 31, 1 << 32, greatest - 1, greatest}
}

// far: numbers below 0, and greatest ones, at which a product or a sum goes round.
func far() []int {
	return []int{
		least, least + 1, least + 120, least + 4096, -1 << 60, -1 << 56, -1 << 32, -1 << 31, -65536, -4096, -256, -129, -16, -8, -2, -1,
		1 << 31, 1 << 32, 1<<32 + 1, 1<<32 + 608, 1 << 56, 1 << 57, 1 << 60, 1<<60 + 1, greatest - 4096, greatest - 7, greatest - 1, greatest,
	}
}

// P5.1.
func TestTheClasses(t *testing.T) {
	if Count != 4 {
		t.Fatal("Count is", Count)
	}
	for c, w := range wanted() {
		if Size(c) != w[0] || Slots(c) != w[1] || Room(c) != w[2] {
			t.Errorf("class %d has slots of %d bytes, %d in a page, blocks of %d bytes, not %v", c, Size(c), Slots(c), Room(c), w)
		}
	}
}

// P5.1.
func TestClassesThatThereAreNot(t *testing.T) {
	for _, c := range strangers() {
		if Size(c) != 0 || Slots(c) != 0 || Room(c) != 0 {
			t.Errorf("class %d has slots of %d bytes, %d in a page, blocks of %d bytes", c, Size(c), Slots(c), Room(c))
		}
	}
}

// P5.1: all numbers of bytes up to beyond those that have a class.
func TestOf(t *testing.T) {
	for n := 1; n <= 120; n++ {
		want := 0
		for wanted()[want][2] < n {
			want++
		}
		if c, ok := Of(n); c != want || !ok {
			t.Errorf("Of(%d) is %d, %v, not %d", n, c, ok, want)
		}
	}
	for n := 121; n <= 5000; n++ {
		if c, ok := Of(n); c != 0 || ok {
			t.Errorf("Of(%d) is %d, %v", n, c, ok)
		}
	}
	for _, n := range append(far(), 0) {
		if c, ok := Of(n); c != 0 || ok {
			t.Errorf("Of(%d) is %d, %v", n, c, ok)
		}
	}
}

// P5.1: each class's least and greatest block, and one byte more.
func TestOfAtTheEdges(t *testing.T) {
	for _, x := range []struct {
		n, c int
		ok   bool
	}{
		{0, 0, false}, {1, 0, true}, {8, 0, true}, {9, 1, true}, {24, 1, true}, {25, 2, true},
		{56, 2, true}, {57, 3, true}, {120, 3, true}, {121, 0, false}, {128, 0, false}, {4096, 0, false}, {4097, 0, false},
	} {
		if c, ok := Of(x.n); c != x.c || ok != x.ok {
			t.Errorf("Of(%d) is %d, %v, not %d, %v", x.n, c, ok, x.c, x.ok)
		}
	}
}

// P5.1: all numbers of bytes, counted page by page.
func TestPages(t *testing.T) {
	want := 1
	for n := 121; n <= 4096; n++ {
		if want*256 < n+8 {
			want++
		}
		if p, ok := Pages(n); p != want || !ok {
			t.Errorf("Pages(%d) is %d, %v, not %d", n, p, ok, want)
		}
	}
	for n := -300; n <= 120; n++ {
		if p, ok := Pages(n); p != 0 || ok {
			t.Errorf("Pages(%d) is %d, %v", n, p, ok)
		}
	}
	for n := 4097; n <= 9000; n++ {
		if p, ok := Pages(n); p != 0 || ok {
			t.Errorf("Pages(%d) is %d, %v", n, p, ok)
		}
	}
	for _, n := range far() {
		if p, ok := Pages(n); p != 0 || ok {
			t.Errorf("Pages(%d) is %d, %v", n, p, ok)
		}
	}
}

// P5.1: where one page more is needed, and at the ends.
func TestPagesAtTheEdges(t *testing.T) {
	for _, x := range []struct {
		n, pages int
		ok       bool
	}{
		{0, 0, false}, {1, 0, false}, {120, 0, false}, {121, 1, true}, {247, 1, true}, {248, 1, true}, {249, 2, true}, {256, 2, true}, {257, 2, true},
		{504, 2, true}, {505, 3, true}, {4088, 16, true}, {4089, 17, true}, {4096, 17, true}, {4097, 0, false},
	} {
		if p, ok := Pages(x.n); p != x.pages || ok != x.ok {
			t.Errorf("Pages(%d) is %d, %v, not %d, %v", x.n, p, ok, x.pages, x.ok)
		}
	}
}

// P5.2: each slot of each page, one behind the other.
func TestBase(t *testing.T) {
	for c, w := range wanted() {
		at := 0
		for page := range 256 {
			for k := range w[1] {
				if b := Base(page, c, k); b != at {
					t.Fatalf("Base(%d, %d, %d) is %d, not %d", page, c, k, b, at)
				}
				at += w[0]
			}
		}
	}
}

// P5.2.
func TestBaseOfWhatThereIsNot(t *testing.T) {
	for _, page := range append(far(), 256, 257, 65535, 65536) {
		for c := range 4 {
			for _, k := range []int{0, 1} {
				if b := Base(page, c, k); b != -1 {
					t.Errorf("of a page that there is not: Base(%d, %d, %d) is %d", page, c, k, b)
				}
			}
		}
	}
	for _, page := range []int{0, 1, 2, 254, 255} {
		for _, c := range strangers() {
			for _, k := range []int{-1, 0, 1, 15} {
				if b := Base(page, c, k); b != -1 {
					t.Errorf("of a class that there is not: Base(%d, %d, %d) is %d", page, c, k, b)
				}
			}
		}
		for c, w := range wanted() {
			for _, k := range append(far(), w[1], w[1]+1, 16, 17, 256) {
				if b := Base(page, c, k); b != -1 {
					t.Errorf("of a slot that there is not: Base(%d, %d, %d) is %d", page, c, k, b)
				}
			}
		}
	}
	for _, x := range far() {
		for _, y := range far() {
			if b := Base(x, y, x); b != -1 {
				t.Errorf("of nothing that there is: Base(%d, %d, %d) is %d", x, y, x, b)
			}
		}
	}
}

// P5.2: each byte of the arena, as one of each class.
func TestSlot(t *testing.T) {
	for c, w := range wanted() {
		at := 0
		for page := range 256 {
			for k := range w[1] {
				for range w[0] {
					if p, s := Slot(at, c); p != page || s != k {
						t.Fatalf("Slot(%d, %d) is %d, %d, not %d, %d", at, c, p, s, page, k)
					}
					at++
				}
			}
		}
		if at != 65536 {
			t.Fatalf("slots of class %d have %d bytes in all", c, at)
		}
	}
}

// P5.2: the first and the last byte of a slot, of a page, and of the arena.
func TestSlotAtTheEdges(t *testing.T) {
	for _, x := range []struct{ at, c, page, k int }{
		{0, 0, 0, 0}, {15, 0, 0, 0}, {16, 0, 0, 1}, {31, 1, 0, 0}, {32, 1, 0, 1}, {63, 2, 0, 0}, {64, 2, 0, 1}, {127, 3, 0, 0}, {128, 3, 0, 1},
		{255, 0, 0, 15}, {255, 1, 0, 7}, {255, 2, 0, 3}, {255, 3, 0, 1}, {256, 0, 1, 0}, {256, 3, 1, 0}, {511, 3, 1, 1},
		{65279, 1, 254, 7}, {65280, 1, 255, 0}, {65535, 0, 255, 15}, {65535, 1, 255, 7}, {65535, 2, 255, 3}, {65535, 3, 255, 1},
	} {
		if p, k := Slot(x.at, x.c); p != x.page || k != x.k {
			t.Errorf("Slot(%d, %d) is %d, %d, not %d, %d", x.at, x.c, p, k, x.page, x.k)
		}
	}
}

// P5.2.
func TestSlotOfWhatThereIsNot(t *testing.T) {
	for _, at := range append(far(), 65536, 65537, 65791, 131072) {
		for c := -1; c <= 4; c++ {
			if p, k := Slot(at, c); p != -1 || k != -1 {
				t.Errorf("of a byte that there is not: Slot(%d, %d) is %d, %d", at, c, p, k)
			}
		}
	}
	for _, c := range strangers() {
		for _, at := range []int{-1, 0, 1, 255, 256, 65535, 65536, greatest, least} {
			if p, k := Slot(at, c); p != -1 || k != -1 {
				t.Errorf("of a class that there is not: Slot(%d, %d) is %d, %d", at, c, p, k)
			}
		}
	}
}

// P5.3: each byte is counted in the slots that have it.
func TestSlotsFillThePage(t *testing.T) {
	for c := range Count {
		for page := range 256 {
			var has [256]int
			for k := range Slots(c) {
				base := Base(page, c, k)
				if base%16 != 0 {
					t.Errorf("Base(%d, %d, %d) is %d", page, c, k, base)
				}
				for i := range Size(c) {
					has[base+i-page*256]++
					if p, s := Slot(base+i, c); p != page || s != k {
						t.Errorf("byte %d of slot %d, %d of class %d lies in %d, %d", i, page, k, c, p, s)
					}
				}
			}
			for i, n := range has {
				if n != 1 {
					t.Fatalf("byte %d of page %d lies in %d slots of class %d", i, page, n, c)
				}
			}
		}
	}
}

// P5.4: for blocks of slots and great ones; of the least class, or number of pages, that has room.
func TestBlocksHaveTheBytesThatWereAsked(t *testing.T) {
	for n := 1; n <= 4096; n++ {
		c, small := Of(n)
		p, great := Pages(n)
		if small == great {
			t.Fatalf("%d bytes are of a class: %v, and great: %v", n, small, great)
		}
		if small && (Room(c) < n || c > 0 && Room(c-1) >= n) {
			t.Errorf("%d bytes are of class %d, whose blocks have %d", n, c, Room(c))
		}
		if great && (p*256-8 < n || (p-1)*256-8 >= n) {
			t.Errorf("%d bytes take %d pages", n, p)
		}
	}
}

func TestTheChaptersExamples(t *testing.T) {
	if c, ok := Of(9); c != 1 || !ok {
		t.Error("Of(9) is", c, ok)
	}
	if b := Base(2, 1, 3); b != 608 {
		t.Error("Base(2, 1, 3) is", b)
	}
	if p, k := Slot(610, 1); p != 2 || k != 3 {
		t.Error("Slot(610, 1) is", p, k)
	}
	if p, ok := Pages(249); p != 2 || !ok {
		t.Error("Pages(249) is", p, ok)
	}
}
