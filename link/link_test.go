package link

import (
	"math"
	"math/big"
	"testing"
)

const (
	least    = math.MinInt64
	greatest = math.MaxInt64
	step     = 0x9E3779B97F4A7C15
	top      = 0x5A5A000000000000
	last     = 1<<31 - 1 // the greatest next
)

// mixed is mix, reckoned with whole numbers of any length.
func mixed(x uint64) uint64 {
	all := new(big.Int).Lsh(big.NewInt(1), 64)
	n := new(big.Int).SetUint64(x)
	turn := func(by uint) { n.Xor(n, new(big.Int).Rsh(n, by)) }
	times := func(by uint64) { n.Mod(n.Mul(n, new(big.Int).SetUint64(by)), all) }
	turn(30)
	times(0xBF58476D1CE4E5B9)
	turn(27)
	times(0x94D049BB133111EB)
	turn(31)
	return n.Uint64()
}

// round is a + b, reckoned with whole numbers of any length, where it goes round.
func round(a, b uint64) uint64 {
	n := new(big.Int).SetUint64(a)
	n.Add(n, new(big.Int).SetUint64(b))
	return n.And(n, new(big.Int).SetUint64(math.MaxUint64)).Uint64()
}

// seeds: some whose sum with the step goes round, some that lead to numbers whose mixes are known.
func seeds() []uint64 {
	l := []uint64{0, 1, 2, 42, 1234567, 1 << 31, 1 << 32, 1 << 63, math.MaxUint64, math.MaxUint64 - 1, step, 1 << 63 / 2}
	back := uint64(step)
	return append(l, -back, -back-1, -back+1, 2*back, 3*back)
}

// codes: of seeds, and keys at which a sum with a place goes round.
func codes() []Code {
	var l []Code
	for _, s := range seeds() {
		l = append(l, New(s))
	}
	return append(l, Code{}, Code{1}, Code{math.MaxUint64}, Code{math.MaxUint64 - 16}, Code{1 << 63}, Code{1<<63 - 1}, Code{step})
}

// places: those of an arena, and greater ones.
func places() []int {
	return []int{0, 1, 2, 7, 8, 16, 17, 32, 255, 256, 608, 65520, 65535, 65536, 1 << 20, last, last + 1, 1 << 32, 1<<32 + 16, 1 << 62, greatest - 1, greatest}
}

// below: places that there are not.
func below() []int { return []int{-1, -2, -16, -256, -65536, -1 << 31, -1 << 32, least + 1, least} }

// nexts: all that a link may lead to, at and around the ends.
func nexts() []int {
	return []int{-1, 0, 1, 2, 15, 16, 32, 255, 256, 65520, 65535, 65536, 65537, 1 << 24, 1<<30 - 1, 1 << 30, last - 16, last - 1, last}
}

// noNexts: what no link leads to.
func noNexts() []int {
	return []int{least, least + 1, -1 << 32, -1 << 31, -65536, -16, -3, -2, last + 1, last + 2, 1<<32 - 2, 1<<32 - 1, 1 << 32, 1<<32 + 16, 1 << 47, 1 << 48, greatest - 1, greatest}
}

// P6.1: held against the first numbers that are drawn of these seeds by the well-known way of mixing.
func TestNewOfSeedsThatAreKnown(t *testing.T) {
	back := uint64(step)
	for _, x := range []struct{ seed, key uint64 }{
		{0, 0xE220A8397B1DCDAF}, {back, 0x6E789E6AA1B965F4}, {2 * back, 0x06C45D188009454F}, {3 * back, 0xF88BB8A8724C81EC}, {4 * back, 0x1B39896A51A8749B},
		{1234567, 6457827717110365317}, {1234567 + back, 3203168211198807973}, {1234567 + 2*back, 9817491932198370423},
		{-back, 0}, // the sum goes round to 0
	} {
		if c := New(x.seed); c.Key != x.key {
			t.Errorf("New(%x) has key %x, not %x", x.seed, c.Key, x.key)
		}
	}
}

// P6.1.
func TestNewIsTheSumMixed(t *testing.T) {
	for _, s := range seeds() {
		if c := New(s); c.Key != mixed(round(s, step)) {
			t.Errorf("New(%x) has key %x", s, c.Key)
		}
	}
	for i := range 64 {
		s := uint64(1) << i
		if c := New(s); c.Key != mixed(round(s, step)) {
			t.Errorf("New(%x) has key %x", s, c.Key)
		}
	}
}

// P6.1: of keys and places whose sum's mix is known.
func TestPutOfSumsThatAreKnown(t *testing.T) {
	back := uint64(step)
	for _, x := range []struct {
		key      uint64
		at, next int
		want     uint64
	}{
		{back, 0, -1, 0xE220A8397B1DCDAF ^ top},
		{back - 16, 16, -1, 0xE220A8397B1DCDAF ^ top},
		{back - 16, 16, 0, 0xE220A8397B1DCDAF ^ top ^ 1},
		{back - 16, 16, 32, 0xE220A8397B1DCDAF ^ top ^ 33},
		{back - 16, 16, last, 0xE220A8397B1DCDAF ^ top ^ 0x80000000},
		{2*back - 65520, 65520, 7, 0x6E789E6AA1B965F4 ^ top ^ 8},
		{-16 & math.MaxUint64, 16, -1, top}, // the sum goes round to 0, whose mix is 0
		{math.MaxUint64, 1, 607, top ^ 608},
		{0, 0, -1, top}, {0, 0, 15, top ^ 16},
	} {
		if w := (Code{x.key}).Put(x.at, x.next); w != x.want {
			t.Errorf("Put(%d, %d) of key %x is %x, not %x", x.at, x.next, x.key, w, x.want)
		}
	}
}

// P6.1.
func TestPutIsTheLink(t *testing.T) {
	for _, c := range codes() {
		for _, at := range places() {
			mask := mixed(round(c.Key, uint64(at)))
			for _, next := range nexts() {
				if w := c.Put(at, next); w != top^uint64(next+1)^mask {
					t.Errorf("Put(%d, %d) of key %x is %x", at, next, c.Key, w)
				}
			}
		}
	}
}

// P6.1.
func TestPutOfWhatIsNoLink(t *testing.T) {
	for _, c := range codes() {
		for _, at := range append(places(), below()...) {
			for _, next := range noNexts() {
				if w := c.Put(at, next); w != 0 {
					t.Errorf("Put(%d, %d) of key %x is %x", at, next, c.Key, w)
				}
			}
		}
		for _, at := range below() {
			for _, next := range nexts() {
				if w := c.Put(at, next); w != 0 {
					t.Errorf("Put(%d, %d) of key %x is %x", at, next, c.Key, w)
				}
			}
		}
	}
}

// P6.2.
func TestGetOfPutIsNext(t *testing.T) {
	for _, c := range codes() {
		for _, at := range places() {
			for _, next := range nexts() {
				if n, ok := c.Get(at, c.Put(at, next)); n != next || !ok {
					t.Errorf("Get(%d) of the link to %d, of key %x, is %d, %v", at, next, c.Key, n, ok)
				}
			}
		}
	}
}

// P6.2: all places of an arena, to the next slot, and to none.
func TestGetOfPutInAnArena(t *testing.T) {
	c := New(3)
	for at := range 65536 {
		for _, next := range []int{-1, at, at + 16, 65535 - at} {
			if n, ok := c.Get(at, c.Put(at, next)); n != next || !ok {
				t.Fatalf("Get(%d) of the link to %d is %d, %v", at, next, n, ok)
			}
		}
	}
}

// bare is what a link is when its mask is taken off: whether it is one, and of what next.
func bare(v uint64) (int, bool) {
	if v>>48 != 0x5A5A || v<<16>>48 != 0 || v<<32>>32 > 1<<31 {
		return 0, false
	}
	return int(v<<32>>32) - 1, true
}

// P6.1: what lies under the mask is written out, so that each part of it is at its edges.
func TestGetIsTrueOfLinksAlone(t *testing.T) {
	under := []uint64{
		0, 1, math.MaxUint64, top, top + 1, top + last, top + 1<<31, top + 1<<31 + 1, top + 1<<31 + 2, top + 1<<32 - 1, top + 1<<32, top + 1<<32 + 1, top + 1<<33,
		top + 1<<47, top + 1<<48, top - 1<<48, top - 1, top - 1<<32, 0x5A5B << 48, 0x5A59 << 48, 0xA5A5 << 48, 0x5A5A, 0x5A5A << 32, 0xDA5A << 48,
	}
	for _, c := range codes() {
		for _, at := range places() {
			for _, v := range under {
				want, wantOK := bare(v)
				if n, ok := c.Get(at, v^mixed(round(c.Key, uint64(at)))); n != want || ok != wantOK {
					t.Errorf("Get(%d) of %x under key %x is %d, %v, not %d, %v", at, v, c.Key, n, ok, want, wantOK)
				}
			}
		}
	}
}

// P6.1: of a place below 0 there is none, not even where the words beside it would make one.
func TestGetOfAPlaceBelowNought(t *testing.T) {
	for _, c := range codes() {
		for _, at := range below() {
			mask := mixed(round(c.Key, uint64(at)))
			for _, w := range []uint64{0, 1, top, math.MaxUint64, top ^ mask, (top + 1) ^ mask, (top + 1<<31) ^ mask, c.Put(0, 16)} {
				if n, ok := c.Get(at, w); n != 0 || ok {
					t.Errorf("Get(%d, %x) of key %x is %d, %v", at, w, c.Key, n, ok)
				}
			}
		}
	}
}

// P6.1: what one may have written without the key, and links of other places and of other keys.
func TestGetOfNumbersThatAreNoLinkOfThatPlace(t *testing.T) {
	c := New(9)
	for _, at := range places() {
		for _, w := range []uint64{0, 1, 16, top, top + 17, math.MaxUint64, 0xDDDDDDDDDDDDDDDD, c.Canary(at), c.Key} {
			if n, ok := c.Get(at, w); n != 0 || ok {
				t.Errorf("Get(%d, %x) is %d, %v", at, w, n, ok)
			}
		}
		for _, other := range places() {
			if other == at {
				continue
			}
			if n, ok := c.Get(at, c.Put(other, 32)); n != 0 || ok {
				t.Errorf("Get(%d) of a link of %d is %d, %v", at, other, n, ok)
			}
		}
		if n, ok := c.Get(at, New(10).Put(at, 32)); n != 0 || ok {
			t.Errorf("Get(%d) of another key's link is %d, %v", at, n, ok)
		}
	}
}

// P6.3: a turned bit of the highest 16; those below these are told by what a next may be.
func TestOneBitTurned(t *testing.T) {
	for _, c := range codes() {
		for _, at := range places() {
			for _, next := range nexts() {
				w := c.Put(at, next)
				for bit := range 64 {
					want, wantOK := bare(top ^ uint64(next+1) ^ 1<<bit)
					if bit >= 32 && wantOK {
						t.Fatalf("bit %d of a link to %d is held to be a next's", bit, next)
					}
					if n, ok := c.Get(at, w^1<<bit); n != want || ok != wantOK {
						t.Errorf("Get(%d) of the link to %d with bit %d turned is %d, %v, not %d, %v", at, next, bit, n, ok, want, wantOK)
					}
				}
			}
		}
	}
}

// P6.3: any bits of the highest 16 turned, not one alone.
func TestHighestBitsTurned(t *testing.T) {
	c := New(5)
	w := c.Put(48, 64)
	for x := uint64(1); x < 1<<16; x++ {
		if n, ok := c.Get(48, w^x<<48); n != 0 || ok {
			t.Fatalf("Get of the link with %x turned is %d, %v", x, n, ok)
		}
	}
}

// P6.3.
func TestUnlikeNextsHaveUnlikeLinks(t *testing.T) {
	for _, c := range codes() {
		for _, at := range places() {
			has := map[uint64]int{}
			for next := -1; next < 300; next++ {
				has[c.Put(at, next)]++
			}
			for _, next := range nexts() {
				if next >= 300 {
					has[c.Put(at, next)]++
				}
			}
			for w, n := range has {
				if n > 1 {
					t.Fatalf("%d links of %d, of key %x, are %x", n, at, c.Key, w)
				}
			}
		}
	}
}

// P6.1: places below 0 are taken as 64 bits.
func TestCanary(t *testing.T) {
	for _, c := range codes() {
		for _, at := range append(places(), below()...) {
			if w := c.Canary(at); w != mixed(c.Key^uint64(at)) {
				t.Errorf("Canary(%d) of key %x is %x", at, c.Key, w)
			}
		}
	}
	back := uint64(step)
	for _, x := range []struct {
		key  uint64
		at   int
		want uint64
	}{
		{back, 0, 0xE220A8397B1DCDAF}, {back ^ 255, 255, 0xE220A8397B1DCDAF}, {^back, -1, 0xE220A8397B1DCDAF}, {2 * back, 0, 0x6E789E6AA1B965F4}, {16, 16, 0}, {math.MaxUint64, -1, 0},
	} {
		if w := (Code{x.key}).Canary(x.at); w != x.want {
			t.Errorf("Canary(%d) of key %x is %x, not %x", x.at, x.key, w, x.want)
		}
	}
}

// Rule 6: what is answered hangs on the key, the place and the number alone.
func TestTheSameIsAnsweredAnew(t *testing.T) {
	c := New(77)
	w, k := c.Put(16, 32), c.Canary(16)
	c.Put(16, 48)
	c.Get(16, 0)
	New(78)
	if c != New(77) || c.Put(16, 32) != w || c.Canary(16) != k {
		t.Error("another answer is", c, c.Put(16, 32), c.Canary(16))
	}
}

func TestTheChaptersExamples(t *testing.T) {
	c := New(0)
	if c.Key != 0xE220A8397B1DCDAF {
		t.Errorf("New(0) has key %x", c.Key)
	}
	if n, ok := c.Get(16, c.Put(16, -1)); n != -1 || !ok {
		t.Error("Get(16, Put(16, -1)) is", n, ok)
	}
}
