package num

import (
	"bytes"
	"math"
	"math/big"
	"testing"
)

const (
	least    = math.MinInt64
	greatest = math.MaxInt64
	theNaN   = 0x7FF8000000000000
)

// words: numbers of 64 bits at which bytes are lost or put at a wrong place first.
func words() []uint64 {
	l := []uint64{0, 1, 0xFF, 0x100, 0x0102030405060708, 0x8000000000000000, math.MaxUint64, 0x00FF00FF00FF00FF}
	for i := range 64 {
		l = append(l, 1<<i, 1<<i-1, ^uint64(1<<i))
	}
	return l
}

// nans: bits of NaNs, quiet and signalling ones, of both signs, with one bit of their own or all.
func nans() []uint64 {
	l := []uint64{theNaN, 0x7FF8000000000001, 0xFFF8000000000000, 0x7FF0000000000001, 0xFFF0000000000001, 0x7FFFFFFFFFFFFFFF, math.MaxUint64}
	for i := range 52 {
		l = append(l, 0x7FF0000000000000|1<<i, 0xFFF0000000000000|1<<i)
	}
	return l
}

// rising: the bits of numbers, each above the one ahead of it, but that minus nought stands next to nought.
func rising() []uint64 {
	return []uint64{
		0xFFF0000000000000, // minus infinity
		0xFFEFFFFFFFFFFFFF, // the least number
		0xC3E0000000000001, // the one below -2^63
		0xC3E0000000000000, // -2^63
		0xC3DFFFFFFFFFFFFF, // the one above it
		0xC008000000000000, // -3
		0xBFF8000000000000, // -1.5
		0xBFF0000000000000, // -1
		0xBFE0000000000000, // -0.5
		0x8010000000000000, // the last normal one below nought
		0x800FFFFFFFFFFFFF, // the first that is not normal
		0x8000000000000001, // the last one below nought
		0x8000000000000000, // minus nought
		0x0000000000000000, // nought
		0x0000000000000001, // the first one above nought
		0x000FFFFFFFFFFFFF, // the last one that is not normal
		0x0010000000000000, // the first normal one
		0x3FE0000000000000, // 0.5
		0x3FF0000000000000, // 1
		0x3FF8000000000000, // 1.5
		0x4008000000000000, // 3
		0x43DFFFFFFFFFFFFF, // the one below 2^63
		0x43E0000000000000, // 2^63
		0x43E0000000000001, // the one above it
		0x7FEFFFFFFFFFFFFF, // the greatest number
		0x7FF0000000000000, // infinity
	}
}

// minusNought is the place of minus nought in rising.
const minusNought = 12

// P1.1.
func TestPutLaysTheLowestBytesFirst(t *testing.T) {
	for _, v := range words() {
		for n := 1; n <= 8; n++ {
			b := Put(n, v)
			if len(b) != n {
				t.Fatalf("Put(%d, %x) has %d bytes", n, v, len(b))
			}
			left := v
			for i, c := range b {
				if uint64(c) != left%256 {
					t.Errorf("Put(%d, %x): byte %d is %x", n, v, i, c)
				}
				left /= 256
			}
		}
	}
	if b := Put(2, 258); !bytes.Equal(b, []byte{2, 1}) {
		t.Errorf("Put(2, 258) is % x", b)
	}
}

// P1.1.
func TestPutOfNoSuchLengthIsNothing(t *testing.T) {
	for _, n := range []int{least, -8, -1, 0, 9, 16, 64, greatest} {
		if b := Put(n, math.MaxUint64); len(b) != 0 {
			t.Errorf("Put(%d) is % x", n, b)
		}
	}
}

func TestPutAnswersNewMemory(t *testing.T) {
	b := Put(4, 7)
	b[0] = 9
	_ = append(b, 1, 2, 3)
	if c := Put(4, 7); !bytes.Equal(c, []byte{7, 0, 0, 0}) {
		t.Errorf("Put(4, 7) is % x", c)
	}
}

// P1.1.
func TestGetReadsTheFirstEightBytesAtMost(t *testing.T) {
	for _, c := range []struct {
		b    []byte
		want uint64
	}{
		{nil, 0},
		{[]byte{}, 0},
		{[]byte{5}, 5},
		{[]byte{0, 5}, 0x500},
		{[]byte{0xFF, 0xFF, 0xFF}, 0xFFFFFF},
		{[]byte{1, 2, 3, 4, 5, 6, 7}, 0x07060504030201},
		{[]byte{1, 2, 3, 4, 5, 6, 7, 8}, 0x0807060504030201},
		{[]byte{1, 2, 3, 4, 5, 6, 7, 0x80, 9}, 0x8007060504030201},
		{bytes.Repeat([]byte{0xFF}, 1000), math.MaxUint64},
	} {
		b := bytes.Clone(c.b)
		if v := Get(b); v != c.want {
			t.Errorf("Get(% x) is %x, not %x", c.b, v, c.want)
		}
		if !bytes.Equal(b, c.b) {
			t.Errorf("Get changed % x to % x", c.b, b)
		}
	}
}

// P1.1.
func TestUpIsTheLeastMultipleNotBelow(t *testing.T) {
	for to := 1; to <= 40; to++ {
		want := 0
		for n := range 200 {
			if n > want {
				want += to
			}
			if u := Up(n, to); u != want {
				t.Errorf("Up(%d, %d) is %d, not %d", n, to, u, want)
			}
		}
	}
}

// P1.1.
func TestUpAtItsLimits(t *testing.T) {
	const n, to = 1 << 40, 1 << 20
	for _, c := range []struct{ n, to, want int }{
		{0, 1, 0}, {0, to, 0}, {1, to, to}, {to, to, to}, {to + 1, to, 2 * to},
		{n, 1, n}, {n, 2, n}, {n, 3, n + 2}, {n, to, n}, {n, to - 1, (to + 2) * (to - 1)}, {n - 1, to, n}, {n - to, to, n - to}, {n - to + 1, to, n},
		{n + 1, 1, 0}, {n + 1, to, 0}, {greatest, 1, 0}, {greatest, to, 0},
		{-1, 1, 0}, {-1, to, 0}, {-to, to, 0}, {least, 1, 0}, {least, 16, 0},
		{5, 0, 0}, {5, -1, 0}, {5, -5, 0}, {5, least, 0}, {5, to + 1, 0}, {5, 1 << 40, 0}, {5, greatest, 0},
		{0, 0, 0}, {greatest, greatest, 0}, {least, least, 0}, {greatest, least, 0},
	} {
		if u := Up(c.n, c.to); u != c.want {
			t.Errorf("Up(%d, %d) is %d, not %d", c.n, c.to, u, c.want)
		}
	}
}

// P1.2.
func TestBitsAreTheStandards(t *testing.T) {
	for _, c := range []struct {
		f    float64
		want uint64
	}{
		{0, 0}, {math.Copysign(0, -1), 1 << 63},
		{1, 0x3FF0000000000000}, {-2, 0xC000000000000000}, {0.1, 0x3FB999999999999A}, {math.Pi, 0x400921FB54442D18},
		{5e-324, 1}, {-5e-324, 1<<63 | 1}, {math.MaxFloat64, 0x7FEFFFFFFFFFFFFF}, {-math.MaxFloat64, 0xFFEFFFFFFFFFFFFF},
		{math.Inf(1), 0x7FF0000000000000}, {math.Inf(-1), 0xFFF0000000000000},
	} {
		if b := Bits(c.f); b != c.want {
			t.Errorf("Bits(%v) is %x, not %x", c.f, b, c.want)
		}
		if f := Float(c.want); math.Float64bits(f) != c.want {
			t.Errorf("Float(%x) is %v", c.want, f)
		}
	}
}

// P1.2.
func TestThereIsOneNaN(t *testing.T) {
	for _, b := range nans() {
		f := math.Float64frombits(b)
		if Bits(f) != theNaN {
			t.Errorf("Bits of NaN %x is %x", b, Bits(f))
		}
		if got := math.Float64bits(Float(b)); got != theNaN {
			t.Errorf("Float(%x) has bits %x", b, got)
		}
		if Kind(f) != 0 {
			t.Errorf("Kind of NaN %x is %d", b, Kind(f))
		}
	}
	nought := 0.0
	if Bits(nought/nought) != theNaN || Bits(math.Sqrt(-1)) != theNaN || Bits(math.Inf(1)-math.Inf(1)) != theNaN {
		t.Error("NaNs that were reckoned have other bits")
	}
}

// P1.2.
func TestKind(t *testing.T) {
	for i, b := range rising() {
		want := 2
		switch {
		case i == 0:
			want = 1
		case i == minusNought:
			want = 3
		case i == minusNought+1:
			want = 4
		case i == len(rising())-1:
			want = 6
		case i > minusNought:
			want = 5
		}
		if k := Kind(math.Float64frombits(b)); k != want {
			t.Errorf("Kind of %x is %d, not %d", b, k, want)
		}
	}
}

// P1.3.
func TestLessAndEqualAreTheStandards(t *testing.T) {
	for i, x := range rising() {
		for j, y := range rising() {
			a, b := math.Float64frombits(x), math.Float64frombits(y)
			noughts := min(i, j) == minusNought && max(i, j) == minusNought+1
			if Less(a, b) != (i < j && !noughts) {
				t.Errorf("Less(%v, %v) is %v", a, b, Less(a, b))
			}
			if Equal(a, b) != (i == j || noughts) {
				t.Errorf("Equal(%v, %v) is %v", a, b, Equal(a, b))
			}
		}
	}
}

// P1.3.
func TestNaNIsNeitherLessNorEqual(t *testing.T) {
	for _, n := range nans() {
		a := math.Float64frombits(n)
		for _, x := range append(rising(), nans()...) {
			b := math.Float64frombits(x)
			if Less(a, b) || Less(b, a) || Equal(a, b) || Equal(b, a) {
				t.Errorf("NaN %x is less than, or equal to, %x", n, x)
			}
		}
	}
}

// P1.3.
func TestTotalOrdersAll(t *testing.T) {
	all := append([]uint64{0xFFF0000000000001}, rising()...)
	for i, x := range all {
		for j, y := range all {
			want := 0
			if i < j {
				want = -1
			} else if i > j {
				want = 1
			}
			if got := Total(math.Float64frombits(x), math.Float64frombits(y)); got != want {
				t.Errorf("Total of %x, %x is %d, not %d", x, y, got, want)
			}
		}
	}
	for _, x := range nans() {
		for _, y := range nans() {
			if got := Total(math.Float64frombits(x), math.Float64frombits(y)); got != 0 {
				t.Errorf("Total of NaNs %x, %x is %d", x, y, got)
			}
		}
	}
}

// P1.3.
func TestToInt(t *testing.T) {
	for _, c := range []struct {
		f    float64
		want int64
	}{
		{0, 0}, {math.Copysign(0, -1), 0}, {0.5, 0}, {-0.5, 0}, {0.9999999999999999, 0}, {-0.9999999999999999, 0}, {5e-324, 0}, {-5e-324, 0},
		{1, 1}, {1.5, 1}, {-1, -1}, {-1.5, -1}, {2.9, 2}, {-2.9, -2}, {9007199254740993, 9007199254740992},
		{9223372036854774784, 9223372036854774784}, {-9223372036854774784, -9223372036854774784},
		{9223372036854775808, greatest}, {-9223372036854775808, least},
		{9223372036854777856, greatest}, {-9223372036854777856, least},
		{18446744073709551616, greatest}, {-18446744073709551616, least}, {1e300, greatest}, {-1e300, least},
		{math.MaxFloat64, greatest}, {-math.MaxFloat64, least}, {math.Inf(1), greatest}, {math.Inf(-1), least},
	} {
		if i := ToInt(c.f); i != c.want {
			t.Errorf("ToInt(%v) is %d, not %d", c.f, i, c.want)
		}
	}
	for _, n := range nans() {
		if i := ToInt(math.Float64frombits(n)); i != 0 {
			t.Errorf("ToInt of NaN %x is %d", n, i)
		}
	}
}

// P1.3: held against whole numbers of any length, at and around each power of two.
func TestToIntIsWhatWholeNumbersSay(t *testing.T) {
	for e := range 70 {
		for _, f := range []float64{math.Ldexp(1, e), math.Nextafter(math.Ldexp(1, e), 0), math.Nextafter(math.Ldexp(1, e), math.Inf(1)), math.Ldexp(1.75, e)} {
			for _, f := range []float64{f, -f} {
				whole, _ := big.NewFloat(f).Int(nil)
				want := int64(greatest)
				if whole.IsInt64() {
					want = whole.Int64()
				} else if whole.Sign() < 0 {
					want = least
				}
				if i := ToInt(f); i != want {
					t.Errorf("ToInt(%v) is %d, not %d", f, i, want)
				}
			}
		}
	}
}

// P1.4.
func TestGetOfPutIsTheLowestBytes(t *testing.T) {
	for _, v := range words() {
		want := uint64(0)
		for n := 1; n <= 8; n++ {
			want |= v & (0xFF << (8 * (n - 1)))
			if got := Get(Put(n, v)); got != want {
				t.Errorf("Get(Put(%d, %x)) is %x", n, v, got)
			}
		}
	}
}

// P1.4.
func TestFloatAndBitsLeadBack(t *testing.T) {
	for _, b := range append(rising(), words()...) {
		f := math.Float64frombits(b)
		if Total(Float(Bits(f)), f) != 0 {
			t.Errorf("Float(Bits(%v)) is %v", f, Float(Bits(f)))
		}
		if got := Bits(Float(b)); got != b && f == f {
			t.Errorf("Bits(Float(%x)) is %x", b, got)
		}
	}
	for _, b := range nans() {
		if Bits(Float(b)) != theNaN || Total(Float(Bits(math.Float64frombits(b))), math.NaN()) != 0 {
			t.Errorf("NaN %x does not lead back to the one NaN", b)
		}
	}
}
