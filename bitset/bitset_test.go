package bitset

import (
	"math"
	"slices"
	"testing"

	"tumbrel/api"
)

// sizes: lengths at and around which words end.
func sizes() []int { return []int{0, 1, 2, 7, 63, 64, 65, 127, 128, 129, 200} }

// pattern: a row of n bits by a rule, and the same as a list.
func pattern(n int, rule func(i int) bool) (*Set, []bool) {
	s, l := New(n), make([]bool, n)
	for i := range n {
		l[i] = rule(i)
		s.Put(i, l[i])
	}
	return s, l
}

// rules: what a row may look like: nothing, all, alone at the ends of words, mixed.
func rules() []func(i int) bool {
	return []func(i int) bool{
		func(i int) bool { return false },
		func(i int) bool { return true },
		func(i int) bool { return i%2 == 1 },
		func(i int) bool { return i%64 == 0 },
		func(i int) bool { return i%64 == 63 },
		func(i int) bool { return i%64 != 63 },
		func(i int) bool { return i < 70 },
		func(i int) bool { return i >= 70 },
		func(i int) bool { return i*i%7 < 3 },
		func(i int) bool { return uint32(i+1)*2654435761>>31 == 1 },
	}
}

// seek is Next, as it is said, over a list.
func seek(l []bool, from int, v bool) (int, bool) {
	for i := max(from, 0); i < len(l); i++ {
		if l[i] == v {
			return i, true
		}
	}
	return 0, false
}

// against holds all that can be asked of a row against a list.
func against(t *testing.T, s *Set, l []bool) {
	t.Helper()
	if s.Len() != len(l) {
		t.Fatalf("Len is %d, not %d", s.Len(), len(l))
	}
	var all []int
	for i, v := range l {
		if v {
			all = append(all, i)
		}
		if s.Has(i) != v {
			t.Errorf("of %d bits Has(%d) is %v", len(l), i, !v)
		}
	}
	if s.Count() != len(all) || !slices.Equal(s.All(), all) {
		t.Errorf("of %d bits Count is %d, All %v, not %v", len(l), s.Count(), s.All(), all)
	}
	for from := -2; from <= len(l)+2; from++ {
		for _, v := range []bool{true, false} {
			want, there := seek(l, from, v)
			if i, ok := s.Next(from, v); i != want || ok != there {
				t.Errorf("of %d bits Next(%d, %v) is %d, %v, not %d, %v", len(l), from, v, i, ok, want, there)
			}
		}
	}
}

func TestNilRow(t *testing.T) {
	var s *Set
	for _, i := range []int{math.MinInt, -1, 0, 1, math.MaxInt} {
		if s.Has(i) {
			t.Errorf("Has(%d)", i)
		}
		for _, v := range []bool{true, false} {
			if e := s.Put(i, v); e != api.ErrNil {
				t.Errorf("Put(%d, %v) is %d", i, v, e)
			}
			if at, ok := s.Next(i, v); at != 0 || ok {
				t.Errorf("Next(%d, %v) is %d, %v", i, v, at, ok)
			}
		}
	}
	if s.Len() != 0 || s.Count() != 0 || len(s.All()) != 0 {
		t.Error("it has bits", s.Len(), s.Count(), s.All())
	}
	if s.Copy() != nil {
		t.Error("its Copy is not nil")
	}
	if !Same(nil, nil) || !Same(nil, New(0)) || !Same(New(0), nil) || !Same(&Set{}, nil) {
		t.Error("it is not the same as a row without bits")
	}
	if Same(nil, New(1)) || Same(New(1), nil) || Same(New(Most), nil) {
		t.Error("it is the same as a row with bits")
	}
}

// P2.1.
func TestNewHoldsItsLength(t *testing.T) {
	if Most != 65536 {
		t.Error("Most is", Most)
	}
	for _, c := range []struct{ n, want int }{
		{math.MinInt, 0}, {-64, 0}, {-1, 0}, {0, 0}, {1, 1}, {63, 63}, {64, 64}, {65, 65},
		{Most - 1, Most - 1}, {Most, Most}, {Most + 1, Most}, {Most + 64, Most}, {math.MaxInt, Most},
	} {
		s := New(c.n)
		if s == nil || s.Len() != c.want || s.Count() != 0 || len(s.All()) != 0 {
			t.Fatalf("New(%d) has %d bits, %d of them 1", c.n, s.Len(), s.Count())
		}
		if i, ok := s.Next(0, true); i != 0 || ok {
			t.Errorf("New(%d): Next is %d, %v", c.n, i, ok)
		}
		if i, ok := s.Next(0, false); i != 0 || ok != (c.want > 0) {
			t.Errorf("New(%d): Next of noughts is %d, %v", c.n, i, ok)
		}
	}
}

// P2.1.
func TestPutBeyondTheEnds(t *testing.T) {
	for _, n := range append(sizes(), Most, Most+1) {
		s := New(n)
		n = min(n, Most)
		for i := range n {
			s.Put(i, i%3 == 0)
		}
		was := s.Copy()
		for _, i := range []int{math.MinInt, -64, -1, n, n + 1, n + 63, n + 64, Most, Most + 1, math.MaxInt} {
			for _, v := range []bool{true, false} {
				if e := s.Put(i, v); e != api.ErrRange {
					t.Errorf("of %d bits Put(%d, %v) is %d", n, i, v, e)
				}
			}
			if s.Has(i) {
				t.Errorf("of %d bits Has(%d)", n, i)
			}
		}
		if !Same(s, was) || s.Count() != (n+2)/3 || s.Len() != n {
			t.Errorf("a refused Put changed a row of %d bits", n)
		}
	}
}

// P2.1.
func TestPutChangesOneBit(t *testing.T) {
	for _, n := range sizes() {
		for _, rule := range rules() {
			for k := range n {
				for _, v := range []bool{true, false, false, true, true} {
					s, l := pattern(n, rule)
					l[k] = v
					if e := s.Put(k, v); e != api.OK {
						t.Fatalf("of %d bits Put(%d) is %d", n, k, e)
					}
					for i := range n {
						if s.Has(i) != l[i] {
							t.Fatalf("of %d bits Put(%d, %v): Has(%d) is %v", n, k, v, i, s.Has(i))
						}
					}
				}
			}
		}
	}
}

// P2.1, P2.2: all rows of up to nine bits.
func TestAllSmallRows(t *testing.T) {
	for n := range 10 {
		for x := range 1 << n {
			s, l := pattern(n, func(i int) bool { return x>>i&1 == 1 })
			against(t, s, l)
		}
	}
}

// P2.1, P2.2.
func TestRowsOfSeveralWords(t *testing.T) {
	for _, n := range sizes() {
		for _, rule := range rules() {
			s, l := pattern(n, rule)
			against(t, s, l)
		}
	}
}

// P2.1, P2.2: bits that change again and again.
func TestLongChanges(t *testing.T) {
	const n = 150
	s, l := New(n), make([]bool, n)
	x := uint64(1)
	for round := range 3000 {
		x = x*6364136223846793005 + 1442695040888963407
		i, v := int(x>>33)%n, x>>62 != 0
		l[i] = v
		if e := s.Put(i, v); e != api.OK {
			t.Fatalf("Put(%d) is %d", i, e)
		}
		if round%50 == 0 {
			against(t, s, l)
		}
	}
	against(t, s, l)
}

// P2.2.
func TestNextAtTheEdges(t *testing.T) {
	s := New(10)
	s.Put(3, true)
	for _, c := range []struct {
		from, want int
		v, ok      bool
	}{
		{0, 3, true, true}, {3, 3, true, true}, {4, 0, true, false}, {3, 4, false, true}, {9, 9, false, true},
		{10, 0, false, false}, {10, 0, true, false}, {math.MaxInt, 0, false, false}, {math.MaxInt, 0, true, false},
		{-1, 3, true, true}, {-1, 0, false, true}, {math.MinInt, 3, true, true}, {math.MinInt, 0, false, true},
	} {
		if i, ok := s.Next(c.from, c.v); i != c.want || ok != c.ok {
			t.Errorf("Next(%d, %v) is %d, %v", c.from, c.v, i, ok)
		}
	}
	if s.Count() != 1 {
		t.Error("Count is", s.Count())
	}
}

// P2.2: noughts behind the end of the row are none of its bits.
func TestNextOfAFullRow(t *testing.T) {
	for _, n := range []int{1, 5, 63, 64, 65, 130, Most - 1, Most} {
		s, _ := pattern(n, func(int) bool { return true })
		for _, from := range []int{-1, 0, n - 1, n} {
			if i, ok := s.Next(from, false); i != 0 || ok {
				t.Errorf("of %d bits Next(%d, false) is %d, %v", n, from, i, ok)
			}
		}
		if i, ok := s.Next(n-1, true); i != n-1 || !ok || s.Count() != n {
			t.Errorf("of %d bits the last one is %d, %v; Count %d", n, i, ok, s.Count())
		}
	}
}

// P2.2.
func TestCopyHasNothingInCommon(t *testing.T) {
	for _, n := range sizes() {
		s, l := pattern(n, func(i int) bool { return i%3 == 0 })
		c := s.Copy()
		if c == s || !Same(s, c) || !Same(c, s) {
			t.Fatalf("Copy of %d bits is not the same", n)
		}
		for i := range n {
			c.Put(i, !l[i])
		}
		against(t, s, l)
		d := s.Copy()
		for i := range n {
			s.Put(i, false)
		}
		against(t, d, l)
	}
}

// P2.2.
func TestSame(t *testing.T) {
	for _, n := range sizes() {
		for _, m := range sizes() {
			a, b := New(n), New(m)
			if Same(a, b) != (n == m) {
				t.Errorf("rows of %d and %d noughts: %v", n, m, n != m)
			}
			if n != m || n == 0 {
				continue
			}
			for i := range n {
				a.Put(i, true)
				if Same(a, b) || Same(b, a) {
					t.Errorf("of %d bits %d is one of a alone", n, i)
				}
				b.Put(i, true)
				if !Same(a, b) || !Same(a, a) {
					t.Errorf("of %d bits all up to %d are alike", n, i)
				}
			}
		}
	}
	a, b := New(64), New(65)
	for i := range 64 {
		a.Put(i, true)
		b.Put(i, true)
	}
	if Same(a, b) || Same(b, a) {
		t.Error("rows of other lengths are the same")
	}
}

// P2.2: what was put and taken back leaves no trace.
func TestSameAfterPutBack(t *testing.T) {
	for _, n := range sizes() {
		a := New(n)
		for i := range n {
			a.Put(i, true)
		}
		for i := range n {
			a.Put(i, false)
		}
		if !Same(a, New(n)) || a.Count() != 0 {
			t.Errorf("a row of %d bits is not as it was", n)
		}
	}
}

func TestAllAnswersNewMemory(t *testing.T) {
	s, l := pattern(80, func(i int) bool { return i%5 == 0 })
	a := s.All()
	for i := range a {
		a[i] = 77
	}
	_ = append(a[:2], 1, 2, 3)
	against(t, s, l)
}

// P2.3.
func TestNextGoesThroughAll(t *testing.T) {
	for _, n := range append(sizes(), 1000, Most) {
		for _, rule := range rules() {
			s, _ := pattern(n, rule)
			var got []int
			for i, ok := s.Next(0, true); ok; i, ok = s.Next(i+1, true) {
				got = append(got, i)
			}
			if !slices.Equal(got, s.All()) || len(got) != s.Count() {
				t.Errorf("of %d bits Next goes through %d, All tells %d, Count %d", n, len(got), len(s.All()), s.Count())
			}
		}
	}
}
