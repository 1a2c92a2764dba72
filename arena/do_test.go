package arena

import (
	"errors"
	"runtime"
	"testing"

	"tumbrel/api"
)

// word is a word of an arena, which has to be there.
func word(t *testing.T, a *Arena, at int) uint64 {
	t.Helper()
	w, e := a.Word(at)
	if e != api.OK {
		t.Fatalf("Word(%d) is %d", at, e)
	}
	return w
}

// done holds what a Do answered against what it should.
func done(t *testing.T, n int, e api.Errno, wantN int, wantE api.Errno) {
	t.Helper()
	if n != wantN || e != wantE {
		t.Errorf("Do is %d, %d, not %d, %d", n, e, wantN, wantE)
	}
}

// caught is what f panics with.
func caught(f func()) (p any) {
	defer func() { p = recover() }()
	f()
	return nil
}

// wrongs: calls that end a Do over two pages, with the error it has then.
func wrongs() []struct {
	name string
	call func(v *View)
	e    api.Errno
} {
	type wrong = struct {
		name string
		call func(v *View)
		e    api.Errno
	}
	l := []wrong{{"Need(false)", func(v *View) { v.Need(false) }, api.ErrState}}
	for _, at := range append(ends(), 3, 250, 254, 501, 510) {
		if e := wordError(at, 512); e != api.OK {
			l = append(l, wrong{"Get", func(v *View) { v.Get(at) }, e}, wrong{"Set", func(v *View) { v.Set(at, 1) }, e})
		}
	}
	return l
}

// P3.2.
func TestDoOfNil(t *testing.T) {
	a, want := filled(t, 1)
	n, e := a.Do(nil)
	done(t, n, e, 0, api.ErrArg)
	against(t, a, want)
}

// P3.2.
func TestDoOfNothing(t *testing.T) {
	a, want := filled(t, 1)
	calls := 0
	n, e := a.Do(func(v *View) {
		calls++
		if v == nil {
			t.Error("it has no View")
		}
	})
	done(t, n, e, 0, api.OK)
	against(t, a, want)
	if calls != 1 {
		t.Error("f was called", calls, "times")
	}
}

// P3.2.
func TestDoThatIsRight(t *testing.T) {
	a, want := filled(t, 2)
	last := word(t, a, 504)
	n, e := a.Do(func(v *View) {
		if v.Get(504) != last {
			t.Errorf("Get(504) is %x", v.Get(504))
		}
		v.Set(504, 0x1122334455667788)
		if v.Get(504) != 0x1122334455667788 || word(t, a, 504) != 0x1122334455667788 {
			t.Errorf("what was set is not there: %x", v.Get(504))
		}
		v.Need(true)
		v.Set(0, 5)
		v.Set(0, 6)
		v.Need(v.Get(0) == 6)
	})
	done(t, n, e, 8, api.OK)
	copy(want[504:], []byte{0x88, 0x77, 0x66, 0x55, 0x44, 0x33, 0x22, 0x11})
	copy(want, []byte{6, 0, 0, 0, 0, 0, 0, 0})
	against(t, a, want)
}

// P3.2: the chapter's example.
func TestDoUndoesItsSets(t *testing.T) {
	a := New(1)
	n, e := a.Do(func(v *View) {
		v.Set(0, 5)
		v.Set(256, 1)
	})
	done(t, n, e, 1, api.ErrRange)
	if word(t, a, 0) != 0 {
		t.Error("Word(0) is", word(t, a, 0))
	}
}

// P3.2, P3.3: a Do that ends early, at each sort of call, with nothing, or with much ahead of it.
func TestDoEndsAtTheFirstWrongCall(t *testing.T) {
	for _, w := range wrongs() {
		for _, ahead := range []int{0, 1, 3, 64, 200} {
			a, want := filled(t, 2)
			further := false
			n, e := a.Do(func(v *View) {
				for i := range ahead {
					switch i % 3 {
					case 0:
						v.Set(i*8%512, 77)
					case 1:
						v.Get(i * 8 % 512)
					case 2:
						v.Need(true)
					}
				}
				w.call(v)
				further = true
			})
			done(t, n, e, ahead, w.e)
			if further {
				t.Errorf("f goes on behind %s", w.name)
			}
			against(t, a, want)
		}
	}
}

// P3.2: of no pages each place is beyond the end.
func TestDoOfNoPages(t *testing.T) {
	for _, a := range []*Arena{New(0), {}} {
		n, e := a.Do(func(v *View) { v.Need(true); v.Get(0) })
		done(t, n, e, 1, api.ErrRange)
		n, e = a.Do(func(v *View) { v.Set(3, 1) })
		done(t, n, e, 0, api.ErrRange)
		n, e = a.Do(func(v *View) { v.Need(true) })
		done(t, n, e, 1, api.OK)
	}
}

// P3.2: behind a Do that failed the arena is as any other one.
func TestDoAfterDo(t *testing.T) {
	a, want := filled(t, 1)
	for i := range 20 {
		n, e := a.Do(func(v *View) { v.Set(8, uint64(100+i)); v.Need(i%2 == 1) })
		copy(want[8:], []byte{byte(100 + i), 0, 0, 0, 0, 0, 0, 0})
		if i%2 == 1 {
			done(t, n, e, 2, api.OK)
			against(t, a, want)
		} else {
			done(t, n, e, 1, api.ErrState)
		}
	}
	a.SetWord(16, 7)
	n, e := a.Do(func(v *View) { v.Set(16, 8); v.Get(1) })
	done(t, n, e, 1, api.ErrArg)
	if word(t, a, 16) != 7 {
		t.Error("what was set between two Dos is", word(t, a, 16))
	}
}

// P3.2: what f defers is done; what it asks of the View then stops it anew, and does not count.
func TestDoWithDeferredCalls(t *testing.T) {
	a, want := filled(t, 1)
	ran, further := false, false
	n, e := a.Do(func(v *View) {
		defer func() {
			ran = true
			v.Set(0, 9)
			further = true
		}()
		v.Set(8, 9)
		v.Need(false)
	})
	done(t, n, e, 1, api.ErrState)
	against(t, a, want)
	if !ran || further {
		t.Error("what f defers ran, and went further:", ran, further)
	}
}

// P3.2: who catches what f is stopped by goes no further all the same.
func TestDoWhoseStopIsCaught(t *testing.T) {
	a, want := filled(t, 2)
	n, e := a.Do(func(v *View) {
		v.Set(0, 9)
		if caught(func() { v.Get(5) }) == nil {
			t.Error("Get(5) stops nothing")
		}
		for _, call := range []func(){func() { v.Set(8, 9) }, func() { v.Get(8) }, func() { v.Need(true) }, func() { v.Need(false) }} {
			if caught(call) == nil {
				t.Error("f goes on")
			}
		}
	})
	done(t, n, e, 1, api.ErrArg)
	against(t, a, want)
}

// P3.2: panics of f's own go on as they are, when all is undone; also when f has caught a stop ahead of that.
func TestDoWithAPanicOfItsOwn(t *testing.T) {
	mine := errors.New("mine")
	for _, own := range []any{"text", 5, mine, &mine, struct{ work *work }{}, stop{}, api.ErrRange} {
		for _, stopped := range []bool{false, true} {
			a, want := filled(t, 2)
			var kept *View
			p := caught(func() {
				a.Do(func(v *View) {
					kept = v
					v.Set(0, 1)
					v.Set(504, 2)
					if stopped {
						caught(func() { v.Need(false) })
					}
					panic(own)
				})
				t.Error("the panic does not go on")
			})
			if p != own {
				t.Errorf("the panic is %v, not %v", p, own)
			}
			against(t, a, want)
			kept.Set(0, 1)
			against(t, a, want)
			n, e := a.Do(func(v *View) { v.Set(0, 3) })
			done(t, n, e, 1, api.OK)
		}
	}
}

// P3.2: panics of values that can't be compared, of the language, and of nil.
func TestDoWithOtherPanics(t *testing.T) {
	a, want := filled(t, 1)
	for _, f := range []func(){
		func() { panic([]int{1}) },
		func() { panic(map[int]int{}) },
		func() { var l []int; _ = l[len(want)] },
		func() { var p *Arena; _ = p.b },
		func() { panic(nil) },
	} {
		if caught(func() { a.Do(func(v *View) { v.Set(0, 1); f() }) }) == nil {
			t.Error("the panic does not go on")
		}
		against(t, a, want)
	}
	p := caught(func() { a.Do(func(v *View) { panic(nil) }) })
	if _, ok := p.(*runtime.PanicNilError); !ok {
		t.Error("a panic of nil is", p)
	}
}

// P3.2, P3.3: a goroutine that ends within f leaves nothing of it.
func TestDoThatNeverComesBack(t *testing.T) {
	a, want := filled(t, 1)
	over := make(chan bool)
	var kept *View
	go func() {
		defer close(over)
		a.Do(func(v *View) {
			kept = v
			v.Set(0, 1)
			runtime.Goexit()
		})
		t.Error("Do comes back")
	}()
	<-over
	against(t, a, want)
	kept.Set(0, 1)
	against(t, a, want)
}

// P3.2.
func TestViewOutsideOfItsDo(t *testing.T) {
	a, want := filled(t, 2)
	views := []*View{nil, {}}
	keep := func(v *View) {
		c := *v
		views = append(views, v, &c)
	}
	a.Do(func(v *View) { keep(v) })
	a.Do(func(v *View) { keep(v); v.Get(0) })
	a.Do(func(v *View) { keep(v); v.Need(false) })
	a.Do(func(v *View) { keep(v); v.Get(1) })
	caught(func() { a.Do(func(v *View) { keep(v); panic(1) }) })
	ask := func() {
		for i, v := range views {
			for _, at := range append(ends(), 3, 16) {
				if x := v.Get(at); x != 0 {
					t.Errorf("View %d: Get(%d) is %x", i, at, x)
				}
				v.Set(at, 77)
			}
			v.Need(true)
			v.Need(false)
		}
	}
	ask()
	against(t, a, want)
	n, e := a.Do(func(v *View) { v.Need(true); ask(); v.Need(true) })
	done(t, n, e, 2, api.OK)
	against(t, a, want)
}

// P3.3: what f changes beside its View is done by the Do, too.
func TestDoUndoesWhatItStores(t *testing.T) {
	for _, whole := range []bool{true, false} {
		a, want := filled(t, 4)
		c, was := filled(t, 4)
		n, e := a.Do(func(v *View) {
			a.Store(250, []byte{1, 2, 3, 4, 5, 6, 7, 8, 9, 10})
			a.Fill(500, 300, 7)
			a.SetWord(1016, 5)
			a.Store(0, nil)
			v.Set(504, 8)
			c.Fill(0, 8, 3)
			if d := a.Copy(); word(t, d, 504) != 8 {
				t.Error("a Copy within a Do is not as the arena is")
			}
			v.Need(whole)
		})
		copy(was, []byte{3, 3, 3, 3, 3, 3, 3, 3})
		against(t, c, was) // another arena is not this one's matter
		if !whole {
			done(t, n, e, 1, api.ErrState)
			against(t, a, want)
			continue
		}
		done(t, n, e, 2, api.OK)
		copy(want[250:], []byte{1, 2, 3, 4, 5, 6, 7, 8, 9, 10})
		for i := range 300 {
			want[500+i] = 7
		}
		copy(want[504:], []byte{8, 0, 0, 0, 0, 0, 0, 0})
		copy(want[1016:], []byte{5, 0, 0, 0, 0, 0, 0, 0})
		against(t, a, want)
	}
}

// P3.2: a Copy that is made within a Do is no part of it.
func TestCopyWithinADo(t *testing.T) {
	a, want := filled(t, 1)
	var c *Arena
	a.Do(func(v *View) {
		v.Set(0, 5)
		c = a.Copy()
		c.SetWord(8, 6)
		v.Need(false)
	})
	against(t, a, want)
	if word(t, c, 0) != 5 || word(t, c, 8) != 6 {
		t.Error("the Copy was changed", word(t, c, 0), word(t, c, 8))
	}
	n, e := c.Do(func(v *View) { v.Set(0, 7); v.Get(-8) })
	done(t, n, e, 1, api.ErrRange)
	if c.SetWord(16, 8) != api.OK || word(t, c, 0) != 5 || word(t, c, 16) != 8 {
		t.Error("the Copy can't be written into behind the Do", word(t, c, 0), word(t, c, 16))
	}
	against(t, a, want)
}

// P3.3: a Do within a Do: each is there as a whole, or not at all, and the inner one only with the outer one.
func TestDoWithinADo(t *testing.T) {
	for _, outer := range []bool{true, false} {
		for _, inner := range []bool{true, false} {
			a, want := filled(t, 4)
			n, e := a.Do(func(v *View) {
				v.Set(0, 1)
				v.Set(256, 1)
				n, e := a.Do(func(w *View) {
					w.Set(0, 2)
					w.Set(512, 2)
					v.Set(768, 2)
					w.Need(inner)
				})
				if inner {
					done(t, n, e, 3, api.OK)
				} else {
					done(t, n, e, 2, api.ErrState)
				}
				v.Set(264, 3)
				v.Need(outer)
			})
			if outer {
				done(t, n, e, 5, api.OK)
				expect(want, map[int]byte{0: 1, 256: 1, 264: 3})
				if inner {
					expect(want, map[int]byte{0: 2, 512: 2, 768: 2})
				}
			} else {
				done(t, n, e, 4, api.ErrState)
			}
			against(t, a, want)
		}
	}
}

// expect makes words small numbers.
func expect(b []byte, words map[int]byte) {
	for at, c := range words {
		copy(b[at:], []byte{c, 0, 0, 0, 0, 0, 0, 0})
	}
}

// P3.2, P3.3: what the outer View is refused within the inner Do stops both; all is undone.
func TestStopOfAnOuterDo(t *testing.T) {
	a, want := filled(t, 2)
	c, was := filled(t, 1)
	further := false
	n, e := a.Do(func(v *View) {
		v.Set(0, 1)
		a.Do(func(w *View) {
			w.Set(256, 2)
			c.Do(func(x *View) {
				x.Set(0, 3)
				v.Set(1, 4)
				further = true
			})
			further = true
		})
		further = true
	})
	done(t, n, e, 1, api.ErrArg)
	against(t, a, want)
	against(t, c, was)
	if further {
		t.Error("one of the functions goes on")
	}
}

// P3.2: an inner Do's View is outside of it behind it, though the outer one is under way; and what comes behind a failed inner one is the outer one's.
func TestInnerViewInTheOuterDo(t *testing.T) {
	for _, ok := range []bool{true, false} {
		a, want := filled(t, 1)
		n, e := a.Do(func(v *View) {
			var kept *View
			a.Do(func(w *View) { kept = w; w.Need(ok) })
			kept.Set(0, 9)
			kept.Need(false)
			if kept.Get(0) != 0 {
				t.Error("Get is", kept.Get(0))
			}
			v.Set(8, 9)
			caught(func() { a.Do(func(w *View) { w.Set(16, 9); panic(1) }) })
			v.Need(true)
			v.Need(false)
		})
		done(t, n, e, 2, api.ErrState)
		against(t, a, want)
	}
}

// P3.3: Dos of many calls, some of them wrong, some within others, against a list that is copied ahead of each.
func TestManyDos(t *testing.T) {
	a, want := filled(t, 3)
	x := uint64(1)
	next := func(n int) int {
		x = x*6364136223846793005 + 1442695040888963407
		return int(x>>33) % n
	}
	var play func(deep int) bool
	play = func(deep int) bool {
		was := append([]byte{}, want...)
		right, wantE := 0, api.OK
		n, e := a.Do(func(v *View) {
			for range next(12) {
				at := next(96) * 8
				switch next(16) {
				case 0:
					if deep < 4 {
						play(deep + 1)
					}
				case 1:
					if next(2) == 0 {
						wantE = api.ErrRange
						v.Get(768 + at)
					}
				case 2:
					if next(2) == 0 {
						wantE = api.ErrState
						v.Need(false)
					}
				default:
					b := byte(next(256))
					v.Set(at, uint64(b))
					expect(want, map[int]byte{at: b})
					right++
				}
			}
		})
		done(t, n, e, right, wantE)
		if e != api.OK {
			copy(want, was)
		}
		against(t, a, want)
		return e == api.OK
	}
	good := 0
	for range 3000 {
		if play(0) {
			good++
		}
	}
	if good < 300 || good > 2700 {
		t.Error("of 3000 Dos there were right:", good)
	}
}

// P3.2, P3.3: Dos that are nested deep.
func TestDeepDos(t *testing.T) {
	a, want := filled(t, 2)
	var play func(deep int)
	play = func(deep int) {
		n, e := a.Do(func(v *View) {
			v.Set(deep%64*8, uint64(deep))
			if deep > 0 {
				play(deep - 1)
			}
		})
		done(t, n, e, 1, api.OK)
	}
	n, e := a.Do(func(v *View) {
		play(5000)
		v.Need(word(t, a, 0) == 0)
		v.Need(word(t, a, 8) == 1)
		v.Need(false)
	})
	done(t, n, e, 2, api.ErrState)
	against(t, a, want)
}
