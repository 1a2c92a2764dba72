package arena

import (
	"bytes"

	"tumbrel/api"
)

// View is an arena within Do: what goes beyond its bounds ends the Do.
type View struct {
	work *work // apart from the View, so that a copy of it ends with the Do, too
}

// work is a Do that is under way.
type work struct {
	arena *Arena // nil when the Do is over
	outer *work  // the Do of the same arena within which this one was called
	right int    // how many calls of its View were right
	fail  api.Errno
	kept  map[int][]byte // by their numbers, pages as they were when the Do began, of those that were written into
}

// stop is what a Do's function is stopped by. It names the Do: functions of others, within which it was called, are stopped by it on the way.
type stop struct{ work *work }

// Do calls f: what it does is done as a whole, or not at all.
func (a *Arena) Do(f func(v *View)) (right int, e api.Errno) {
	if a == nil {
		return 0, api.ErrNil
	}
	if f == nil {
		return 0, api.ErrArg
	}
	w := &work{arena: a, outer: a.work, kept: map[int][]byte{}}
	a.work = w
	came := false
	defer func() {
		p := recover()
		w.end(came && w.fail == api.OK) // a fail counts even where f has caught the stop
		if p != nil && p != (stop{w}) {
			panic(p)
		}
		right, e = w.right, w.fail
	}()
	f(&View{w})
	came = true // not so, if f's goroutine ends within f
	return
}

// Get is the word at that place.
func (v *View) Get(at int) uint64 {
	w := v.underWay()
	if w == nil {
		return 0
	}
	x, e := w.arena.Word(at)
	w.count(e)
	return x
}

// Set makes the word at that place x.
func (v *View) Set(at int, x uint64) {
	if w := v.underWay(); w != nil {
		w.count(w.arena.SetWord(at, x))
	}
}

// Need asks for what has to be so.
func (v *View) Need(ok bool) {
	w := v.underWay()
	if w == nil {
		return
	}
	if !ok {
		w.count(api.ErrState)
	}
	w.count(api.OK)
}

// underWay is the View's Do, nil if it is over. A function that was stopped and goes on nonetheless is stopped anew.
func (v *View) underWay() *work {
	if v == nil || v.work == nil || v.work.arena == nil {
		return nil
	}
	if v.work.fail != api.OK {
		panic(stop{v.work})
	}
	return v.work
}

// count counts a call that was right, or stops the Do's function.
func (w *work) count(e api.Errno) {
	if e != api.OK {
		w.fail = e
		panic(stop{w})
	}
	w.right++
}

// keep keeps the pages in which the n bytes from at on lie, unless they are kept already.
func (w *work) keep(at, n int) {
	for p := at / api.Page; p*api.Page < at+n; p++ {
		if _, ok := w.kept[p]; !ok {
			w.kept[p] = bytes.Clone(w.arena.page(p))
		}
	}
}

// end ends the Do: what was done stays, or is undone.
func (w *work) end(whole bool) {
	for p, was := range w.kept {
		if !whole {
			copy(w.arena.page(p), was)
		} else if w.outer != nil {
			w.outer.inherit(p, was)
		}
	}
	w.arena.work = w.outer
	w.arena, w.outer, w.kept = nil, nil, nil // a View may outlive its Do
}

// inherit keeps a page as it was when an inner Do began, which the outer one may have to undo with all else.
func (w *work) inherit(p int, was []byte) {
	if _, ok := w.kept[p]; !ok {
		w.kept[p] = was
	}
}

// page is the bytes of a page.
func (a *Arena) page(p int) []byte { return a.b[p*api.Page : (p+1)*api.Page] }
