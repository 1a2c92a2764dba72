package remote

import (
	"math"
	"slices"
	"testing"

	"tumbrel/api"
	"tumbrel/link"
)

const (
	least    = math.MinInt64
	greatest = math.MaxInt64
)

// post is an address with the two threads it goes between.
type post struct{ from, to, at int }

// want is what has to be under way: in come what has come to its thread, in held what waits to go, each in the order in which it did.
type want struct {
	threads, batch int
	come, held     []post
}

func (w *want) has(t int) bool { return 0 <= t && t < w.threads }

func (w *want) post(from, to, at int) api.Errno {
	if !w.has(from) || !w.has(to) || from == to {
		return api.ErrArg
	}
	w.held = append(w.held, post{from, to, at})
	n := 0
	for _, p := range w.held {
		if p.from == from && p.to == to {
			n++
		}
	}
	if n >= w.batch {
		w.leave(from, to)
	}
	return api.OK
}

// leave makes all come that one holds for another one: how many.
func (w *want) leave(from, to int) int {
	var stay []post
	for _, p := range w.held {
		if p.from == from && p.to == to {
			w.come = append(w.come, p)
		} else {
			stay = append(stay, p)
		}
	}
	n := len(w.held) - len(stay)
	w.held = stay
	return n
}

func (w *want) send(from int) int {
	n := 0
	for to := range w.threads {
		n += w.leave(from, to)
	}
	return n
}

func (w *want) next(to int) (int, bool) {
	for i, p := range w.come {
		if p.to == to {
			w.come = slices.Delete(slices.Clone(w.come), i, i+1)
			return p.at, true
		}
	}
	return 0, false
}

func (w *want) waits(to int) int {
	n := 0
	for _, p := range w.come {
		if p.to == to {
			n++
		}
	}
	return n
}

func (w *want) holds(from int) int {
	n := 0
	for _, p := range w.held {
		if p.from == from {
			n++
		}
	}
	return n
}

func (w *want) all() []int {
	var l []int
	for t := range w.threads {
		for _, p := range w.come {
			if p.to == t {
				l = append(l, p.at)
			}
		}
		for to := range w.threads {
			for _, p := range w.held {
				if p.from == t && p.to == to {
					l = append(l, p.at)
				}
			}
		}
	}
	return l
}

// clamp: what New is given, and how many that is, from lo to 64.
func clamp(n, lo int) int { return min(max(n, lo), 64) }

// counts: numbers of threads, and of addresses of a batch.
func counts() []int {
	return []int{least, least + 1, -1 << 32, -65, -64, -2, -1, 0, 1, 2, 3, 31, 32, 33, 62, 63, 64, 65, 66, 128, 1 << 31, 1 << 32, 1<<32 + 2, greatest - 1, greatest}
}

// nobodies: threads that there are in no mail.
func nobodies() []int {
	return []int{least, least + 1, -1 << 32, -1<<32 + 1, -65, -64, -63, -2, -1, 64, 65, 127, 128, 1 << 16, 1 << 32, 1<<32 + 1, greatest - 1, greatest}
}

// oddly: addresses that no arena has, and those at an arena's ends.
func oddly() []int {
	return []int{least, least + 1, -1 << 32, -256, -16, -1, 0, 1, 16, 65535, 65536, 1 << 32, greatest - 1, greatest}
}

// made is a mail, and what it has to be.
func made(t *testing.T, threads, batch int) (*Mail, *want) {
	t.Helper()
	m := New(threads, batch)
	if m == nil {
		t.Fatalf("New(%d, %d) is nil", threads, batch)
	}
	return m, &want{threads: clamp(threads, 0), batch: clamp(batch, 1)}
}

// against holds all that can be asked of a mail against what it has to be.
func against(t *testing.T, m *Mail, w *want) {
	t.Helper()
	if n := m.Threads(); n != w.threads {
		t.Fatalf("Threads is %d, not %d", n, w.threads)
	}
	for _, th := range append([]int{-1, w.threads}, nobodies()...) {
		if m.Waits(th) != 0 || m.Held(th) != 0 {
			t.Fatalf("of %d threads Waits(%d), Held are %d, %d", w.threads, th, m.Waits(th), m.Held(th))
		}
	}
	for th := range w.threads {
		if n := m.Waits(th); n != w.waits(th) {
			t.Fatalf("Waits(%d) is %d, not %d", th, n, w.waits(th))
		}
		if n := m.Held(th); n != w.holds(th) {
			t.Fatalf("Held(%d) is %d, not %d", th, n, w.holds(th))
		}
	}
	if l := m.All(); !slices.Equal(l, w.all()) {
		t.Fatalf("All is %v, not %v", l, w.all())
	}
}

// posted posts an address, as has to be answered; so do sent and nexted.
func posted(t *testing.T, m *Mail, w *want, from, to, at int) {
	t.Helper()
	if e, we := m.Post(from, to, at), w.post(from, to, at); e != we {
		t.Fatalf("Post(%d, %d, %d) is %d, not %d", from, to, at, e, we)
	}
}

func sent(t *testing.T, m *Mail, w *want, from int) {
	t.Helper()
	if n, wn := m.Send(from), w.send(from); n != wn {
		t.Fatalf("Send(%d) is %d, not %d", from, n, wn)
	}
}

func nexted(t *testing.T, m *Mail, w *want, to int) {
	t.Helper()
	at, ok := m.Next(to)
	if wat, wok := w.next(to); at != wat || ok != wok {
		t.Fatalf("Next(%d) is %d, %v, not %d, %v", to, at, ok, wat, wok)
	}
}

// postIs posts an address, as is written out; so do sendIs, nextIs, allIs, waitIs and heldIs.
func postIs(t *testing.T, m *Mail, from, to, at int, want api.Errno) {
	t.Helper()
	if e := m.Post(from, to, at); e != want {
		t.Errorf("Post(%d, %d, %d) is %d, not %d", from, to, at, e, want)
	}
}

func sendIs(t *testing.T, m *Mail, from, want int) {
	t.Helper()
	if n := m.Send(from); n != want {
		t.Errorf("Send(%d) is %d, not %d", from, n, want)
	}
}

func nextIs(t *testing.T, m *Mail, to, want int, there bool) {
	t.Helper()
	if at, ok := m.Next(to); at != want || ok != there {
		t.Errorf("Next(%d) is %d, %v, not %d, %v", to, at, ok, want, there)
	}
}

func allIs(t *testing.T, m *Mail, want ...int) {
	t.Helper()
	if l := m.All(); !slices.Equal(l, want) {
		t.Errorf("All is %v, not %v", l, want)
	}
}

// waitIs: how many have come to each thread.
func waitIs(t *testing.T, m *Mail, want ...int) {
	t.Helper()
	for th, n := range want {
		if m.Waits(th) != n {
			t.Errorf("Waits(%d) is %d, not %d", th, m.Waits(th), n)
		}
	}
}

// heldIs: how many each thread holds.
func heldIs(t *testing.T, m *Mail, want ...int) {
	t.Helper()
	for th, n := range want {
		if m.Held(th) != n {
			t.Errorf("Held(%d) is %d, not %d", th, m.Held(th), n)
		}
	}
}

// drawn: numbers that are mixed of a seed.
func drawn(seed, k int) int { return int(link.New(uint64(seed)<<32+uint64(k)).Key >> 1) }

// A nil mail.
func TestNilMail(t *testing.T) {
	var m *Mail
	for range 2 {
		if m.Threads() != 0 {
			t.Error("Threads is", m.Threads())
		}
		for _, th := range append(nobodies(), 0, 1, 63) {
			for _, to := range append(nobodies(), 0, 1, 63) {
				postIs(t, m, th, to, 16, api.ErrNil)
			}
			sendIs(t, m, th, 0)
			nextIs(t, m, th, 0, false)
			if m.Waits(th) != 0 || m.Held(th) != 0 {
				t.Errorf("Waits(%d), Held are %d, %d", th, m.Waits(th), m.Held(th))
			}
		}
		allIs(t, m)
	}
}

// P1: a mail that nobody made, and one between none or one, end all calls; there is nobody to post to.
func TestMailBetweenNobody(t *testing.T) {
	for m, threads := range map[*Mail]int{{}: 0, New(0, 1): 0, New(-1, 64): 0, New(least, least): 0, New(least, greatest): 0, New(1, 1): 1, New(1, 2): 1} {
		for _, th := range append(nobodies(), 0, 1, 63) {
			for _, to := range append(nobodies(), 0, 1, 63) {
				postIs(t, m, th, to, 16, api.ErrArg)
			}
			sendIs(t, m, th, 0)
			nextIs(t, m, th, 0, false)
		}
		against(t, m, &want{threads: threads, batch: 1})
	}
}

// The chapter's example.
func TestExample(t *testing.T) {
	m := New(2, 2)
	postIs(t, m, 0, 1, 16, api.OK)
	waitIs(t, m, 0, 0)
	heldIs(t, m, 1, 0)
	allIs(t, m, 16)
	postIs(t, m, 0, 1, 32, api.OK)
	waitIs(t, m, 0, 2)
	heldIs(t, m, 0, 0)
	allIs(t, m, 16, 32)
	nextIs(t, m, 1, 16, true)
	nextIs(t, m, 1, 32, true)
	nextIs(t, m, 1, 0, false)
	allIs(t, m)
}

// P12.1: so many threads, from the first to the last one, and none beyond.
func TestNewHoldsItsThreads(t *testing.T) {
	for _, threads := range counts() {
		m, w := made(t, threads, 2)
		against(t, m, w)
		for from := -2; from < 67; from++ {
			for to := -2; to < 67; to++ {
				want := api.ErrArg
				if from >= 0 && to >= 0 && from < w.threads && to < w.threads && from != to {
					want = api.OK
				}
				postIs(t, m, from, to, 0, want)
			}
		}
		if n := len(m.All()); w.threads > 0 && n != w.threads*(w.threads-1) {
			t.Errorf("of New(%d, 2) are under way %d", threads, n)
		}
	}
}

// P12.1: batches of so many: one less are held, and that many go.
func TestNewHoldsItsBatches(t *testing.T) {
	for _, batch := range counts() {
		m, w := made(t, 3, batch)
		for k := range 3*w.batch + 2 {
			postIs(t, m, 2, 0, 16*k, api.OK)
			if come := (k + 1) / w.batch * w.batch; m.Waits(0) != come || m.Held(2) != k+1-come {
				t.Fatalf("of New(3, %d) behind %d Posts Waits, Held are %d, %d", batch, k+1, m.Waits(0), m.Held(2))
			}
		}
		waitIs(t, m, m.Waits(0), 0, 0)
		heldIs(t, m, 0, 0, m.Held(2))
		for k := range 3*w.batch + 2 {
			if k == 3*w.batch { // in batches of one all have come
				sendIs(t, m, 2, m.Held(2))
			}
			nextIs(t, m, 0, 16*k, true)
		}
		nextIs(t, m, 0, 0, false)
		allIs(t, m)
	}
}

// P12.1: from and to threads that there are not, and to oneself; nothing is changed.
func TestPostThatMayNotBe(t *testing.T) {
	m, w := made(t, 3, 2)
	for _, p := range []post{{0, 1, 16}, {0, 2, 32}, {1, 0, 48}, {2, 1, 64}, {2, 1, 80}} {
		posted(t, m, w, p.from, p.to, p.at)
	}
	for _, no := range append(nobodies(), 3, 4, -3) {
		for th := range 3 {
			postIs(t, m, no, th, 7, api.ErrArg)
			postIs(t, m, th, no, 7, api.ErrArg)
			postIs(t, m, th, th, 7, api.ErrArg)
		}
		postIs(t, m, no, no, 7, api.ErrArg)
		postIs(t, m, no, -1, 7, api.ErrArg)
		against(t, m, w)
	}
}

// P12.1: a batch of one doesn't wait.
func TestBatchesOfOne(t *testing.T) {
	for _, batch := range []int{1, 0, -1, least} {
		m, w := made(t, 4, batch)
		for k := range 60 {
			posted(t, m, w, k%4, (k+1+k/4%3)%4, 16*k)
			heldIs(t, m, 0, 0, 0, 0)
			against(t, m, w)
			sendIs(t, m, k%4, 0)
		}
		for to := range 4 {
			for range 17 {
				nexted(t, m, w, to)
			}
		}
		against(t, m, w)
	}
}

// P12.1: what one holds for several others makes no batch together, nor does what several hold for one.
func TestBatchesAreOfTwoThreads(t *testing.T) {
	m := New(4, 3)
	for _, p := range []post{{0, 1, 1}, {0, 2, 2}, {0, 3, 3}, {0, 1, 4}, {0, 2, 5}, {0, 3, 6}, {1, 3, 7}, {2, 3, 8}, {1, 3, 9}, {2, 3, 10}, {1, 0, 11}, {1, 0, 12}} {
		postIs(t, m, p.from, p.to, p.at, api.OK)
	}
	waitIs(t, m, 0, 0, 0, 0)
	heldIs(t, m, 6, 4, 2, 0)
	allIs(t, m, 1, 4, 2, 5, 3, 6, 11, 12, 7, 9, 8, 10)
	postIs(t, m, 2, 3, 13, api.OK) // this is a batch of three, and the others stay
	waitIs(t, m, 0, 0, 0, 3)
	heldIs(t, m, 6, 4, 0, 0)
	postIs(t, m, 0, 3, 14, api.OK)
	waitIs(t, m, 0, 0, 0, 6)
	heldIs(t, m, 4, 4, 0, 0)
	allIs(t, m, 1, 4, 2, 5, 11, 12, 7, 9, 8, 10, 13, 3, 6, 14)
	for _, at := range []int{8, 10, 13, 3, 6, 14} { // the batch that went first has come first
		nextIs(t, m, 3, at, true)
	}
	nextIs(t, m, 3, 0, false)
	allIs(t, m, 1, 4, 2, 5, 11, 12, 7, 9)
}

// P12.1: behind a batch that went the next one is counted anew, also behind a Send.
func TestTheNextBatch(t *testing.T) {
	m := New(2, 3)
	postIs(t, m, 1, 0, 1, api.OK)
	postIs(t, m, 1, 0, 2, api.OK)
	sendIs(t, m, 1, 2)
	waitIs(t, m, 2, 0)
	postIs(t, m, 1, 0, 3, api.OK)
	heldIs(t, m, 0, 1)
	postIs(t, m, 1, 0, 4, api.OK)
	heldIs(t, m, 0, 2)
	waitIs(t, m, 2, 0)
	postIs(t, m, 1, 0, 5, api.OK)
	heldIs(t, m, 0, 0)
	waitIs(t, m, 5, 0)
	postIs(t, m, 1, 0, 6, api.OK)
	heldIs(t, m, 0, 1)
	allIs(t, m, 1, 2, 3, 4, 5, 6)
	sendIs(t, m, 1, 1)
	sendIs(t, m, 1, 0)
	for at := 1; at < 7; at++ {
		nextIs(t, m, 0, at, true)
	}
	nextIs(t, m, 0, 0, false)
}

// P12.1: Send of one that holds for several, of one that holds nothing, and of none.
func TestSend(t *testing.T) {
	m := New(4, 64)
	for _, p := range []post{{1, 3, 1}, {1, 0, 2}, {1, 2, 3}, {1, 3, 4}, {1, 0, 5}, {2, 3, 6}, {2, 0, 7}, {0, 3, 8}, {0, 1, 9}} {
		postIs(t, m, p.from, p.to, p.at, api.OK)
	}
	heldIs(t, m, 2, 5, 2, 0)
	for _, no := range append(nobodies(), 3, 4, 5) {
		sendIs(t, m, no, 0)
	}
	heldIs(t, m, 2, 5, 2, 0)
	waitIs(t, m, 0, 0, 0, 0)
	sendIs(t, m, 1, 5)
	heldIs(t, m, 2, 0, 2, 0)
	waitIs(t, m, 2, 0, 1, 2)
	allIs(t, m, 2, 5, 9, 8, 3, 7, 6, 1, 4)
	sendIs(t, m, 1, 0)
	sendIs(t, m, 0, 2) // behind what came to thread 3 ahead
	allIs(t, m, 2, 5, 9, 3, 7, 6, 1, 4, 8)
	sendIs(t, m, 2, 2)
	allIs(t, m, 2, 5, 7, 9, 3, 1, 4, 8, 6)
	heldIs(t, m, 0, 0, 0, 0)
	waitIs(t, m, 3, 1, 1, 4)
	for _, at := range []int{1, 4, 8, 6} {
		nextIs(t, m, 3, at, true)
	}
	allIs(t, m, 2, 5, 7, 9, 3)
}

// P12.1: Send of a full mail: all that a thread holds goes, and no other one's.
func TestSendToAll(t *testing.T) {
	m, w := made(t, 64, 64)
	for from := range 64 {
		for to := range 64 {
			for k := range 1 + (from+to)%3 {
				posted(t, m, w, from, to, from*1000+to*10+k)
			}
		}
	}
	against(t, m, w)
	for _, from := range []int{63, 0, 17, 17, 63} {
		sent(t, m, w, from)
		against(t, m, w)
	}
	for to := range 64 {
		nexted(t, m, w, to)
		nexted(t, m, w, to)
	}
	against(t, m, w)
}

// P12.2: Next of no thread, of one to which nothing has come, and until nothing is left.
func TestNext(t *testing.T) {
	m := New(3, 2)
	for _, no := range append(nobodies(), 0, 1, 2, 3) {
		nextIs(t, m, no, 0, false)
	}
	postIs(t, m, 0, 1, 16, api.OK)
	nextIs(t, m, 1, 0, false) // what is held has not come
	nextIs(t, m, 0, 0, false)
	allIs(t, m, 16)
	postIs(t, m, 0, 1, 32, api.OK)
	postIs(t, m, 2, 1, 48, api.OK)
	for _, no := range append(nobodies(), 0, 2, 3) {
		nextIs(t, m, no, 0, false)
	}
	waitIs(t, m, 0, 2, 0)
	nextIs(t, m, 1, 16, true)
	waitIs(t, m, 0, 1, 0)
	allIs(t, m, 32, 48)
	nextIs(t, m, 1, 32, true)
	waitIs(t, m, 0, 0, 0)
	nextIs(t, m, 1, 0, false)
	nextIs(t, m, 1, 0, false)
	heldIs(t, m, 0, 0, 1)
	allIs(t, m, 48)
	sendIs(t, m, 2, 1)
	nextIs(t, m, 1, 48, true)
	nextIs(t, m, 1, 0, false)
	allIs(t, m)
}

// P12.2: a thread to which much comes, little by little, while it takes.
func TestNextWhileMoreComes(t *testing.T) {
	m, w := made(t, 3, 5)
	for k := range 400 {
		posted(t, m, w, k%2, 2, 16*k)
		posted(t, m, w, 2, k%2, -16*k)
		if k%7 < 4 {
			nexted(t, m, w, 2)
		}
		if k%50 == 49 {
			for range 250 {
				nexted(t, m, w, 2)
			}
		}
		against(t, m, w)
	}
}

// P12.2: all that are under way, thread by thread, written out.
func TestAll(t *testing.T) {
	m := New(3, 2)
	allIs(t, m)
	postIs(t, m, 2, 1, 1, api.OK)
	allIs(t, m, 1)
	postIs(t, m, 2, 0, 2, api.OK)
	allIs(t, m, 2, 1) // for thread 0, then for thread 1
	postIs(t, m, 0, 2, 3, api.OK)
	allIs(t, m, 3, 2, 1) // held by thread 0, then by thread 2
	postIs(t, m, 1, 0, 4, api.OK)
	postIs(t, m, 1, 0, 5, api.OK)
	allIs(t, m, 4, 5, 3, 2, 1) // come to thread 0, held by it
	postIs(t, m, 1, 2, 6, api.OK)
	postIs(t, m, 1, 2, 7, api.OK)
	allIs(t, m, 4, 5, 3, 6, 7, 2, 1) // come to thread 2, held by it
	postIs(t, m, 0, 1, 8, api.OK)
	postIs(t, m, 1, 2, 9, api.OK)
	allIs(t, m, 4, 5, 8, 3, 9, 6, 7, 2, 1)
	waitIs(t, m, 2, 0, 2)
	heldIs(t, m, 2, 1, 2)
	nextIs(t, m, 2, 6, true)
	nextIs(t, m, 0, 4, true)
	allIs(t, m, 5, 8, 3, 9, 7, 2, 1)
	sendIs(t, m, 2, 2)
	allIs(t, m, 5, 2, 8, 3, 1, 9, 7)
}

// P12.1, P12.2: what goes by mail is any number, the same one also more than once; 0 with true is not 0 with false.
func TestAddressesOfAnyKind(t *testing.T) {
	m, w := made(t, 2, 3)
	for range 3 {
		for _, at := range oddly() {
			posted(t, m, w, 0, 1, at)
			posted(t, m, w, 1, 0, 16)
			against(t, m, w)
		}
	}
	for range 50 {
		nexted(t, m, w, 1)
		nexted(t, m, w, 0)
		against(t, m, w)
	}
	m = New(2, 1)
	postIs(t, m, 0, 1, 0, api.OK)
	postIs(t, m, 0, 1, 0, api.OK)
	nextIs(t, m, 1, 0, true)
	nextIs(t, m, 1, 0, true)
	nextIs(t, m, 1, 0, false)
}

// P12.2: what is asked changes nothing.
func TestAsking(t *testing.T) {
	m, w := made(t, 3, 2)
	for k := range 7 {
		posted(t, m, w, k%3, (k+1)%3, k)
	}
	for range 5 {
		against(t, m, w)
	}
	nexted(t, m, w, 1)
	for range 5 {
		against(t, m, w)
	}
}

// P12.2: what is written into an answer, or appended to it, is seen by no later one.
func TestAnswersAreNewMemory(t *testing.T) {
	mail := []post{{0, 1, 1}, {0, 1, 2}, {1, 0, 3}, {1, 0, 4}, {1, 0, 5}, {0, 1, 6}}
	for n := range len(mail) + 1 {
		m, w := made(t, 2, 2)
		for _, p := range mail[:n] {
			posted(t, m, w, p.from, p.to, p.at)
		}
		a, b, was := m.All(), m.All(), w.all()
		for i := range a {
			a[i] = 70 + i
			_ = append(a[:i], 90+i)
		}
		_ = append(b, 80)
		if !slices.Equal(b, was) {
			t.Error("an answer is", b, "not", was)
		}
		against(t, m, w)
		posted(t, m, w, 0, 1, 7)
		posted(t, m, w, 1, 0, 8)
		nexted(t, m, w, 1)
		sent(t, m, w, 0)
		if !slices.Equal(b, was) {
			t.Error("an earlier answer is", b, "not", was)
		}
		against(t, m, w)
	}
}

// Two mails have nothing in common.
func TestTwoMails(t *testing.T) {
	a, wa := made(t, 2, 2)
	b, wb := made(t, 2, 2)
	posted(t, a, wa, 0, 1, 16)
	against(t, b, wb)
	posted(t, b, wb, 0, 1, 32)
	against(t, a, wa)
	posted(t, b, wb, 0, 1, 48)
	against(t, a, wa)
	sent(t, b, wb, 0)
	nexted(t, b, wb, 1)
	against(t, a, wa)
	against(t, b, wb)
}

// P12.1, P12.2: all rows of five calls, between three threads.
func TestAllShortRowsOfCalls(t *testing.T) {
	posts := []post{{0, 1, 0}, {0, 2, 0}, {1, 0, 0}, {2, 1, 0}}
	for batch := range 4 {
		for row := range 59049 { // nine kinds of calls, five of them
			m, w := made(t, 3, batch)
			for k := range 5 {
				switch c := row % 9; {
				case c < 4:
					posted(t, m, w, posts[c].from, posts[c].to, k+1)
				case c < 7:
					nexted(t, m, w, c-4)
				default:
					sent(t, m, w, c-7)
				}
				row /= 9
			}
			if l := m.All(); !slices.Equal(l, w.all()) {
				t.Fatalf("All is %v, not %v", l, w.all())
			}
		}
	}
}

// traffic is what went into a mail and came out of it, with the order of each two threads.
type traffic struct {
	sure     int // the next number, told by no other address
	in, out  []int
	from, to map[int]int
}

// step does one call.
func (f *traffic) step(t *testing.T, m *Mail, x int) {
	t.Helper()
	n := m.Threads()
	from, to := x>>8%n, x>>16%n
	switch {
	case x%8 < 5:
		f.sure++
		if e := m.Post(from, to, f.sure); e == api.OK {
			f.in = append(f.in, f.sure)
			f.from[f.sure], f.to[f.sure] = from, to
		} else if from != to {
			t.Fatalf("Post(%d, %d, ..) is %d", from, to, e)
		}
	case x%8 < 7 || x>>24%4 > 0:
		f.take(t, m, to)
	default:
		if held := m.Held(from); m.Send(from) != held || m.Held(from) != 0 {
			t.Fatalf("Send(%d) of %d, Held is %d then", from, held, m.Held(from))
		}
	}
}

// take takes what has come to a thread, and asks whether it is that one's.
func (f *traffic) take(t *testing.T, m *Mail, to int) {
	t.Helper()
	at, ok := m.Next(to)
	if !ok {
		return
	}
	if who, was := f.to[at]; !was || who != to {
		t.Fatalf("Next(%d) is %d", to, at)
	}
	f.out = append(f.out, at)
}

// ordered asks whether, of each two threads, addresses came out as they went in: their numbers rise.
func (f *traffic) ordered(t *testing.T) {
	t.Helper()
	last := map[[2]int]int{}
	for _, at := range f.out {
		two := [2]int{f.from[at], f.to[at]}
		if at <= last[two] {
			t.Fatalf("from %d to %d comes %d behind %d", two[0], two[1], at, last[two])
		}
		last[two] = at
	}
}

// whole asks whether what is under way and what came out is all that went in, once.
func (f *traffic) whole(t *testing.T, m *Mail) {
	t.Helper()
	all := slices.Concat(f.out, m.All())
	slices.Sort(all)
	if !slices.Equal(all, f.in) {
		t.Fatalf("out and under way are %v; in went %v", all, f.in)
	}
	n := 0
	for th := range m.Threads() {
		n += m.Waits(th) + m.Held(th)
	}
	if n != len(f.in)-len(f.out) {
		t.Fatalf("Waits and Held are %d, not %d", n, len(f.in)-len(f.out))
	}
}

// P12.3: in its order, nothing lost, and nothing twice.
func TestNothingIsLost(t *testing.T) {
	for i, threads := range []int{2, 3, 5, 64} {
		for j, batch := range []int{1, 2, 7, 63, 64, 65} {
			m := New(threads, batch)
			f := &traffic{from: map[int]int{}, to: map[int]int{}}
			for k := range 3000 {
				f.step(t, m, drawn(i*10+j, k))
				if k%300 == 0 {
					f.whole(t, m)
				}
			}
			f.whole(t, m)
			for th := range threads {
				m.Send(th)
			}
			f.whole(t, m)
			for th := range threads {
				for range m.Waits(th) {
					f.take(t, m, th)
				}
			}
			f.whole(t, m)
			f.ordered(t)
			if len(f.out) != len(f.in) {
				t.Errorf("out came %d of %d", len(f.out), len(f.in))
			}
		}
	}
}

// P12.1, P12.2: long rows of calls, of threads that there are not as well.
func TestLongRowsOfCalls(t *testing.T) {
	for i, threads := range []int{0, 1, 2, 3, 6, 65} {
		for j, batch := range []int{0, 1, 2, 5, 64} {
			m, w := made(t, threads, batch)
			for k := range 500 {
				x := drawn(100+10*i+j, k)
				from, to := x>>8%(w.threads+2)-1, x>>16%(w.threads+2)-1
				switch x % 16 {
				case 0:
					sent(t, m, w, from)
				case 1, 2, 3, 4, 5:
					nexted(t, m, w, to)
				default:
					posted(t, m, w, from, to, x>>24%100*16)
				}
				if k%10 == 0 {
					against(t, m, w)
				}
			}
			against(t, m, w)
		}
	}
}
