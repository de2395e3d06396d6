package machine_test

import (
	"slices"
	"strings"
	"testing"

	"tackroom/api"
)

// P6.3

// wantOperation: what a client's next call of an operation makes of locks and pairs; what is told is kept, too.
func wantOperation(t *testing.T, locks []api.Lock, pairs []api.Pair, client int, o api.Op, locksThen []api.Lock, pairsThen []api.Pair, reply api.Reply) {
	t.Helper()
	s := api.State{Index: 20, Locks: locks, Pairs: pairs, Sessions: []api.Session{
		sessionOf(1, 1, 0, 11), sessionOf(2, 6, 5, 14), sessionOf(3, 7, 2, 20), sessionOf(9, 9, 9, 9),
	}}
	at := slices.IndexFunc(s.Sessions, func(x api.Session) bool { return x.Client == client })
	x := s.Sessions[at]
	want := api.State{Index: 21, Locks: locksThen, Pairs: pairsThen, Sessions: slices.Clone(s.Sessions)}
	want.Sessions[at] = sessionOf(client, x.Id, x.Acked, 21, api.Kept{Seq: x.Acked + 1, Reply: reply})
	wantApply(t, s, call(client, x.Id, x.Acked+1, x.Acked, o), want, reply)
}

// somePairs: that no operation on locks changes.
func somePairs() []api.Pair { return []api.Pair{pairOf("a", "x", 2), pairOf("c", "", 1)} }

// wantLocks: an operation of a client on locks alone.
func wantLocks(t *testing.T, locks []api.Lock, client int, o api.Op, then []api.Lock, reply api.Reply) {
	t.Helper()
	wantOperation(t, locks, nil, client, o, then, nil, reply)
	wantOperation(t, locks, somePairs(), client, o, then, somePairs(), reply)
}

type locks = []api.Lock

func fullLocks() locks {
	return locks{lockOf("b", 1, 1), lockOf("c", 0, 2), lockOf("d", 2, 3, 9), lockOf("e", 3, 4), lockOf("zz", 0, api.MaxFence)}
}

func TestTryAndLineOfWhatCanBeHad(t *testing.T) {
	for _, kind := range []int{api.Try, api.Line} {
		for _, client := range []int{1, 2, 3, 9} {
			// new
			wantLocks(t, nil, client, op(kind, "a"), locks{lockOf("a", client, 1)}, api.Reply{N: 1})
			wantLocks(t, nil, client, op(kind, "zzzzzz"), locks{lockOf("zzzzzz", client, 1)}, api.Reply{N: 1})
			wantLocks(t, locks{lockOf("a", 1, 4), lockOf("c", 2, 4)}, client, op(kind, "b"),
				locks{lockOf("a", 1, 4), lockOf("b", client, 1), lockOf("c", 2, 4)}, api.Reply{N: 1})
			// nobody's
			wantLocks(t, locks{lockOf("a", 0, 4)}, client, op(kind, "a"), locks{lockOf("a", client, 5)}, api.Reply{N: 5})
			wantLocks(t, locks{lockOf("a", 0, api.MaxFence-1)}, client, op(kind, "a"),
				locks{lockOf("a", client, api.MaxFence)}, api.Reply{N: api.MaxFence})
			// its own
			own := locks{lockOf("a", client, 4, 4, 5, 6), lockOf("b", client, api.MaxFence)}
			wantLocks(t, own, client, op(kind, "a"), own, api.Reply{N: 4})
			wantLocks(t, own, client, op(kind, "b"), own, api.Reply{N: api.MaxFence})
		}
	}
}

func TestTryAndLineWithoutRoom(t *testing.T) {
	noRoom := api.Reply{Code: api.ErrFull}
	for _, kind := range []int{api.Try, api.Line} {
		for _, name := range []string{"a", "bb", "zzzzzz"} {
			wantLocks(t, fullLocks(), 1, op(kind, name), fullLocks(), noRoom)
		}
		wantLocks(t, fullLocks(), 1, op(kind, "zz"), fullLocks(), noRoom) // it has no fence any more
		wantLocks(t, fullLocks(), 1, op(kind, "b"), fullLocks(), api.Reply{N: 1})
	}
}

func TestTryOfWhatIsHeld(t *testing.T) {
	for _, line := range [][]int{nil, {2}, {5, 2}, {5, 6, 7}, {2, 6, 7}} {
		l := locks{lockOf("a", 1, 4, line...)}
		wantLocks(t, l, 2, op(api.Try, "a"), l, api.Reply{Code: api.ErrHeld, N: 1})
	}
}

func TestLineOfWhatIsHeld(t *testing.T) {
	held := api.Reply{Code: api.ErrHeld, N: 1}
	for _, c := range []struct {
		line, then []int
		reply      api.Reply
	}{
		{nil, []int{2}, held},
		{[]int{5}, []int{5, 2}, held},
		{[]int{5, 6}, []int{5, 6, 2}, held},
		{[]int{2}, []int{2}, held},
		{[]int{5, 2, 6}, []int{5, 2, 6}, held},
		{[]int{5, 6, 7}, []int{5, 6, 7}, api.Reply{Code: api.ErrFull}},
	} {
		wantLocks(t, locks{lockOf("a", 1, 4, c.line...)}, 2, op(api.Line, "a"), locks{lockOf("a", 1, 4, c.then...)}, c.reply)
	}
}

func TestFree(t *testing.T) {
	for _, c := range []struct {
		lock, then api.Lock
		reply      api.Reply
	}{
		// of who has it
		{lockOf("a", 2, 4), lockOf("a", 0, 4), api.Reply{}},
		{lockOf("a", 2, 4, 3), lockOf("a", 3, 5), api.Reply{N: 3}},
		{lockOf("a", 2, 4, 7, 3, 1), lockOf("a", 7, 5, 3, 1), api.Reply{N: 7}},
		{lockOf("a", 2, api.MaxFence-1, 3, 1), lockOf("a", 3, api.MaxFence, 1), api.Reply{N: 3}},
		{lockOf("a", 2, api.MaxFence, 3, 1), lockOf("a", 0, api.MaxFence), api.Reply{}},
		// of who stands in line
		{lockOf("a", 1, 4, 2), lockOf("a", 1, 4), api.Reply{N: 1}},
		{lockOf("a", 1, 4, 7, 2, 3), lockOf("a", 1, 4, 7, 3), api.Reply{N: 1}},
		// of neither
		{lockOf("a", 1, 4), lockOf("a", 1, 4), api.Reply{Code: api.ErrHeld, N: 1}},
		{lockOf("a", 1, 4, 7, 3), lockOf("a", 1, 4, 7, 3), api.Reply{Code: api.ErrHeld, N: 1}},
		{lockOf("a", 0, 4), lockOf("a", 0, 4), api.Reply{Code: api.ErrHeld}},
	} {
		wantLocks(t, locks{c.lock}, 2, op(api.Free, "a"), locks{c.then}, c.reply)
		// The client's other locks stay.
		wantLocks(t, locks{c.lock, lockOf("b", 2, 1, 3)}, 2, op(api.Free, "a"), locks{c.then, lockOf("b", 2, 1, 3)}, c.reply)
	}
	wantLocks(t, nil, 2, op(api.Free, "a"), nil, api.Reply{Code: api.ErrNone})
	wantLocks(t, fullLocks(), 2, op(api.Free, "a"), fullLocks(), api.Reply{Code: api.ErrNone})
}

func TestWho(t *testing.T) {
	l := locks{lockOf("a", 1, 4, 2, 3), lockOf("b", 0, 5), lockOf("c", 9, api.MaxFence), lockOf("d", 3, 1)}
	for _, c := range []struct {
		name string
		who  int
	}{
		{"a", 1}, {"b", 0}, {"c", 9}, {"d", 3}, {"e", 0}, {"aa", 0}, {"zzzzzz", 0},
	} {
		for _, client := range []int{1, 2, 3, 9} { // whoever asks
			wantLocks(t, l, client, op(api.Who, c.name), l, api.Reply{N: c.who})
			wantLocks(t, nil, client, op(api.Who, c.name), nil, api.Reply{})
		}
	}
}

func TestGet(t *testing.T) {
	longest := strings.Repeat("v", api.MaxValue)
	pairs := []api.Pair{pairOf("a", "x", 2), pairOf("b", "", 1), pairOf("c", "\x00\xff", api.MaxFence), pairOf("d", longest, 7)}
	// Who has the lock, or that there is one, is not asked for.
	for _, l := range []locks{nil, {lockOf("a", 1, 4), lockOf("b", 2, 3, 1), lockOf("c", 0, 2), lockOf("e", 1, 1)}} {
		for _, client := range []int{1, 2, 3, 9} {
			for _, x := range pairs {
				wantOperation(t, l, pairs, client, op(api.Get, x.Name), l, pairs, api.Reply{N: x.Version, Text: x.Value})
			}
			for _, name := range []string{"e", "aa", "zzzzzz"} {
				wantOperation(t, l, pairs, client, op(api.Get, name), l, pairs, api.Reply{Code: api.ErrNone})
			}
			wantOperation(t, l, nil, client, op(api.Get, "a"), l, nil, api.Reply{Code: api.ErrNone})
		}
	}
}

func TestSetByWhoHasTheLock(t *testing.T) {
	longest := strings.Repeat("\xff", api.MaxValue)
	for _, fence := range []int{1, 4, api.MaxFence} {
		l := locks{lockOf("b", 2, fence, 1, 3), lockOf("c", 2, 9)}
		for _, value := range []string{"", "y", "\x00", longest} {
			wantOperation(t, l, nil, 2, setOp("b", value, fence), l, []api.Pair{pairOf("b", value, 1)}, api.Reply{N: 1})
			wantOperation(t, l, somePairs(), 2, setOp("b", value, fence), l,
				[]api.Pair{pairOf("a", "x", 2), pairOf("b", value, 1), pairOf("c", "", 1)}, api.Reply{N: 1})
			wantOperation(t, l, []api.Pair{pairOf("b", "x", 6)}, 2, setOp("b", value, fence), l,
				[]api.Pair{pairOf("b", value, 7)}, api.Reply{N: 7})
			wantOperation(t, l, []api.Pair{pairOf("b", "x", api.MaxFence-1)}, 2, setOp("b", value, fence), l,
				[]api.Pair{pairOf("b", value, api.MaxFence)}, api.Reply{N: api.MaxFence})
		}
	}
}

func TestSetWithoutRoom(t *testing.T) {
	l := locks{lockOf("a", 2, 4), lockOf("c", 2, 4), lockOf("z", 2, 4)}
	pairs := []api.Pair{pairOf("b", "x", 1), pairOf("c", "x", api.MaxFence), pairOf("d", "", 2), pairOf("e", "", 3), pairOf("f", "", 4)}
	for _, name := range []string{"a", "z", "c"} {
		wantOperation(t, l, pairs, 2, setOp(name, "y", 4), l, pairs, api.Reply{Code: api.ErrFull})
	}
	// What is refused to who has not the lock is told as that.
	wantOperation(t, l, pairs, 1, setOp("a", "y", 4), l, pairs, api.Reply{Code: api.ErrHeld, N: 2})
	wantOperation(t, l, pairs, 2, setOp("c", "y", 5), l, pairs, api.Reply{Code: api.ErrHeld, N: 2})
}

func TestSetWithAnotherFence(t *testing.T) {
	for _, c := range []struct{ fence, n int }{
		{4, 3}, {4, 5}, {4, 1}, {4, api.MaxFence}, {1, 2}, {api.MaxFence, api.MaxFence - 1}, {api.MaxFence, 1},
	} {
		l := locks{lockOf("a", 2, c.fence, 1)}
		wantOperation(t, l, somePairs(), 2, setOp("a", "y", c.n), l, somePairs(), api.Reply{Code: api.ErrHeld, N: 2})
		wantOperation(t, l, nil, 2, setOp("a", "y", c.n), l, nil, api.Reply{Code: api.ErrHeld, N: 2})
	}
}

func TestSetByWhoHasNotTheLock(t *testing.T) {
	for _, c := range []struct {
		l   locks
		who int
	}{
		{nil, 0},
		{locks{lockOf("a", 0, 4)}, 0},
		{locks{lockOf("a", 1, 4)}, 1},
		{locks{lockOf("a", 9, 4, 2, 3)}, 9}, // the first one in line has it not
		{locks{lockOf("a", 3, 1), lockOf("b", 2, 4)}, 3},
		{locks{lockOf("aa", 2, 4), lockOf("b", 2, 4)}, 0}, // it has others
	} {
		for _, n := range []int{1, 3, 4, 5, api.MaxFence} { // with the fence, too
			wantOperation(t, c.l, somePairs(), 2, setOp("a", "y", n), c.l, somePairs(), api.Reply{Code: api.ErrHeld, N: c.who})
		}
	}
}
