package machine_test

import (
	"fmt"
	"slices"
	"strings"
	"testing"

	"tackroom/api"
	"tackroom/command"
	"tackroom/machine"
)

// P6.2

// noEntries: bytes of no command, and what is wrong with them first.
var noEntries = []struct {
	s    string
	want api.Errno
}{
	{"", api.ErrShort},
	{"\x01", api.ErrShort},
	{"\x09", api.ErrShort},
	{strings.Repeat("\x01", api.MaxBytes+1), api.ErrSize},
	{"\x01\x03\x00", api.ErrForm},
	{"\x03\x03\x00", api.ErrForm},
	{"\x00\x03", api.ErrKind},
	{"\x04\x03", api.ErrKind},
	{"\xff\xff", api.ErrKind},
	{"\x01\x00", api.ErrRange},
	{"\x01\x0a", api.ErrRange},
	{"\x03\x00", api.ErrRange},
	{"\x02\x04", api.ErrShort},
	{"\x02\x04\x06\x06\x05\x01\x00\x01a", api.ErrShort},
	{"\x02\x04\x06\x06\x05\x01\x00\x02a", api.ErrShort},
	{"\x02\x04\x86\x00\x06\x05\x01\x00\x01a\x00", api.ErrForm},
	{"\x02\x04\x06\x06\x05\x01\x00\x01a\x00\x00", api.ErrForm},
	{"\x02\x00\x06\x06\x05\x01\x00\x01a\x00", api.ErrRange},
	{"\x02\x04\x00\x06\x05\x01\x00\x01a\x00", api.ErrRange},
	{"\x02\x04\x06\x00\x00\x01\x00\x01a\x00", api.ErrRange},
	{"\x02\x04\x06\x06\x06\x01\x00\x01a\x00", api.ErrRange},
	{"\x02\x04\x06\x06\x05\x00\x00\x01a\x00", api.ErrKind},
	{"\x02\x04\x06\x06\x05\x07\x00\x01a\x00", api.ErrKind},
	{"\x02\x04\x06\x06\x05\x01\x00\x01A\x00", api.ErrForm},
	{"\x02\x04\x06\x06\x05\x01\x00\x01a\x01b", api.ErrForm},
	{"\x02\x04\x06\x06\x05\x05\x01\x01a\x0d" + strings.Repeat("v", api.MaxValue+1), api.ErrSize},
	{"\x02\x04\x06\x06\x05\x05\x00\x01a\x01b", api.ErrRange},
	{"\x02\x04\x06\x06\x05\x01\x01\x01a\x00", api.ErrRange},
	{"\x02\x04\x06\x06\x05\x01\x00\x88\x27", api.ErrShort},
	{"\x02\x04\x06\x06\x05\x01\x00\x89\x27", api.ErrSize},
}

// someEntries: of commands that may be; what comes of them differs.
func someEntries() []string {
	return []string{
		join(1), join(2), leave(2), leave(9),
		call(2, 1, 1, 0, op(api.Try, "a")), call(4, 6, 6, 5, setOp("b", "y", 7)), call(9, 9, 9, 8, op(api.Get, "a")),
	}
}

func TestApplyRefusesWhatMayNotBe(t *testing.T) {
	eachWrong(func(s api.State, first api.Errno) {
		if first == api.OK {
			return
		}
		for _, x := range someEntries() {
			wantRefused(t, s, x, first)
		}
		for _, x := range noEntries { // the state is looked at first
			wantRefused(t, s, x.s, first)
		}
	})
}

func TestApplyAtTheLastIndex(t *testing.T) {
	for _, s := range []api.State{{}, busy(), full()} {
		s.Index = api.MaxIndex
		for _, x := range someEntries() {
			wantRefused(t, s, x, api.ErrRange)
		}
		for _, x := range noEntries { // the Index is looked at ahead of the entry
			wantRefused(t, s, x.s, api.ErrRange)
		}
	}
	// What Check refuses is told ahead of that.
	wantRefused(t, api.State{Index: api.MaxIndex, Locks: make([]api.Lock, 1)}, join(1), api.ErrForm)
	wantRefused(t, api.State{Index: api.MaxIndex, Pairs: make([]api.Pair, api.MaxPairs+1)}, "", api.ErrSize)
}

func TestApplyRefusesWhatDecodeRefuses(t *testing.T) {
	states := []api.State{{}, {Index: api.MaxIndex - 1}, busy(), full()}
	for _, s := range states {
		for _, x := range noEntries {
			wantRefused(t, s, x.s, x.want)
		}
	}
	whole := call(4, 6, 6, 5, setOp("b", "y", 300))
	for _, s := range states {
		for i := range len(whole) {
			wantRefused(t, s, whole[:i], api.ErrShort)
		}
		wantRefused(t, s, whole+"\x00", api.ErrForm)
	}
}

func TestApplyOfDrawnBytes(t *testing.T) {
	d := die(3)
	for range 20000 {
		bytes := []byte(someEntries()[d.roll(7)])
		for range d.roll(3) {
			bytes[d.roll(len(bytes))] = byte(d.roll(256))
		}
		_, want := command.Decode(string(bytes))
		if want != api.OK {
			wantRefused(t, busy(), string(bytes), want)
		} else if _, _, e := machine.Apply(busy(), string(bytes)); e != api.OK {
			t.Errorf("Apply(.., %q) is refused: %d", bytes, e)
		}
	}
}

// P6.2: a Join

func TestApplyJoin(t *testing.T) {
	for client := 1; client <= api.MaxClient; client++ {
		for _, index := range []int{0, 1, 41, api.MaxIndex - 2, api.MaxIndex - 1} {
			want := api.State{Index: index + 1, Sessions: []api.Session{sessionOf(client, index+1, 0, index+1)}}
			wantApply(t, api.State{Index: index}, join(client), want, api.Reply{N: index + 1})
		}
	}
	for _, c := range []struct{ client, at int }{{1, 0}, {3, 1}, {5, 2}, {7, 3}, {9, 3}} {
		wantApply(t, busy(), join(c.client), but(busy(), func(s *api.State) {
			s.Index = 21
			s.Sessions = slices.Insert(s.Sessions, c.at, sessionOf(c.client, 21, 0, 21))
		}), api.Reply{N: 21})
	}
}

func TestApplyJoinTwice(t *testing.T) {
	for at, x := range busy().Sessions {
		wantApply(t, busy(), join(x.Client), but(busy(), func(s *api.State) {
			s.Index, s.Sessions[at].Last = 21, 21
		}), api.Reply{Code: api.ErrTwice, N: x.Id})
	}
}

func TestApplyJoinWithoutRoom(t *testing.T) {
	for _, client := range []int{1, 3, 5, 7, 9} {
		wantApply(t, full(), join(client), but(full(), func(s *api.State) { s.Index = 21 }), api.Reply{Code: api.ErrFull})
	}
}

// P6.2: a Leave

func TestApplyLeave(t *testing.T) {
	left := func(at int, locks ...api.Lock) api.State {
		return but(busy(), func(s *api.State) {
			s.Index, s.Locks = 21, locks
			s.Sessions = slices.Delete(s.Sessions, at, at+1)
		})
	}
	// A lock goes to the first one of its line; one without any, or with the last fence, is nobody's.
	wantApply(t, busy(), leave(2),
		left(0, lockOf("a", 4, 4, 6), lockOf("b", 4, 7), lockOf("c", 0, 2), lockOf("d", 6, api.MaxFence)), api.Reply{})
	wantApply(t, busy(), leave(4),
		left(1, lockOf("a", 2, 3, 6), lockOf("b", 0, 7), lockOf("c", 0, 2), lockOf("d", 6, api.MaxFence, 2)), api.Reply{})
	wantApply(t, busy(), leave(6),
		left(2, lockOf("a", 2, 3, 4), lockOf("b", 4, 7), lockOf("c", 0, 2), lockOf("d", 0, api.MaxFence)), api.Reply{})
}

func TestApplyLeaveAway(t *testing.T) {
	away := api.Reply{Code: api.ErrAway}
	for _, client := range []int{1, 3, 5, 7, 8, 9} {
		wantApply(t, busy(), leave(client), but(busy(), func(s *api.State) { s.Index = 21 }), away)
		for _, index := range []int{0, 1, api.MaxIndex - 1} {
			wantApply(t, api.State{Index: index}, leave(client), api.State{Index: index + 1}, away)
		}
	}
	// Who leaves is gone, though it had locks without a session.
	s := api.State{Index: 5, Locks: []api.Lock{lockOf("a", 1, 1, 2, 3), lockOf("b", 2, 1, 1)}}
	want := api.State{Index: 6, Locks: []api.Lock{lockOf("a", 2, 2, 3), lockOf("b", 2, 1)}}
	wantApply(t, s, leave(1), want, away)
}

func TestApplyLeaveAndJoinAgain(t *testing.T) {
	s := api.State{}
	for i, x := range []struct {
		entry string
		want  api.Reply
	}{
		{join(3), api.Reply{N: 1}},
		{call(3, 1, 1, 0, op(api.Try, "a")), api.Reply{N: 1}},
		{leave(3), api.Reply{}},
		{leave(3), api.Reply{Code: api.ErrAway}},
		{call(3, 1, 1, 0, op(api.Try, "a")), api.Reply{Code: api.ErrAway}}, // what was replied there is kept no more
		{join(3), api.Reply{N: 6}},
		{call(3, 1, 2, 1, op(api.Try, "a")), api.Reply{Code: api.ErrAway}}, // of the other session
		{call(3, 6, 1, 0, op(api.Try, "a")), api.Reply{N: 2}},
	} {
		next, r, e := machine.Apply(s, x.entry)
		if r != x.want || e != api.OK || next.Index != i+1 {
			t.Fatalf("entry %d: %s, %s, %d; want %s", i+1, show(next), tell(r), e, tell(x.want))
		}
		s = next
	}
	want := api.State{
		Index: 8, Locks: []api.Lock{lockOf("a", 3, 2)},
		Sessions: []api.Session{sessionOf(3, 6, 0, 8, kept(1, api.OK, 2, ""))},
	}
	if show(s) != show(want) {
		t.Errorf("%s, want %s", show(s), show(want))
	}
}

// P6.2: a Call

func TestApplyCallAway(t *testing.T) {
	for _, o := range []api.Op{op(api.Try, "z"), op(api.Free, "a"), setOp("a", "y", 3), op(api.Get, "a")} {
		for _, x := range []string{
			call(2, 2, 2, 0, o), call(2, 20, 2, 0, o), call(2, 21, 2, 1, o), call(4, 5, 6, 5, o), call(4, 1, 6, 5, o), // other sessions
			call(1, 1, 1, 0, o), call(3, 1, 1, 0, o), call(9, 7, 1, 0, o), // none
		} {
			wantApply(t, busy(), x, but(busy(), func(s *api.State) { s.Index = 21 }), api.Reply{Code: api.ErrAway})
			wantApply(t, api.State{}, x, api.State{Index: 1}, api.Reply{Code: api.ErrAway})
		}
	}
}

func TestApplyCallToBeDone(t *testing.T) {
	got := api.Reply{Code: api.OK, N: 2, Text: "x"}
	get := op(api.Get, "a")
	// Client 2 knows nothing, and has the replies 1 and 3; what it knows now is kept no more.
	for _, c := range []struct {
		seq, acked int
		left       []api.Kept
	}{
		{2, 0, []api.Kept{kept(1, api.OK, 3, ""), kept(2, api.OK, 2, "x"), kept(3, api.ErrHeld, 4, "")}},
		{4, 0, []api.Kept{kept(1, api.OK, 3, ""), kept(3, api.ErrHeld, 4, ""), kept(4, api.OK, 2, "x")}},
		{2, 1, []api.Kept{kept(2, api.OK, 2, "x"), kept(3, api.ErrHeld, 4, "")}},
		{5, 2, []api.Kept{kept(3, api.ErrHeld, 4, ""), kept(5, api.OK, 2, "x")}},
		{5, 3, []api.Kept{kept(5, api.OK, 2, "x")}},
		{7, 3, []api.Kept{kept(7, api.OK, 2, "x")}},
		{api.MaxSeq, api.MaxSeq - 1, []api.Kept{kept(api.MaxSeq, api.OK, 2, "x")}},
	} {
		for _, index := range []int{20, 50} {
			s := but(busy(), func(s *api.State) { s.Index = index })
			wantApply(t, s, call(2, 1, c.seq, c.acked, get), but(s, func(s *api.State) {
				s.Index, s.Sessions = index+1, slices.Clone(s.Sessions)
				s.Sessions[0] = sessionOf(2, 1, c.acked, index+1, c.left...)
			}), got)
		}
	}
}

func TestApplyAtTheIndexAheadOfTheLast(t *testing.T) {
	s := api.State{Index: api.MaxIndex - 1, Sessions: []api.Session{sessionOf(3, 1, 0, api.MaxIndex-api.MaxIdle)}}
	wantApply(t, s, call(3, 1, 1, 0, op(api.Try, "a")), api.State{
		Index: api.MaxIndex, Locks: []api.Lock{lockOf("a", 3, 1)},
		Sessions: []api.Session{sessionOf(3, 1, 0, api.MaxIndex, kept(1, api.OK, 1, ""))},
	}, api.Reply{N: 1})
}

func TestApplyCallThatIsNotDone(t *testing.T) {
	for _, o := range []api.Op{op(api.Try, "z"), op(api.Line, "b"), op(api.Free, "a"), setOp("a", "y", 3), op(api.Get, "a")} {
		for _, c := range []struct {
			at                     int
			client, id, seq, acked int
			then                   api.Session
			reply                  api.Reply
		}{
			// old
			{1, 4, 6, 5, 4, sessionOf(4, 6, 5, 21), api.Reply{Code: api.ErrOld}},
			{1, 4, 6, 1, 0, sessionOf(4, 6, 5, 21), api.Reply{Code: api.ErrOld}},
			{2, 6, 7, 2, 0, sessionOf(6, 7, 2, 21, kept(4, api.OK, 2, "x")), api.Reply{Code: api.ErrOld}},
			// kept
			{0, 2, 1, 1, 0, sessionOf(2, 1, 0, 21, kept(1, api.OK, 3, ""), kept(3, api.ErrHeld, 4, "")), api.Reply{N: 3}},
			{0, 2, 1, 3, 0, sessionOf(2, 1, 0, 21, kept(1, api.OK, 3, ""), kept(3, api.ErrHeld, 4, "")), api.Reply{Code: api.ErrHeld, N: 4}},
			{0, 2, 1, 3, 2, sessionOf(2, 1, 2, 21, kept(3, api.ErrHeld, 4, "")), api.Reply{Code: api.ErrHeld, N: 4}},
			{2, 6, 7, 4, 0, sessionOf(6, 7, 2, 21, kept(4, api.OK, 2, "x")), api.Reply{N: 2, Text: "x"}},
			// too high
			{1, 4, 6, 10, 5, sessionOf(4, 6, 5, 21), api.Reply{Code: api.ErrRange}},
			{1, 4, 6, 12, 7, sessionOf(4, 6, 7, 21), api.Reply{Code: api.ErrRange}},
			{2, 6, 7, api.MaxSeq, 4, sessionOf(6, 7, 4, 21), api.Reply{Code: api.ErrRange}},
		} {
			wantApply(t, busy(), call(c.client, c.id, c.seq, c.acked, o), but(busy(), func(s *api.State) {
				s.Index, s.Sessions[c.at] = 21, c.then
			}), c.reply)
		}
	}
}

// Calls that are asked three times each are done once.
func TestApplyOfWhatIsAskedAgain(t *testing.T) {
	s := api.State{}
	ask := func(x string, want api.Reply) {
		t.Helper()
		next, r, e := machine.Apply(s, x)
		if r != want || e != api.OK {
			t.Fatalf("Apply(%s, %q) = %s, %s, %d; want the reply %s", show(s), x, show(next), tell(r), e, tell(want))
		}
		s = next
	}
	ask(join(1), api.Reply{N: 1})
	ask(join(2), api.Reply{N: 2})
	for i, c := range []struct {
		o    api.Op
		want api.Reply
	}{
		{op(api.Try, "a"), api.Reply{N: 1}},
		{setOp("a", "x", 1), api.Reply{N: 1}},
		{setOp("a", "y", 1), api.Reply{N: 2}},
		{op(api.Get, "a"), api.Reply{N: 2, Text: "y"}},
		{op(api.Free, "a"), api.Reply{}},
		{op(api.Free, "a"), api.Reply{Code: api.ErrHeld}},
		{setOp("a", "z", 1), api.Reply{Code: api.ErrHeld}},
		{op(api.Get, "b"), api.Reply{Code: api.ErrNone}},
		{op(api.Free, "b"), api.Reply{Code: api.ErrNone}},
		{op(api.Line, "a"), api.Reply{N: 2}},
		{op(api.Free, "a"), api.Reply{}},
		{op(api.Try, "a"), api.Reply{N: 3}},
	} {
		x := call(1, 1, i+1, i, c.o)
		ask(x, c.want)
		once := show(api.State{Locks: s.Locks, Pairs: s.Pairs})
		for range 2 {
			ask(x, c.want)
			if then := show(api.State{Locks: s.Locks, Pairs: s.Pairs}); then != once {
				t.Fatalf("%q was done again: %s, and was %s", x, then, once)
			}
		}
	}
}

// What was replied is told again, though it would be another reply now.
func TestApplyTellsWhatWasReplied(t *testing.T) {
	s := busy()
	for _, c := range []struct {
		entry string
		want  api.Reply
	}{
		{call(4, 6, 6, 5, op(api.Try, "a")), api.Reply{Code: api.ErrHeld, N: 2}},
		{call(4, 6, 7, 5, op(api.Who, "a")), api.Reply{N: 2}},
		{call(2, 1, 4, 0, op(api.Free, "a")), api.Reply{N: 4}},
		{call(4, 6, 6, 5, op(api.Try, "a")), api.Reply{Code: api.ErrHeld, N: 2}},
		{call(4, 6, 7, 5, op(api.Who, "a")), api.Reply{N: 2}},
		{call(4, 6, 8, 7, op(api.Try, "a")), api.Reply{N: 4}},
		{call(4, 6, 7, 5, op(api.Who, "a")), api.Reply{Code: api.ErrOld}},
		{call(2, 1, 4, 0, op(api.Free, "a")), api.Reply{N: 4}},
		// Another operation with that number is not done: it is the same call.
		{call(2, 1, 4, 0, op(api.Try, "z")), api.Reply{N: 4}},
	} {
		next, r, e := machine.Apply(s, c.entry)
		if r != c.want || e != api.OK {
			t.Fatalf("Apply(%s, %q) = %s, %s, %d; want the reply %s", show(s), c.entry, show(next), tell(r), e, tell(c.want))
		}
		s = next
	}
	if len(s.Locks) != len(busy().Locks) {
		t.Errorf("a lock came: %s", show(s))
	}
}

// The document's example of the whole.
func TestApplyExample(t *testing.T) {
	s := api.State{}
	for i, want := range []struct {
		entry string
		reply api.Reply
		state api.State
	}{
		{join(1), api.Reply{N: 1}, api.State{Index: 1, Sessions: []api.Session{sessionOf(1, 1, 0, 1)}}},
		{call(1, 1, 1, 0, op(api.Try, "a")), api.Reply{N: 1}, api.State{
			Index: 2, Locks: []api.Lock{lockOf("a", 1, 1)},
			Sessions: []api.Session{sessionOf(1, 1, 0, 2, kept(1, api.OK, 1, ""))},
		}},
		{call(1, 1, 1, 0, op(api.Try, "a")), api.Reply{N: 1}, api.State{
			Index: 3, Locks: []api.Lock{lockOf("a", 1, 1)},
			Sessions: []api.Session{sessionOf(1, 1, 0, 3, kept(1, api.OK, 1, ""))},
		}},
		{call(1, 1, 2, 1, setOp("a", "x", 1)), api.Reply{N: 1}, api.State{
			Index: 4, Locks: []api.Lock{lockOf("a", 1, 1)}, Pairs: []api.Pair{pairOf("a", "x", 1)},
			Sessions: []api.Session{sessionOf(1, 1, 1, 4, kept(2, api.OK, 1, ""))},
		}},
	} {
		wantApply(t, s, want.entry, want.state, want.reply)
		next, _, e := machine.Apply(s, want.entry)
		if e != api.OK {
			t.Fatalf("entry %d is refused: %d", i+1, e)
		}
		s = next
	}
}

// P6.2: who said nothing for long

// idleAt: a state at an Index in which client 1 said nothing since an entry; it has a and b, and stands in two lines.
func idleAt(index, last int) api.State {
	return api.State{
		Index: index,
		Locks: []api.Lock{lockOf("a", 1, 4), lockOf("b", 1, 5, 2, 3), lockOf("c", 2, 6, 1, 3), lockOf("d", 3, 7, 2, 1)},
		Pairs: []api.Pair{pairOf("a", "x", 2)},
		Sessions: []api.Session{
			sessionOf(1, 1, 0, last, kept(1, api.OK, 4, "")), sessionOf(2, 2, 0, index), sessionOf(3, 3, 0, index),
		},
	}
}

func TestApplyDropsWhoIsIdle(t *testing.T) {
	gone := []api.Lock{lockOf("a", 0, 4), lockOf("b", 2, 6, 3), lockOf("c", 2, 6, 3), lockOf("d", 3, 7, 2)}
	for _, last := range []int{3, 40, 1000, api.MaxIndex - 2*api.MaxIdle} {
		for age := range 2*api.MaxIdle - 1 {
			index := last + age
			s := idleAt(index, last)
			// Client 2 says something; the client 1 is there, till its last word is MaxIdle entries behind.
			want := but(idleAt(index, last), func(s *api.State) {
				s.Index, s.Sessions[1].Last = index+1, index+1
				if age >= api.MaxIdle {
					s.Locks, s.Sessions = gone, s.Sessions[1:]
				}
			})
			wantApply(t, s, join(2), want, api.Reply{Code: api.ErrTwice, N: 2})
		}
	}
}

// Whatever the entry is, and whatever it is replied, those that are idle go ahead of it.
func TestApplyDropsAheadOfTheCommand(t *testing.T) {
	gone := []api.Lock{lockOf("a", 0, 4), lockOf("b", 2, 6, 3), lockOf("c", 2, 6, 3), lockOf("d", 3, 7, 2)}
	two, three := sessionOf(2, 2, 0, 50), sessionOf(3, 3, 0, 50)
	heard := func(client int, k ...api.Kept) api.Session { return sessionOf(client, client, 0, 51, k...) }
	type list = []api.Session
	for _, c := range []struct {
		entry    string
		locks    []api.Lock
		sessions list
		reply    api.Reply
	}{
		// of the idle one itself
		{join(1), gone, list{sessionOf(1, 51, 0, 51), two, three}, api.Reply{N: 51}},
		{leave(1), gone, list{two, three}, api.Reply{Code: api.ErrAway}},
		{call(1, 1, 1, 0, op(api.Try, "a")), gone, list{two, three}, api.Reply{Code: api.ErrAway}},
		{call(1, 1, 2, 1, setOp("a", "y", 4)), gone, list{two, three}, api.Reply{Code: api.ErrAway}},
		// of others
		{join(9), gone, list{two, three, sessionOf(9, 51, 0, 51)}, api.Reply{N: 51}},
		{leave(9), gone, list{two, three}, api.Reply{Code: api.ErrAway}},
		{call(9, 9, 1, 0, op(api.Try, "a")), gone, list{two, three}, api.Reply{Code: api.ErrAway}},
		{call(2, 2, 9, 0, op(api.Try, "a")), gone, list{heard(2), three}, api.Reply{Code: api.ErrRange}},
		{leave(2), []api.Lock{lockOf("a", 0, 4), lockOf("b", 3, 7), lockOf("c", 3, 7), lockOf("d", 3, 7)}, list{three}, api.Reply{}},
		{call(2, 2, 1, 0, op(api.Who, "a")), gone, list{heard(2, kept(1, api.OK, 0, "")), three}, api.Reply{}},
		{call(2, 2, 1, 0, op(api.Who, "b")), gone, list{heard(2, kept(1, api.OK, 2, "")), three}, api.Reply{N: 2}},
		{call(3, 3, 1, 0, op(api.Who, "b")), gone, list{two, heard(3, kept(1, api.OK, 2, ""))}, api.Reply{N: 2}},
		{
			call(3, 3, 1, 0, op(api.Try, "a")),
			[]api.Lock{lockOf("a", 3, 5), gone[1], gone[2], gone[3]},
			list{two, heard(3, kept(1, api.OK, 5, ""))}, api.Reply{N: 5},
		},
		{
			call(3, 3, 1, 0, op(api.Free, "b")),
			[]api.Lock{gone[0], lockOf("b", 2, 6), gone[2], gone[3]},
			list{two, heard(3, kept(1, api.OK, 2, ""))}, api.Reply{N: 2},
		},
	} {
		want := api.State{Index: 51, Locks: c.locks, Pairs: idleAt(50, 10).Pairs, Sessions: c.sessions}
		wantApply(t, idleAt(50, 10), c.entry, want, c.reply)
	}
	// The lock that it was given ahead of the entry the client may use by that entry.
	wantApply(t, idleAt(50, 10), call(2, 2, 1, 0, setOp("b", "y", 6)), api.State{
		Index: 51, Locks: gone, Pairs: []api.Pair{pairOf("a", "x", 2), pairOf("b", "y", 1)},
		Sessions: list{heard(2, kept(1, api.OK, 1, "")), three},
	}, api.Reply{N: 1})
}

func TestApplyDropsToMakeRoom(t *testing.T) {
	s := but(full(), func(s *api.State) {
		s.Index, s.Locks = 60, nil
		for i := range s.Sessions {
			s.Sessions[i].Last = 21 // fresh, by one entry
		}
	})
	wantApply(t, s, join(9), but(s, func(s *api.State) { s.Index = 61 }), api.Reply{Code: api.ErrFull})
	s.Sessions[2].Last = 20
	wantApply(t, s, join(9), but(s, func(s *api.State) {
		s.Index = 61
		s.Sessions = []api.Session{s.Sessions[0], s.Sessions[1], s.Sessions[3], sessionOf(9, 61, 0, 61)}
	}), api.Reply{N: 61})
}

// Several go at once, one by one, by their numbers: what one gives up another one is given, and gives up.
func TestApplyDropsSeveral(t *testing.T) {
	for _, c := range []struct {
		lock, then api.Lock
	}{
		{lockOf("a", 1, 4, 2), lockOf("a", 0, 5)},
		{lockOf("a", 2, 4, 1), lockOf("a", 0, 4)},
		{lockOf("a", 1, 4, 2, 3), lockOf("a", 0, 6)},
		{lockOf("a", 1, 4, 3, 2), lockOf("a", 0, 5)},
		{lockOf("a", 2, 4, 1, 3), lockOf("a", 0, 5)},
		{lockOf("a", 3, 4, 2, 1), lockOf("a", 0, 4)},
		{lockOf("a", 3, 4, 1, 2), lockOf("a", 0, 4)},
		{lockOf("a", 1, 4, 4), lockOf("a", 4, 5)},
		{lockOf("a", 1, 4, 2, 3, 4), lockOf("a", 4, 7)},
		{lockOf("a", 3, 4, 2, 4, 1), lockOf("a", 4, 5)},
		{lockOf("a", 4, 4, 1, 2, 3), lockOf("a", 4, 4)},
		{lockOf("a", 1, api.MaxFence, 2, 4), lockOf("a", 0, api.MaxFence)},
		{lockOf("a", 1, api.MaxFence-1, 2, 4), lockOf("a", 0, api.MaxFence)},
		{lockOf("a", 0, 4), lockOf("a", 0, 4)},
	} {
		s := api.State{
			Index: 50, Locks: []api.Lock{c.lock},
			Sessions: []api.Session{sessionOf(1, 1, 0, 10), sessionOf(2, 1, 0, 9), sessionOf(3, 1, 0, 8), sessionOf(4, 1, 0, 11)},
		}
		want := api.State{Index: 51, Locks: []api.Lock{c.then}, Sessions: []api.Session{sessionOf(4, 1, 0, 51)}}
		wantApply(t, s, join(4), want, api.Reply{Code: api.ErrTwice, N: 1})
	}
}

// Who never had a session lost none: its locks are its own.
func TestApplyLeavesWhoHadNoSession(t *testing.T) {
	s := api.State{Index: 50, Locks: []api.Lock{lockOf("a", 7, 4, 8), lockOf("b", 3, 1, 7)}, Sessions: []api.Session{sessionOf(3, 1, 0, 10)}}
	want := api.State{
		Index: 51, Locks: []api.Lock{lockOf("a", 7, 4, 8), lockOf("b", 7, 2)},
		Sessions: []api.Session{sessionOf(4, 51, 0, 51)},
	}
	wantApply(t, s, join(4), want, api.Reply{N: 51})
}

// A client that says something now and then is never idle; each kind of entry is a word, but one that is away.
func TestApplyKeepsWhoSpeaks(t *testing.T) {
	words := func(i int) string {
		switch i % 5 {
		case 0:
			return join(1)
		case 1:
			return call(1, 1, 1, 0, op(api.Try, "a")) // done, and asked again
		case 2:
			return call(1, 1, 9, 0, op(api.Try, "z")) // too high
		case 3:
			return call(1, 1, 2, 0, op(api.Get, "a"))
		}
		return call(1, 1, 1, 0, op(api.Try, "b"))
	}
	s := api.State{}
	apply := func(x string) {
		next, _, e := machine.Apply(s, x)
		if e != api.OK {
			t.Fatalf("Apply(%s, %q) is refused: %d", show(s), x, e)
		}
		s = next
	}
	apply(join(1))
	for i := range 20 {
		for range api.MaxIdle - 1 {
			apply(leave(9))
		}
		if apply(words(i)); len(s.Sessions) != 1 || s.Sessions[0].Id != 1 || s.Sessions[0].Last != s.Index {
			t.Fatalf("after its word %d: %s", i, show(s))
		}
	}
	// With a word of another session it says nothing.
	for range api.MaxIdle {
		apply(call(1, 2, 1, 0, op(api.Try, "a")))
	}
	if len(s.Sessions) != 1 || s.Locks[0].Holder != 1 {
		t.Errorf("it went too early: %s", show(s))
	}
	apply(call(1, 1, 1, 0, op(api.Try, "a")))
	if want := fmt.Sprint(s.Index, ` lock{"a" 0 1 []}`); show(s) != want {
		t.Errorf("%s, want %s", show(s), want)
	}
}
