package machine_test

import (
	"fmt"
	"math"
	"slices"
	"strings"
	"testing"

	"tackroom/api"
	"tackroom/command"
	"tackroom/machine"
)

func lockOf(name string, holder, fence int, line ...int) api.Lock {
	return api.Lock{Name: name, Holder: holder, Fence: fence, Line: line}
}

func pairOf(name, value string, version int) api.Pair {
	return api.Pair{Name: name, Value: value, Version: version}
}

func sessionOf(client, id, acked, last int, replies ...api.Kept) api.Session {
	return api.Session{Client: client, Id: id, Acked: acked, Last: last, Replies: replies}
}

func kept(seq int, code api.Errno, n int, text string) api.Kept {
	return api.Kept{Seq: seq, Reply: api.Reply{Code: code, N: n, Text: text}}
}

// busy: a state after the entry 20, with something of each kind.
func busy() api.State {
	return api.State{
		Index: 20,
		Locks: []api.Lock{lockOf("a", 2, 3, 4, 6), lockOf("b", 4, 7), lockOf("c", 0, 2), lockOf("d", 6, api.MaxFence, 2)},
		Pairs: []api.Pair{pairOf("a", "x", 2), pairOf("c", "", 1), pairOf("e", "\xff\x00", api.MaxFence)},
		Sessions: []api.Session{
			sessionOf(2, 1, 0, 11, kept(1, api.OK, 3, ""), kept(3, api.ErrHeld, 4, "")),
			sessionOf(4, 6, 5, 14),
			sessionOf(6, 7, 2, 20, kept(4, api.OK, 2, "x")),
		},
	}
}

// full: a state after the entry 20, with as much as may be.
func full() api.State {
	s := api.State{Index: 20}
	for _, name := range []string{"b", "d", "f", "h", "zzzzzz"} {
		s.Locks = append(s.Locks, lockOf(name, 2, api.MaxFence, 4, 6, 8))
		s.Pairs = append(s.Pairs, pairOf(name, strings.Repeat("v", api.MaxValue), api.MaxFence))
	}
	for _, client := range []int{2, 4, 6, 8} {
		x := sessionOf(client, client, api.MaxSeq-api.Window, 20)
		for i := range api.Window {
			x.Replies = append(x.Replies, kept(x.Acked+1+i, api.ErrSum, api.MaxFence, strings.Repeat("t", api.MaxValue)))
		}
		s.Sessions = append(s.Sessions, x)
	}
	return s
}

// but: a state with changes.
func but(s api.State, change func(s *api.State)) api.State {
	change(&s)
	return s
}

// show a state, whether a list without elements is nil or not.
func show(s api.State) string {
	var b strings.Builder
	fmt.Fprintf(&b, "%d", s.Index)
	for _, x := range s.Locks {
		fmt.Fprintf(&b, " lock{%q %d %d %d}", x.Name, x.Holder, x.Fence, x.Line)
	}
	for _, x := range s.Pairs {
		fmt.Fprintf(&b, " pair{%q %q %d}", x.Name, x.Value, x.Version)
	}
	for _, x := range s.Sessions {
		fmt.Fprintf(&b, " session{%d %d %d %d", x.Client, x.Id, x.Acked, x.Last)
		for _, k := range x.Replies {
			fmt.Fprintf(&b, " %d:%s", k.Seq, tell(k.Reply))
		}
		b.WriteString("}")
	}
	return b.String()
}

// tell a reply; its text may be bytes of any kind.
func tell(r api.Reply) string { return fmt.Sprintf("{%d %d %q}", r.Code, r.N, r.Text) }

// die: numbers that look drawn, the same each time.
type die uint64

func (d *die) roll(most int) int {
	*d = *d*6364136223846793005 + 1442695040888963407
	return int(uint64(*d>>33) % uint64(most))
}

// entry of a command that may be.
func entry(c api.Command) string {
	s, e := command.Encode(c)
	if e != api.OK {
		panic(fmt.Sprint(c, " may not be: ", e))
	}
	return s
}

func join(client int) string  { return entry(api.Command{Kind: api.Join, Client: client}) }
func leave(client int) string { return entry(api.Command{Kind: api.Leave, Client: client}) }

func call(client, id, seq, acked int, o api.Op) string {
	return entry(api.Command{Kind: api.Call, Client: client, Session: id, Seq: seq, Acked: acked, Op: o})
}

func op(kind int, a string) api.Op { return api.Op{Kind: kind, A: a} }

func setOp(a, b string, n int) api.Op { return api.Op{Kind: api.Set, A: a, B: b, N: n} }

func wantCheck(t *testing.T, s api.State, want api.Errno) {
	t.Helper()
	if e := machine.Check(s); e != want {
		t.Errorf("Check(%.400s) = %d, want %d", show(s), e, want)
	}
}

// wantApply: what an entry makes of a state. What it makes may be, and what was handed in stays.
func wantApply(t *testing.T, s api.State, entry string, want api.State, reply api.Reply) {
	t.Helper()
	before := show(s)
	got, r, e := machine.Apply(s, entry)
	if show(got) != show(want) || r != reply || e != api.OK {
		t.Errorf("Apply(%s, %q) =\n%s, %s, %d; want\n%s, %s, 0", before, entry, show(got), tell(r), e, show(want), tell(reply))
	}
	if show(s) != before {
		t.Errorf("Apply(%s, %q) leaves %s", before, entry, show(s))
	}
	wantCheck(t, got, api.OK)
}

func wantRefused(t *testing.T, s api.State, entry string, want api.Errno) {
	t.Helper()
	got, r, e := machine.Apply(s, entry)
	if show(got) != show(api.State{}) || r != (api.Reply{}) || e != want {
		t.Errorf("Apply(%.400s, %.40q) = %s, %s, %d; want nothing and %d", show(s), entry, show(got), tell(r), e, want)
	}
}

// P6.1

// mayBe: states that are as they must be.
func mayBe() []api.State {
	return []api.State{
		{},
		{Locks: []api.Lock{}, Pairs: []api.Pair{}, Sessions: []api.Session{}},
		{Index: 1},
		{Index: api.MaxIndex},
		{Locks: []api.Lock{lockOf("a", 1, 1)}}, // whose Holder has no session
		{Locks: []api.Lock{lockOf("a", 0, api.MaxFence)}, Pairs: []api.Pair{pairOf("b", "", 1)}},
		{Pairs: []api.Pair{pairOf("a", "x", 1)}}, // without a lock
		{Index: 1, Sessions: []api.Session{sessionOf(3, 1, 0, 1)}},
		{Index: api.MaxIndex, Sessions: []api.Session{sessionOf(3, 1, 0, 1), sessionOf(9, api.MaxIndex, 0, api.MaxIndex)}},
		busy(),
		full(),
		but(full(), func(s *api.State) { s.Index = 1000 }), // all of them idle
		but(full(), func(s *api.State) { s.Index = api.MaxIndex }),
	}
}

// wrong: a part of a state that may not be, and what is told of it.
type wrong struct {
	spoil func(s *api.State)
	want  api.Errno
}

// right: nothing is wrong.
var right = wrong{func(*api.State) {}, api.OK}

// What is wrong with parts of a busy state, by the order in which they are looked at.
var (
	wrongSessions = []wrong{
		right,
		{func(s *api.State) { s.Index = -1 }, api.ErrRange},
		{func(s *api.State) { s.Index = api.MaxIndex + 1 }, api.ErrRange},
		{func(s *api.State) { s.Index = math.MinInt }, api.ErrRange},
		{func(s *api.State) { s.Index = math.MaxInt }, api.ErrRange},
		{func(s *api.State) { s.Index = 19 }, api.ErrRange}, // the Last of one is 20
		{func(s *api.State) { s.Sessions = make([]api.Session, api.MaxSessions+1) }, api.ErrSize},
		{func(s *api.State) { s.Sessions[0].Client = 0 }, api.ErrRange},
		{func(s *api.State) { s.Sessions[2].Client = api.MaxClient + 1 }, api.ErrRange},
		{func(s *api.State) { s.Sessions[1].Acked = -1 }, api.ErrRange},
		{func(s *api.State) { s.Sessions[1].Id = 21 }, api.ErrRange},
		{func(s *api.State) { s.Sessions[2].Last = 21 }, api.ErrRange},
		{func(s *api.State) { s.Sessions[1].Last = 5 }, api.ErrRange},
		{func(s *api.State) { s.Sessions[0].Replies[1].Seq = 1 }, api.ErrForm},
		{func(s *api.State) { s.Sessions[2].Replies[0].Seq = 2 }, api.ErrForm},
		{func(s *api.State) { s.Sessions[2].Replies[0].Seq = 7 }, api.ErrForm},
		{func(s *api.State) { s.Sessions[2].Replies[0].Reply.Code = api.ErrSum + 1 }, api.ErrForm},
		{func(s *api.State) { s.Sessions[2].Replies[0].Reply.N = -1 }, api.ErrForm},
		{func(s *api.State) { s.Sessions[2].Replies[0].Reply.Text = strings.Repeat("x", api.MaxValue+1) }, api.ErrForm},
		{func(s *api.State) { s.Sessions[1].Client = 2 }, api.ErrOrder},
	}
	wrongLocks = []wrong{
		right,
		{func(s *api.State) { s.Locks = make([]api.Lock, api.MaxLocks+1) }, api.ErrSize},
		{func(s *api.State) { s.Locks[0].Name = "A" }, api.ErrForm},
		{func(s *api.State) { s.Locks[1].Holder = api.MaxClient + 1 }, api.ErrForm},
		{func(s *api.State) { s.Locks[0].Line = []int{4, 5, 6, 7} }, api.ErrForm},
		{func(s *api.State) { s.Locks[0].Line[1] = 2 }, api.ErrForm},
		{func(s *api.State) { s.Locks[2].Line = []int{1} }, api.ErrForm},
		{func(s *api.State) { s.Locks[3].Fence = api.MaxFence + 1 }, api.ErrRange},
		{func(s *api.State) { s.Locks[2].Fence = 0 }, api.ErrRange},
		{func(s *api.State) { s.Locks[3].Name = "c" }, api.ErrOrder},
	}
	wrongPairs = []wrong{
		right,
		{func(s *api.State) { s.Pairs = make([]api.Pair, api.MaxPairs+1) }, api.ErrSize},
		{func(s *api.State) { s.Pairs[0].Name = "" }, api.ErrForm},
		{func(s *api.State) { s.Pairs[1].Value = strings.Repeat("v", api.MaxValue+1) }, api.ErrSize},
		{func(s *api.State) { s.Pairs[2].Version = api.MaxFence + 1 }, api.ErrRange},
		{func(s *api.State) { s.Pairs[2].Version = 0 }, api.ErrRange},
		{func(s *api.State) { s.Pairs[1].Name = "a" }, api.ErrOrder},
	}
)

// eachWrong: busy states in which up to three parts are wrong at once, and what is wrong first.
func eachWrong(do func(s api.State, first api.Errno)) {
	for _, a := range wrongSessions {
		for _, b := range wrongLocks {
			for _, c := range wrongPairs {
				s := busy()
				a.spoil(&s)
				b.spoil(&s)
				c.spoil(&s)
				first := a.want
				if first == api.OK {
					first = b.want
				}
				if first == api.OK {
					first = c.want
				}
				do(s, first)
			}
		}
	}
}

func TestCheckWhatMayBe(t *testing.T) {
	for _, s := range mayBe() {
		wantCheck(t, s, api.OK)
	}
}

func TestCheckWhatIsWrongFirst(t *testing.T) {
	eachWrong(func(s api.State, first api.Errno) { wantCheck(t, s, first) })
}

func TestCheckSessionsAtTheIndex(t *testing.T) {
	for _, index := range []int{1, 2, 40, 1000, api.MaxIndex - 1, api.MaxIndex} {
		wantCheck(t, api.State{Index: index, Sessions: []api.Session{sessionOf(3, index, 0, index)}}, api.OK)
		wantCheck(t, api.State{Index: index - 1, Sessions: []api.Session{sessionOf(3, index, 0, index)}}, api.ErrRange)
		wantCheck(t, api.State{Index: index, Sessions: []api.Session{sessionOf(3, 1, 0, index)}}, api.OK)
		wantCheck(t, api.State{Index: index - 1, Sessions: []api.Session{sessionOf(3, 1, 0, index)}}, api.ErrRange)
	}
}

func TestCopy(t *testing.T) {
	for _, s := range mayBe() {
		if got := machine.Copy(s); show(got) != show(s) {
			t.Errorf("Copy(%s) = %s", show(s), show(got))
		}
	}
	eachWrong(func(s api.State, _ api.Errno) { // Copy refuses nothing
		if got := machine.Copy(s); show(got) != show(s) {
			t.Errorf("Copy(%s) = %s", show(s), show(got))
		}
	})
	long := api.State{
		Locks:    slices.Repeat(busy().Locks, 1000),
		Pairs:    slices.Repeat(busy().Pairs, 1000),
		Sessions: slices.Repeat(busy().Sessions, 1000),
	}
	if got := machine.Copy(long); show(got) != show(long) {
		t.Error("Copy of long lists is another state")
	}
}
