package replica_test

import (
	"fmt"
	"math"
	"slices"
	"strings"
	"testing"

	"tackroom/api"
	"tackroom/command"
	"tackroom/machine"
	"tackroom/replica"
	"tackroom/snap"
)

// maxBase is the greatest Base that may be, as a number: what stands in package replica is not asked.
const maxBase = 1<<30 - 400

// outside: numbers that wrap round if one is added to them or taken from them, and such as look like others in fewer bits.
var outside = []int{math.MinInt, math.MinInt + 1, math.MinInt32, -400, -1, math.MaxInt - 1, math.MaxInt, 1 << 32, 1<<32 + 6, 1 << 62}

// entry of a command that may be.
func entry(c api.Command) string {
	s, e := command.Encode(c)
	if e != api.OK {
		panic(fmt.Sprint(c, " may not be: ", e))
	}
	return s
}

func join(client int) string  { return entry(api.Command{Kind: api.Join, Client: client}) }
func leave(client int) string { return entry(api.Command{Kind: api.Leave, Client: client}) }

func call(client, id, seq, acked int, o api.Op) string {
	return entry(api.Command{Kind: api.Call, Client: client, Session: id, Seq: seq, Acked: acked, Op: o})
}

func op(kind int, a string) api.Op { return api.Op{Kind: kind, A: a} }

func setOp(a, b string, n int) api.Op { return api.Op{Kind: api.Set, A: a, B: b, N: n} }

// story: entries of each kind, and what is replied to them, from the empty state on.
var story = []struct {
	entry string
	mail  api.Mail
}{
	{join(1), mail(1, 0, api.OK, 1, "")},
	{call(1, 1, 1, 0, op(api.Try, "a")), mail(1, 1, api.OK, 1, "")},
	{call(1, 1, 1, 0, op(api.Try, "a")), mail(1, 1, api.OK, 1, "")},
	{call(1, 1, 2, 1, setOp("a", "x", 1)), mail(1, 2, api.OK, 1, "")},
	{join(3), mail(3, 0, api.OK, 5, "")},
	{call(3, 5, 1, 0, op(api.Line, "a")), mail(3, 1, api.ErrHeld, 1, "")},
	{call(3, 5, 2, 0, op(api.Get, "a")), mail(3, 2, api.OK, 1, "x")},
	{join(1), mail(1, 0, api.ErrTwice, 1, "")},
	{call(1, 1, 1, 0, op(api.Try, "a")), mail(1, 1, api.ErrOld, 0, "")},
	{leave(1), mail(1, 0, api.OK, 0, "")},
	{call(3, 5, 3, 1, op(api.Who, "a")), mail(3, 3, api.OK, 3, "")},
	{call(3, 5, 4, 2, setOp("a", "yz", 2)), mail(3, 4, api.OK, 2, "")},
	{leave(1), mail(1, 0, api.ErrAway, 0, "")},
	{call(9, 1, 7, 6, op(api.Free, "a")), mail(9, 7, api.ErrAway, 0, "")},
	{call(3, 5, 5, 4, op(api.Free, "a")), mail(3, 5, api.OK, 0, "")},
}

func mail(client, seq int, code api.Errno, n int, text string) api.Mail {
	return api.Mail{Client: client, Seq: seq, Reply: api.Reply{Code: code, N: n, Text: text}}
}

// told: the entries of the story.
func told() []string {
	var l []string
	for _, x := range story {
		l = append(l, x.entry)
	}
	return l
}

// calls: so many entries, no two of which are alike.
func calls(many int) []string {
	var l []string
	for seq := 1; seq <= many; seq++ {
		l = append(l, call(2, 1, seq, 0, op(api.Get, "b")))
	}
	return l
}

// run entries on a state.
func run(s api.State, entries []string) api.State {
	for _, x := range entries {
		next, _, e := machine.Apply(s, x)
		if e != api.OK {
			panic(fmt.Sprintf("%q is refused: %d", x, e))
		}
		s = next
	}
	return s
}

func bytesOf(s api.State) string {
	b, e := snap.Encode(s)
	if e != api.OK {
		panic(fmt.Sprint(s, " may not be: ", e))
	}
	return b
}

// grown: a replica with a snapshot of a state (the empty one: with none) and entries behind it, some of them applied.
func grown(s api.State, entries []string, applied int) api.Replica {
	r := api.Replica{Log: api.Log{Base: s.Index, Entries: slices.Clone(entries)}, State: run(s, entries[:applied])}
	if s.Index > 0 {
		r.Snap = bytesOf(s)
	}
	return r
}

// teller: a replica that was told the story: a snapshot of the first entries, and more of them applied.
func teller(base, applied int) api.Replica {
	all := told()
	return grown(run(api.State{}, all[:base]), all[base:], applied-base)
}

// busy: a state with something of each kind, at an index from 20 on.
func busy(index int) api.State {
	return api.State{
		Index: index,
		Locks: []api.Lock{{Name: "a", Holder: 2, Fence: 3, Line: []int{4, 6}}, {Name: "c", Fence: 2}, {Name: "d", Holder: 6, Fence: api.MaxFence, Line: []int{2}}},
		Pairs: []api.Pair{{Name: "a", Value: "x", Version: 2}, {Name: "e", Value: "\xff\x00", Version: api.MaxFence}},
		Sessions: []api.Session{
			{Client: 2, Id: 1, Last: 11, Replies: []api.Kept{{Seq: 1, Reply: api.Reply{N: 3}}, {Seq: 3, Reply: api.Reply{Code: api.ErrHeld, N: 4}}}},
			{Client: 4, Id: 6, Acked: 5, Last: 14},
			{Client: 6, Id: 7, Acked: 2, Last: 20, Replies: []api.Kept{{Seq: 4, Reply: api.Reply{N: 2, Text: "x"}}}},
		},
	}
}

// show a replica, whether a list without elements is nil or not.
func show(r api.Replica) string {
	log := fmt.Sprintf("%q", r.Log.Entries)
	if len(r.Log.Entries) > 30 {
		log = fmt.Sprintf("%d entries %.40q .. %.40q", len(r.Log.Entries), r.Log.Entries[0], r.Log.Entries[len(r.Log.Entries)-1])
	}
	return fmt.Sprintf("log %d %.3000s, snap %.1000q, state %s", r.Log.Base, log, r.Snap, showState(r.State))
}

func showState(s api.State) string {
	var b strings.Builder
	fmt.Fprintf(&b, "%d", s.Index)
	for _, x := range s.Locks {
		fmt.Fprintf(&b, " lock{%q %d %d %d}", x.Name, x.Holder, x.Fence, x.Line)
	}
	for _, x := range s.Pairs {
		fmt.Fprintf(&b, " pair{%q %q %d}", x.Name, x.Value, x.Version)
	}
	for _, x := range s.Sessions {
		fmt.Fprintf(&b, " session{%d %d %d %d", x.Client, x.Id, x.Acked, x.Last)
		for _, k := range x.Replies {
			fmt.Fprintf(&b, " %d:{%d %d %q}", k.Seq, k.Reply.Code, k.Reply.N, k.Reply.Text)
		}
		b.WriteString("}")
	}
	return b.String()
}

func showMails(l []api.Mail) string { return fmt.Sprintf("%+v", l) }

func same(a, b api.Replica) bool {
	return a.Log.Base == b.Log.Base && slices.Equal(a.Log.Entries, b.Log.Entries) && a.Snap == b.Snap && showState(a.State) == showState(b.State)
}

func wantCheck(t *testing.T, r api.Replica, want api.Errno) {
	t.Helper()
	if e := replica.Check(r); e != want {
		t.Errorf("Check(%s) = %d; want %d", show(r), e, want)
	}
}

// want what is answered; that may be.
func want(t *testing.T, what string, got api.Replica, e api.Errno, want api.Replica) {
	t.Helper()
	if !same(got, want) || e != api.OK {
		t.Errorf("%s =\n%s, %d; want\n%s, 0", what, show(got), e, show(want))
	}
	wantCheck(t, got, api.OK)
}

// wantNothing but an error.
func wantNothing(t *testing.T, what string, got api.Replica, e, want api.Errno) {
	t.Helper()
	if !same(got, api.Replica{}) || e != want {
		t.Errorf("%s = %s, %d; want nothing and %d", what, show(got), e, want)
	}
}

// P9.1

// mayBe: replicas that are as they must be.
func mayBe() []api.Replica {
	all := []api.Replica{{}, {Log: api.Log{Entries: []string{}}}, grown(api.State{}, calls(400), 0), grown(api.State{}, calls(400), 400)}
	for base := range len(story) + 1 {
		for applied := base; applied <= len(story); applied++ {
			all = append(all, teller(base, applied))
		}
	}
	for _, base := range []int{20, 21, 1000, maxBase - 1, maxBase} {
		all = append(all, grown(busy(base), nil, 0), grown(busy(base), told(), 0), grown(busy(base), told(), 9), grown(busy(base), told(), len(story)))
		all = append(all, grown(busy(base), calls(400), 0), grown(busy(base), calls(400), 399), grown(busy(base), calls(400), 400))
	}
	return append(all, odd()...)
}

// odd replicas: what is applied is not what the snapshot and the entries tell. Nothing says that it must be.
func odd() []api.Replica {
	all := []api.Replica{
		{State: api.State{Locks: []api.Lock{{Name: "a", Holder: 1, Fence: 1}}, Pairs: []api.Pair{{Name: "b", Version: 1}}}},
		{Log: api.Log{Entries: calls(30)}, State: busy(20)},
		{Log: api.Log{Base: 20}, Snap: bytesOf(api.State{Index: 20}), State: busy(20)},
		{Log: api.Log{Base: 20}, Snap: bytesOf(busy(20)), State: api.State{Index: 20}},
		{Log: api.Log{Base: 20, Entries: calls(30)}, Snap: bytesOf(api.State{Index: 20}), State: busy(50)},
		{Log: api.Log{Base: maxBase, Entries: calls(400)}, Snap: bytesOf(busy(maxBase)), State: api.State{Index: api.MaxIndex}},
	}
	return all
}

// wrongReplica: one that may not be, and what is told of it.
type wrongReplica struct {
	r api.Replica
	e api.Errno
}

// wrong: a part of a replica with the Base 30 that may not be, and what is told of it.
type wrong struct {
	spoil func(r *api.Replica)
	want  api.Errno
}

// right: nothing is wrong.
var right = wrong{func(*api.Replica) {}, api.OK}

// What is wrong with parts of a replica, by the order in which they are looked at.
var (
	wrongLogs = []wrong{
		right,
		{func(r *api.Replica) { r.Log.Base = -1 }, api.ErrRange},
		{func(r *api.Replica) { r.Log.Base = maxBase + 1 }, api.ErrRange},
		{func(r *api.Replica) { r.Log.Base = math.MinInt }, api.ErrRange},
		{func(r *api.Replica) { r.Log.Base = math.MaxInt }, api.ErrRange},
		{func(r *api.Replica) { r.Log.Entries = calls(401) }, api.ErrSize},
		{func(r *api.Replica) { r.Log.Entries = make([]string, 401) }, api.ErrSize},
		{func(r *api.Replica) { r.Log.Entries[0] = "" }, api.ErrShort},
		{func(r *api.Replica) { r.Log.Entries[7] = "\x00\x01" }, api.ErrKind},
		{func(r *api.Replica) { r.Log.Entries[3] += "\x00" }, api.ErrForm},
		{func(r *api.Replica) { r.Log.Entries[5], r.Log.Entries[6] = "\x01\x00", "" }, api.ErrRange},
		{func(r *api.Replica) { r.Log.Entries[2] = strings.Repeat("x", api.MaxBytes+1) }, api.ErrSize},
	}
	wrongStates = []wrong{
		right,
		{func(r *api.Replica) { r.State.Index = -1 }, api.ErrRange},
		{func(r *api.Replica) { r.State.Index = api.MaxIndex + 1 }, api.ErrRange},
		{func(r *api.Replica) { r.State.Index = math.MinInt }, api.ErrRange},
		{func(r *api.Replica) { r.State.Index = math.MaxInt }, api.ErrRange},
		{func(r *api.Replica) { r.State.Sessions = make([]api.Session, api.MaxSessions+1) }, api.ErrSize},
		{func(r *api.Replica) { r.State.Sessions[1].Client = 2 }, api.ErrOrder},
		{func(r *api.Replica) { r.State.Sessions[2].Replies[0].Seq = 7 }, api.ErrForm},
		{func(r *api.Replica) { r.State.Locks = make([]api.Lock, api.MaxLocks+1) }, api.ErrSize},
		{func(r *api.Replica) { r.State.Locks[1].Line = []int{1} }, api.ErrForm},
		{func(r *api.Replica) { r.State.Locks[1].Fence = 0 }, api.ErrRange},
		{func(r *api.Replica) { r.State.Pairs[1].Name = "a" }, api.ErrOrder},
		{func(r *api.Replica) { r.State.Pairs[1].Value = "1234567890123" }, api.ErrSize},
		{func(r *api.Replica) { r.State.Sessions[0].Client, r.State.Locks[0].Name = 0, "" }, api.ErrRange},
		{func(r *api.Replica) { r.State.Locks[0].Name, r.State.Pairs[0].Version = "", 0 }, api.ErrForm},
	}
	wrongPlaces = []wrong{
		right,
		{func(r *api.Replica) { r.State.Index = 29 }, api.ErrState},
		{func(r *api.Replica) { r.State.Index = 46 }, api.ErrState},
		{func(r *api.Replica) { r.State.Index = 1000 }, api.ErrState},
		{func(r *api.Replica) { r.State.Index = api.MaxIndex }, api.ErrState},
		{func(r *api.Replica) { r.Log.Entries = r.Log.Entries[:8] }, api.ErrState}, // nine of them are applied
		{func(r *api.Replica) { r.Snap = "" }, api.ErrState},
		{func(r *api.Replica) { r.Snap = "x" }, api.ErrState},
		{func(r *api.Replica) { r.Snap += "\x00" }, api.ErrState},
		{func(r *api.Replica) { r.Snap = r.Snap[1:] }, api.ErrState},
		{func(r *api.Replica) { r.Snap = r.Snap[:len(r.Snap)-1] }, api.ErrState},
		{func(r *api.Replica) { r.Snap = "\x1f" + r.Snap[1:] }, api.ErrState},
		{func(r *api.Replica) { r.Snap = bytesOf(api.State{}) }, api.ErrState},
		{func(r *api.Replica) { r.Snap = bytesOf(api.State{Index: 29}) }, api.ErrState},
		{func(r *api.Replica) { r.Snap = bytesOf(busy(31)) }, api.ErrState},
		{func(r *api.Replica) { r.Snap = bytesOf(r.State) }, api.ErrState},
		{func(r *api.Replica) { r.Snap = strings.Repeat(r.Snap, 100) }, api.ErrState},
	}
)

// eachWrong: replicas in which up to three parts are wrong at once, and what is wrong first.
func eachWrong() []wrongReplica {
	var all []wrongReplica
	for _, a := range wrongLogs {
		for _, b := range wrongStates {
			for _, c := range wrongPlaces {
				r := api.Replica{Log: api.Log{Base: 30, Entries: told()}, Snap: bytesOf(busy(30)), State: busy(39)}
				// What is looked at first is spoilt last, so that it stays wrong.
				c.spoil(&r)
				b.spoil(&r)
				a.spoil(&r)
				if e := first(a.want, b.want, c.want); e != api.OK {
					all = append(all, wrongReplica{r, e})
				}
			}
		}
	}
	return all
}

// first of some that is an error.
func first(l ...api.Errno) api.Errno {
	for _, e := range l {
		if e != api.OK {
			return e
		}
	}
	return api.OK
}

// noSnaps: bytes that a replica with the Base 0 may not have as its Snap: any.
func noSnaps() []string {
	return []string{"x", "\x00", "abcd", bytesOf(api.State{}), bytesOf(api.State{Index: 1}), bytesOf(busy(20))}
}

func TestCheck(t *testing.T) {
	for _, r := range mayBe() {
		wantCheck(t, r, api.OK)
	}
}

func TestCheckRefuses(t *testing.T) {
	for _, x := range eachWrong() {
		wantCheck(t, x.r, x.e)
	}
}

func TestCheckTheIndex(t *testing.T) {
	for _, base := range []int{20, 21, 1000, maxBase} {
		for _, many := range []int{0, 1, 2, 15, 400} {
			r := grown(api.State{Index: base}, calls(many), 0)
			for index := base - 3; index <= base+many+3; index++ {
				r.State.Index = index
				switch {
				case index > api.MaxIndex: // what machine's Check refuses
					wantCheck(t, r, api.ErrRange)
				case index < base || index > base+many:
					wantCheck(t, r, api.ErrState)
				default:
					wantCheck(t, r, api.OK)
				}
			}
		}
	}
}

func TestCheckTheSnap(t *testing.T) {
	for _, s := range noSnaps() {
		for applied := range len(story) + 1 {
			r := teller(0, applied)
			r.Snap = s
			wantCheck(t, r, api.ErrState)
		}
	}
	for _, base := range []int{1, 2, 20, 1000, maxBase} {
		r := grown(api.State{Index: base}, told(), 3)
		for _, other := range []int{0, 1, base - 1, base + 1, base + 3, base + 15, api.MaxIndex} {
			if other != base {
				r.Snap = bytesOf(api.State{Index: other})
				wantCheck(t, r, api.ErrState)
			}
		}
		r.Snap = ""
		wantCheck(t, r, api.ErrState)
		r.Snap = bytesOf(api.State{Index: base})
		wantCheck(t, r, api.OK)
		for i := range len(r.Snap) {
			bad := r
			bad.Snap = r.Snap[:i] + string([]byte{r.Snap[i] ^ 1}) + r.Snap[i+1:]
			wantCheck(t, bad, api.ErrState)
			bad.Snap = r.Snap[:i]
			wantCheck(t, bad, api.ErrState)
		}
	}
}

// TestCheckOfSealedBytes: their seal is right, but no state that may be has such bytes.
func TestCheckOfSealedBytes(t *testing.T) {
	for _, s := range []string{"\x14\x01\x01A\x00\x01\x00\x00\x00", "\x14\x00\x00\x00\x00", "\x94\x00\x00\x00\x00", "\x14\x00\x00"} {
		r := grown(api.State{Index: 20}, told(), 3)
		r.Snap = sealed(s)
		wantCheck(t, r, api.ErrState)
	}
	r := grown(api.State{Index: 20}, told(), 3)
	r.Snap = sealed("\x14\x00\x00\x00")
	wantCheck(t, r, api.OK)
}

func TestCopy(t *testing.T) {
	all := mayBe()
	for _, x := range eachWrong() {
		all = append(all, x.r)
	}
	for _, r := range all {
		if got := replica.Copy(r); !same(got, r) {
			t.Errorf("Copy(%s) = %s", show(r), show(got))
		}
	}
}

// TestAllRefuseWhatCheckRefuses: ahead of all else, whether what else is handed in would do or not.
func TestAllRefuseWhatCheckRefuses(t *testing.T) {
	all := eachWrong()
	for _, s := range noSnaps() {
		r := teller(0, 3)
		r.Snap = s
		all = append(all, wrongReplica{r, api.ErrState})
	}
	good := bytesOf(api.State{Index: 500})
	for _, x := range all {
		for _, n := range []int{-1, 30, 39, 42, 500, api.MaxIndex + 1} {
			for _, more := range [][]string{nil, {join(1)}, {""}} {
				got, e := replica.Hear(x.r, n, more)
				wantNothing(t, "Hear of "+show(x.r), got, e, x.e)
			}
			wantNotApplied(t, x.r, n, x.e)
		}
		got, e := replica.Compact(x.r)
		wantNothing(t, "Compact of "+show(x.r), got, e, x.e)
		for _, s := range []string{good, "", "abcd", bytesOf(api.State{}), bytesOf(api.State{Index: api.MaxIndex})} {
			got, e = replica.Install(x.r, s)
			wantNothing(t, "Install to "+show(x.r), got, e, x.e)
		}
		got, e = replica.Restart(x.r)
		wantNothing(t, "Restart of "+show(x.r), got, e, x.e)
	}
}

// TestEveryCallEnds: at all numbers.
func TestEveryCallEnds(t *testing.T) {
	numbers := append([]int{0, 1, 20, maxBase, maxBase + 1, api.MaxIndex, api.MaxIndex + 1}, outside...)
	for _, base := range numbers {
		for _, index := range numbers {
			for _, entries := range [][]string{nil, told(), {""}, make([]string, 3000)} {
				r := api.Replica{Log: api.Log{Base: base, Entries: entries}, State: api.State{Index: index}}
				for _, s := range []string{"", "x", bytesOf(api.State{Index: 20})} {
					r.Snap = s
					replica.Check(r)
					replica.Copy(r)
					replica.Compact(r)
					replica.Restart(r)
					replica.Install(r, s)
				}
				for _, n := range numbers {
					replica.Hear(r, n, entries)
					replica.Apply(r, n)
				}
			}
		}
	}
}
