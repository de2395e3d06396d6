package cluster_test

import (
	"fmt"
	"math"
	"slices"
	"strings"
	"testing"

	"tackroom/api"
	"tackroom/cluster"
	"tackroom/command"
	"tackroom/machine"
	"tackroom/snap"
)

// Acts, written shortly.

func enter(c int) api.Act             { return api.Act{Kind: api.Enter, C: c} }
func start(c int, o api.Op) api.Act   { return api.Act{Kind: api.Start, C: c, Op: o} }
func send(c, k int) api.Act           { return api.Act{Kind: api.Send, C: c, K: k} }
func ship(r, k int) api.Act           { return api.Act{Kind: api.Ship, R: r, K: k} }
func apply(r, k int) api.Act          { return api.Act{Kind: api.Apply, R: r, K: k} }
func compact(r int) api.Act           { return api.Act{Kind: api.Compact, R: r} }
func crash(r int) api.Act             { return api.Act{Kind: api.Crash, R: r} }
func lead(r int) api.Act              { return api.Act{Kind: api.Lead, R: r} }
func deliver(k int) api.Act           { return api.Act{Kind: api.Deliver, K: k} }
func drop(k int) api.Act              { return api.Act{Kind: api.Drop, K: k} }
func copied(k int) api.Act            { return api.Act{Kind: api.Copy, K: k} }
func acts(l ...api.Act) []api.Act     { return l }
func op(kind int, name string) api.Op { return api.Op{Kind: kind, A: name} }

func setOp(name, value string, fence int) api.Op {
	return api.Op{Kind: api.Set, A: name, B: value, N: fence}
}

// entering of clients, one by one.
func entering(places ...int) []api.Act {
	var l []api.Act
	for _, c := range places {
		l = append(l, enter(c))
	}
	return l
}

// joins: the entries that make clients enter.
func joins(ids ...int) []string {
	var l []string
	for _, id := range ids {
		l = append(l, bytesOf(api.Command{Kind: api.Join, Client: id}))
	}
	return l
}

func bytesOf(c api.Command) string {
	s, e := command.Encode(c)
	if e != api.OK {
		panic(fmt.Sprint("no command: ", c, int(e)))
	}
	return s
}

// What can't be a place, whatever is there.
var outside = []int{-1, -2, -3, -1 << 32, math.MinInt, 1 << 32, 1<<32 + 1, math.MaxInt}

// run a script that is not refused.
func run(t *testing.T, clients int, l []api.Act) api.Outcome {
	t.Helper()
	o, e := cluster.Run(clients, l)
	if e != api.OK || len(o.Codes) != len(l) {
		t.Fatalf("Run of %d, %v = %s, %d", clients, l, show(o), e)
	}
	return o
}

// done: a script that no act is refused of.
func done(t *testing.T, clients int, lists ...[]api.Act) api.Outcome {
	t.Helper()
	l := slices.Concat(lists...)
	o := run(t, clients, l)
	for i, e := range o.Codes {
		if e != api.OK {
			t.Fatalf("act %d of %v is refused: %d", i, l, e)
		}
	}
	return o
}

// wantCode of an act behind others that no act is refused of. If it is refused, nothing is done.
func wantCode(t *testing.T, clients int, before []api.Act, a api.Act, want api.Errno) {
	t.Helper()
	was := done(t, clients, before)
	o := run(t, clients, append(slices.Clone(before), a))
	if got := o.Codes[len(before)]; got != want {
		t.Errorf("%v behind %v: %d; want %d", a, before, got, want)
	}
	o.Codes = was.Codes
	if want != api.OK && show(o) != show(was) {
		t.Errorf("%v behind %v is refused, but does something:\n%s of\n%s", a, before, show(o), show(was))
	}
}

// wantSame: an act behind others that is not refused, but changes nothing.
func wantSame(t *testing.T, clients int, before []api.Act, a api.Act) {
	t.Helper()
	was, o := done(t, clients, before), done(t, clients, before, acts(a))
	o.Codes = was.Codes
	if show(o) != show(was) {
		t.Errorf("%v behind %v does something:\n%s of\n%s", a, before, show(o), show(was))
	}
}

func wantList(t *testing.T, name string, got, want []string) {
	t.Helper()
	if !slices.Equal(got, want) {
		t.Errorf("%s: %q; want %q", name, got, want)
	}
}

func wantNumber(t *testing.T, name string, got, want int) {
	t.Helper()
	if got != want {
		t.Errorf("%s: %d; want %d", name, got, want)
	}
}

func wantMails(t *testing.T, name string, got []api.Mail, want ...api.Mail) {
	t.Helper()
	if !slices.Equal(got, want) {
		t.Errorf("%s: %v; want %v", name, got, want)
	}
}

func mail(client, seq int, code api.Errno, n int, text string) api.Mail {
	return api.Mail{Client: client, Seq: seq, Reply: api.Reply{Code: code, N: n, Text: text}}
}

// after entries, one by one: the state.
func after(entries []string) api.State {
	var s api.State
	for _, x := range entries {
		next, _, e := machine.Apply(s, x)
		if e != api.OK {
			panic(fmt.Sprintf("%q is refused: %d", x, e))
		}
		s = next
	}
	return s
}

// wantReplica: its log, and how much it has applied of what it should have.
func wantReplica(t *testing.T, name string, r api.Replica, base, applied int, entries, all []string) {
	t.Helper()
	want := api.Replica{Log: api.Log{Base: base, Entries: entries}, State: after(all[:applied])}
	if base > 0 {
		want.Snap, _ = snap.Encode(after(all[:base]))
	}
	if showReplica(r) != showReplica(want) {
		t.Errorf("%s: %s; want %s", name, showReplica(r), showReplica(want))
	}
}

// show an outcome, whether a list without elements is nil or not.
func show(o api.Outcome) string {
	var s strings.Builder
	for _, r := range o.Replicas {
		s.WriteString(showReplica(r) + "\n")
	}
	for _, c := range o.Customers {
		fmt.Fprintf(&s, "{%d %d %d", c.Id, c.Session, c.Next)
		for _, w := range c.Waits {
			fmt.Fprintf(&s, " %d:{%d %q %q %d}", w.Seq, w.Op.Kind, w.Op.A, w.Op.B, w.Op.N)
		}
		s.WriteString("}\n")
	}
	for _, m := range o.Mails {
		fmt.Fprintf(&s, "{%d %d %d %d %q}", m.Client, m.Seq, int(m.Reply.Code), m.Reply.N, m.Reply.Text)
	}
	fmt.Fprintf(&s, "\n%q %d", o.Committed, o.Leader)
	for _, e := range o.Codes {
		fmt.Fprintf(&s, " %d", int(e))
	}
	return s.String()
}

func showReplica(r api.Replica) string {
	return fmt.Sprintf("{%d %q %q %v}", r.Log.Base, r.Log.Entries, r.Snap, r.State)
}

// P11.1

func TestBegin(t *testing.T) {
	for clients := 1; clients <= api.MaxClient; clients++ {
		want := api.Outcome{Replicas: make([]api.Replica, 3)}
		for id := 1; id <= clients; id++ {
			want.Customers = append(want.Customers, api.Customer{Id: id, Next: 1})
		}
		for _, l := range [][]api.Act{nil, {}, make([]api.Act, 9)[:0]} {
			if o := run(t, clients, l); show(o) != show(want) {
				t.Errorf("%d clients: %s; want %s", clients, show(o), show(want))
			}
		}
	}
}

func wantRefused(t *testing.T, clients int, l []api.Act, want api.Errno) {
	t.Helper()
	o, e := cluster.Run(clients, l)
	if e != want || show(o) != show(api.Outcome{}) {
		t.Errorf("Run of %d clients, %d acts = %s, %d; want %d", clients, len(l), show(o), e, want)
	}
}

func TestHowManyClients(t *testing.T) {
	for _, n := range append([]int{0, api.MaxClient + 1}, outside...) {
		for _, many := range []int{0, 1, api.MaxActs, api.MaxActs + 1} {
			wantRefused(t, n, slices.Repeat(entering(0), many), api.ErrRange)
		}
	}
}

func TestHowManyActs(t *testing.T) {
	for _, n := range []int{1, 5, api.MaxClient} {
		for _, many := range []int{1, 2, api.MaxActs - 1, api.MaxActs} {
			o := done(t, n, slices.Repeat(entering(0), many))
			wantList(t, "the leader's entries", o.Replicas[0].Log.Entries, slices.Repeat(joins(1), many))
		}
		for _, many := range []int{api.MaxActs + 1, api.MaxActs + 2, 100000} {
			wantRefused(t, n, slices.Repeat(entering(0), many), api.ErrSize)
			wantRefused(t, n, make([]api.Act, many), api.ErrSize)
		}
	}
}

// story: acts of each kind, none of which is refused.
var story = slices.Concat(
	entering(0, 1), acts(ship(1, 9), apply(0, 9), deliver(0), deliver(0)),
	acts(start(0, op(api.Try, "a")), start(0, op(api.Who, "a")), send(0, 0), send(0, 1), ship(2, 1), ship(1, 9), apply(0, 9), copied(0), drop(1)),
	acts(compact(0), crash(0), ship(2, 9), ship(2, 9), lead(1), apply(1, 9)),
)

// TestNoSuchKind: that is told first, whoever should act; nothing is done.
func TestNoSuchKind(t *testing.T) {
	for many := range len(story) + 1 {
		for _, kind := range append([]int{0, api.Copy + 1, api.Copy + 2, 99}, outside...) {
			for _, a := range []api.Act{{}, {C: 9, R: 9, K: 99}, {C: -1, R: -1, K: -1}, {R: 1, K: 9, Op: op(api.Try, "a")}} {
				a.Kind = kind
				wantCode(t, 2, story[:many], a, api.ErrKind)
			}
		}
	}
}

// TestCodes: one for each act; what is refused in between changes nothing.
func TestCodes(t *testing.T) {
	refused := []struct {
		a api.Act
		e api.Errno
	}{
		{api.Act{}, api.ErrKind}, {enter(2), api.ErrNone}, {start(0, api.Op{}), api.ErrKind}, {send(0, 4), api.ErrNone},
		{ship(1, -1), api.ErrRange}, {apply(3, 1), api.ErrNone}, {lead(-1), api.ErrNone}, {drop(60), api.ErrNone},
	}
	var l []api.Act
	var want []api.Errno
	for i, a := range story {
		x := refused[i%len(refused)]
		if x.a.Kind == api.Start && (i < 4 || i > 13) { // its client must have a session
			x = refused[0]
		}
		l, want = append(l, x.a, a), append(want, x.e, api.OK)
	}
	got, plain := run(t, 2, l), done(t, 2, story)
	if !slices.Equal(got.Codes, want) {
		t.Errorf("the codes are %v; want %v", got.Codes, want)
	}
	got.Codes = plain.Codes
	if show(got) != show(plain) {
		t.Errorf("%s; want %s", show(got), show(plain))
	}
}

// TestOtherFields: an act is told by the fields of its kind alone.
func TestOtherFields(t *testing.T) {
	want := done(t, 2, story)
	for _, n := range append([]int{0, 1, 9}, outside...) {
		l := slices.Clone(story)
		for i, a := range l {
			switch a.Kind {
			case api.Enter:
				l[i].R, l[i].K = n, n
			case api.Start, api.Send:
				l[i].R = n
			case api.Ship, api.Apply:
				l[i].C = n
			case api.Compact, api.Crash, api.Lead:
				l[i].C, l[i].K = n, n
			default:
				l[i].C, l[i].R = n, n
			}
			if a.Kind == api.Start {
				l[i].K = n
			} else {
				l[i].Op = api.Op{Kind: n, A: "\xff", B: strings.Repeat("x", 99), N: n}
			}
		}
		if o := done(t, 2, l); show(o) != show(want) {
			t.Errorf("with %d in other fields: %s; want %s", n, show(o), show(want))
		}
	}
}

// TestTheExampleOfTheWhole: Try is asked twice, and done once.
func TestTheExampleOfTheWhole(t *testing.T) {
	try := bytesOf(api.Command{Kind: api.Call, Client: 1, Session: 1, Seq: 1, Op: op(api.Try, "a")})
	set := bytesOf(api.Command{Kind: api.Call, Client: 1, Session: 1, Seq: 2, Acked: 1, Op: setOp("a", "x", 1)})
	l := slices.Concat(
		acts(enter(0), ship(1, 9), apply(0, 9), deliver(0)),
		acts(start(0, op(api.Try, "a")), send(0, 0), send(0, 0), ship(1, 9), apply(0, 9)),
	)
	o := done(t, 1, l)
	wantList(t, "committed", o.Committed, append(joins(1), try, try))
	wantMails(t, "mails", o.Mails, mail(1, 1, api.OK, 1, ""), mail(1, 1, api.OK, 1, ""))
	if s := o.Replicas[0].State; len(s.Locks) != 1 || s.Locks[0].Fence != 1 || s.Locks[0].Holder != 1 {
		t.Errorf("the locks are %v", s.Locks)
	}
	l = append(l, deliver(1), drop(0), start(0, setOp("a", "x", 1)), send(0, 0), ship(2, 9), apply(0, 9), deliver(0))
	o = done(t, 1, l)
	wantList(t, "committed", o.Committed, append(joins(1), try, try, set))
	wantReplica(t, "the leader", o.Replicas[0], 0, 4, o.Committed, o.Committed)
	if s := o.Replicas[0].State; !slices.Equal(s.Pairs, []api.Pair{{Name: "a", Value: "x", Version: 1}}) || len(o.Customers[0].Waits) > 0 {
		t.Errorf("the pairs are %v, the client is %v", s.Pairs, o.Customers[0])
	}
}
