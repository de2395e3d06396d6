package cluster_test

import (
	"fmt"
	"math"
	"slices"
	"strings"
	"testing"

	"tackroom/api"
)

// P11.3

// joined: the clients at some places have sessions.
func joined(places ...int) []api.Act {
	l := append(entering(places...), ship(1, 99), apply(0, 99))
	return append(l, slices.Repeat(acts(deliver(0)), len(places))...)
}

func call(client, session, seq, acked int, o api.Op) string {
	return bytesOf(api.Command{Kind: api.Call, Client: client, Session: session, Seq: seq, Acked: acked, Op: o})
}

func TestEnter(t *testing.T) {
	for clients := 1; clients <= api.MaxClient; clients++ {
		for c := range clients {
			o := done(t, clients, entering(c))
			wantList(t, "the leader's entries", o.Replicas[0].Log.Entries, joins(c+1))
			o.Replicas[0].Log.Entries, o.Codes = nil, nil
			if want := done(t, clients); show(o) != show(want) {
				t.Errorf("%d of %d enters: %s; want %s", c, clients, show(o), show(want))
			}
		}
	}
}

// TestEnterAgain: as often as it likes, with a session, too.
func TestEnterAgain(t *testing.T) {
	o := done(t, 3, entering(1, 1, 2, 1))
	wantList(t, "the leader's entries", o.Replicas[0].Log.Entries, joins(2, 2, 3, 2))
	o = done(t, 3, joined(1), entering(1, 0))
	wantList(t, "the leader's entries", o.Replicas[0].Log.Entries, joins(2, 2, 1))
	wantNumber(t, "the session", o.Customers[1].Session, 1)
}

// TestEnterBehindAll: behind what is not committed, cut off or applied; it is told the leader alone, whoever that is.
func TestEnterBehindAll(t *testing.T) {
	wantEntries(t, with(apart, enter(8)), 1, joins(1, 4, 3, 5, 9), nil)
	wantEntries(t, with(apart, enter(8)), 0, joins(1, 2, 3), nil)
	wantEntries(t, with(apart, enter(8)), 2, nil, nil)
	wantEntries(t, with(cut, enter(8)), 0, joins(4, 5, 9), joins(1, 2, 3))
	wantEntries(t, with(cut, apply(1, 2), compact(1), lead(1), enter(8)), 1, joins(3, 9), joins(1, 2, 3))
	wantEntries(t, with(cut, ship(1, 9), apply(0, 9), compact(0), enter(8)), 0, joins(9), joins(1, 2, 3, 4, 5))
}

func TestStart(t *testing.T) {
	ops := []api.Op{
		op(api.Try, "a"), op(api.Line, "zzzzzz"), op(api.Free, "b"), op(api.Who, "ab"), op(api.Get, "a"),
		setOp("a", "", 1), setOp("a", strings.Repeat("\xff", api.MaxValue), api.MaxFence),
	}
	for _, x := range ops {
		for c := range 3 {
			l := joined(0, 1, 2)
			was, o := done(t, 3, l), done(t, 3, l, acts(start(c, x)))
			want := was.Customers[c]
			want.Next, want.Waits = 2, []api.Wait{{Seq: 1, Op: x}}
			was.Customers[c], was.Codes = want, o.Codes
			if show(o) != show(was) {
				t.Errorf("%v of %d: %s; want %s", x, c, show(o), show(was))
			}
		}
	}
}

// TestStartIsRefused: what Start of a client refuses.
func TestStartIsRefused(t *testing.T) {
	try := op(api.Try, "a")
	wantCode(t, 2, nil, start(0, try), api.ErrAway)
	wantCode(t, 2, joined(0), start(1, try), api.ErrAway)
	wantCode(t, 2, joined(0), start(0, api.Op{}), api.ErrKind)
	wantCode(t, 2, nil, start(0, api.Op{}), api.ErrAway)
	wantCode(t, 2, joined(0), start(0, op(api.Try, "A")), api.ErrForm)
	wantCode(t, 2, joined(0), start(0, setOp("a", strings.Repeat("x", api.MaxValue+1), 1)), api.ErrSize)
	wantCode(t, 2, joined(0), start(0, setOp("a", "x", 0)), api.ErrRange)
	l := with(joined(0), start(0, try), start(0, try), start(0, try))
	wantCode(t, 2, l, start(0, try), api.OK)
	wantCode(t, 2, with(l, start(0, try)), start(0, try), api.ErrFull)
	wantCode(t, 2, with(l, start(0, try)), start(0, api.Op{}), api.ErrKind)
}

// TestSend: each of those that wait, as often as it likes, in whatever order.
func TestSend(t *testing.T) {
	ops := []api.Op{op(api.Try, "a"), op(api.Who, "b"), setOp("c", "x", 5), op(api.Get, "d")}
	l := joined(2, 0)
	for _, x := range ops {
		l = with(l, start(0, x))
	}
	var requests []string
	for i, x := range ops {
		requests = append(requests, call(1, 2, i+1, 0, x))
	}
	for k, want := range requests {
		wantEntries(t, with(l, send(0, k)), 0, append(joins(3, 1), want), joins(3, 1))
	}
	o := done(t, 3, with(l, send(0, 3), send(0, 0), send(0, 3), enter(1), send(0, 1)))
	wantList(t, "the leader's entries", o.Replicas[0].Log.Entries, append(joins(3, 1), requests[3], requests[0], requests[3], joins(2)[0], requests[1]))
	wantNumber(t, "what waits", len(o.Customers[0].Waits), 4)
}

// TestSendWhatIsKnown: by their places those are told that still wait, with what the client knows.
func TestSendWhatIsKnown(t *testing.T) {
	ops := []api.Op{op(api.Try, "a"), op(api.Who, "b"), op(api.Get, "d")}
	l := joined(0)
	for i, x := range ops {
		l = with(l, start(0, x), send(0, i))
	}
	l = with(l, ship(2, 9), apply(0, 9))
	all := done(t, 1, l).Committed
	wantEntries(t, with(l, deliver(0), send(0, 1)), 0, append(all, call(1, 1, 3, 1, ops[2])), all)
	wantEntries(t, with(l, deliver(0), deliver(0), send(0, 0)), 0, append(all, call(1, 1, 3, 2, ops[2])), all)
	wantEntries(t, with(l, deliver(1), send(0, 1)), 0, append(all, call(1, 1, 3, 0, ops[2])), all)
	wantEntries(t, with(l, deliver(1), send(0, 0)), 0, append(all, call(1, 1, 1, 0, ops[0])), all)
}

// TestSendToTheLeader: whoever that is.
func TestSendToTheLeader(t *testing.T) {
	try := op(api.Try, "a")
	l := with(joined(0), start(0, try), lead(1), send(0, 0))
	wantEntries(t, l, 1, append(joins(1), call(1, 1, 1, 0, try)), joins(1))
	wantEntries(t, l, 0, joins(1), joins(1))
	wantEntries(t, l, 2, nil, joins(1))
}

func TestSendOfNothing(t *testing.T) {
	try := op(api.Try, "a")
	l := with(joined(0), start(0, try), start(0, try))
	for _, k := range append([]int{2, 3, 4, math.MaxInt - 1}, outside...) {
		wantCode(t, 2, l, send(0, k), api.ErrNone)
		wantCode(t, 2, l, send(1, k), api.ErrNone)
		wantCode(t, 2, nil, send(0, k), api.ErrNone)
	}
	wantCode(t, 2, nil, send(0, 0), api.ErrNone)
	wantCode(t, 2, joined(0), send(0, 0), api.ErrNone)
	wantCode(t, 2, with(l, send(0, 1), ship(1, 9), apply(0, 9), deliver(0)), send(0, 1), api.ErrNone)
}

// TestNoSuchClient: that is told ahead of what else is wrong.
func TestNoSuchClient(t *testing.T) {
	for clients := 1; clients <= api.MaxClient; clients++ {
		for _, l := range [][]api.Act{nil, with(joined(0), start(0, op(api.Try, "a")))} {
			for _, c := range append([]int{clients, clients + 1, api.MaxClient, api.MaxClient + 1}, outside...) {
				wantCode(t, clients, l, enter(c), api.ErrNone)
				for _, o := range []api.Op{op(api.Try, "a"), {}} {
					wantCode(t, clients, l, start(c, o), api.ErrNone)
				}
				for _, k := range []int{0, 1, -1, math.MaxInt} {
					wantCode(t, clients, l, send(c, k), api.ErrNone)
				}
			}
		}
	}
}

// TestSessionsOfManyClients: each has one of its own.
func TestSessionsOfManyClients(t *testing.T) {
	o := done(t, 9, joined(8, 3, 0, 5))
	var got []string
	for _, c := range o.Customers {
		got = append(got, fmt.Sprint(c.Id, ":", c.Session))
	}
	wantList(t, "sessions", got, strings.Fields("1:3 2:0 3:0 4:2 5:0 6:4 7:0 8:0 9:1"))
}
