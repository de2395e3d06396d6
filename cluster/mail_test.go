package cluster_test

import (
	"math"
	"slices"
	"testing"

	"tackroom/api"
)

// P11.7

// flying: mails to the clients 1, 2 and 3 are on their way, of their Joins.
var flying = with(entering(0, 1, 2), ship(1, 9), apply(0, 9))

func TestDeliver(t *testing.T) {
	all := sessionMails(1, 2, 3)
	for k := range all {
		was, o := done(t, 9, flying), done(t, 9, flying, acts(deliver(k)))
		wantMails(t, "mails", o.Mails, slices.Delete(slices.Clone(all), k, k+1)...)
		for i, c := range o.Customers {
			if i == k {
				wantNumber(t, "the session", c.Session, k+1)
			} else {
				wantNumber(t, "no session", c.Session, 0)
			}
		}
		o.Mails, o.Customers, o.Codes = was.Mails, was.Customers, was.Codes
		if show(o) != show(was) {
			t.Errorf("Deliver of %d does more: %s of %s", k, show(o), show(was))
		}
	}
}

// TestDeliverOneByOne: in whatever order.
func TestDeliverOneByOne(t *testing.T) {
	for a := range 3 {
		for b := range 2 {
			o := done(t, 9, flying, acts(deliver(a), deliver(b), deliver(0)))
			wantMails(t, "mails", o.Mails)
			for k := range 3 {
				wantNumber(t, "the session", o.Customers[k].Session, k+1)
			}
		}
	}
}

// TestDeliverOfACall: it waits no more; what else waits stays.
func TestDeliverOfACall(t *testing.T) {
	get := op(api.Get, "a")
	l := with(joined(0, 1), start(1, get), start(1, get), start(0, get), send(1, 0), send(0, 0), send(1, 1), ship(1, 9), apply(0, 9))
	for k, want := range []struct{ first, second int }{{1, 1}, {0, 2}, {1, 1}} {
		o := done(t, 9, l, acts(deliver(k)))
		wantNumber(t, "calls of 1 that wait", len(o.Customers[0].Waits), want.first)
		wantNumber(t, "calls of 2 that wait", len(o.Customers[1].Waits), want.second)
		wantNumber(t, "mails", len(o.Mails), 2)
	}
	o := done(t, 9, l, acts(deliver(2)))
	if w := o.Customers[1].Waits; len(w) != 1 || w[0].Seq != 1 {
		t.Errorf("%v waits", w)
	}
}

// wantGone: a mail that its client refuses is gone, too; nothing else changes.
func wantGone(t *testing.T, before []api.Act, k int, want api.Errno) {
	t.Helper()
	was, o := done(t, 9, before), run(t, 9, with(before, deliver(k)))
	was.Mails, was.Codes = slices.Delete(was.Mails, k, k+1), append(was.Codes, want)
	if show(o) != show(was) {
		t.Errorf("Deliver of %d behind %v: %s; want %s", k, before, show(o), show(was))
	}
}

func TestDeliverOfWhatIsRefused(t *testing.T) {
	for k := range 3 {
		l := with(flying, copied(k), copied(k), copied(k), deliver(k))
		for again := 2; again <= 4; again++ {
			wantGone(t, l, again, api.ErrOld)
		}
	}
	try := op(api.Try, "a")
	l := with(joined(0), start(0, try), send(0, 0), send(0, 0), ship(1, 9), apply(0, 9), deliver(0))
	wantGone(t, l, 0, api.ErrOld)
	wantGone(t, with(l, enter(0), ship(1, 9), apply(0, 9)), 1, api.ErrOld)
	wantGone(t, with(l, start(0, try)), 0, api.ErrOld)
	// It goes on behind that.
	o := run(t, 9, with(l, deliver(0), start(0, try), send(0, 0)))
	if want := append(slices.Repeat([]api.Errno{api.OK}, len(l)), api.ErrOld, api.OK, api.OK); !slices.Equal(o.Codes, want) {
		t.Errorf("the codes are %v; want %v", o.Codes, want)
	}
}

// TestDeliverWithoutASession: five ask for one, four may have it; who is told ErrAway has none any more.
func TestDeliverWithoutASession(t *testing.T) {
	o := done(t, 9, joined(0, 1, 2, 3, 4))
	wantNumber(t, "the session", o.Customers[3].Session, 4)
	wantNumber(t, "no session", o.Customers[4].Session, 0)
	get := op(api.Get, "a")
	l := with(joined(0), start(0, get), start(0, get))
	l = slices.Concat(l, slices.Repeat(entering(1), api.MaxIdle), acts(send(0, 1), ship(1, 99), apply(0, 99)))
	o = done(t, 9, l, acts(deliver(api.MaxIdle)))
	if c := o.Customers[0]; c.Session != 0 || len(c.Waits) != 0 || c.Next != 3 {
		t.Errorf("without a session the client is %v", c)
	}
	wantCode(t, 9, with(l, deliver(api.MaxIdle)), start(0, get), api.ErrAway)
	o = done(t, 9, l, acts(deliver(api.MaxIdle)), slices.Repeat(acts(drop(0)), api.MaxIdle), joined(0), acts(start(0, get)))
	if c := o.Customers[0]; c.Session != api.MaxIdle+3 || len(c.Waits) != 1 || c.Waits[0].Seq != 3 {
		t.Errorf("with a new session the client is %v", c)
	}
}

func TestDrop(t *testing.T) {
	all := sessionMails(1, 2, 3)
	for k := range all {
		was, o := done(t, 9, flying), done(t, 9, flying, acts(drop(k)))
		wantMails(t, "mails", o.Mails, slices.Delete(slices.Clone(all), k, k+1)...)
		o.Mails, o.Codes = was.Mails, was.Codes
		if show(o) != show(was) {
			t.Errorf("Drop of %d does more: %s of %s", k, show(o), show(was))
		}
	}
	wantMails(t, "mails", done(t, 9, flying, acts(drop(2), drop(0), drop(0))).Mails)
}

func TestCopy(t *testing.T) {
	all := sessionMails(1, 2, 3)
	for k := range all {
		was, o := done(t, 9, flying), done(t, 9, flying, acts(copied(k)))
		wantMails(t, "mails", o.Mails, append(slices.Clone(all), all[k])...)
		o.Mails, o.Codes = was.Mails, was.Codes
		if show(o) != show(was) {
			t.Errorf("Copy of %d does more: %s of %s", k, show(o), show(was))
		}
	}
	wantMails(t, "mails", done(t, 9, flying, acts(copied(1), copied(3), drop(1), copied(0))).Mails, all[0], all[2], all[1], all[1], all[0])
}

// TestCopyOfTexts: the reply stays what it is.
func TestCopyOfTexts(t *testing.T) {
	l := with(joined(0), start(0, op(api.Try, "a")), start(0, setOp("a", "text", 1)), start(0, op(api.Get, "a")),
		send(0, 0), send(0, 1), send(0, 2), ship(1, 9), apply(0, 9), copied(2))
	want := mail(1, 3, api.OK, 1, "text")
	wantMails(t, "mails", done(t, 9, l).Mails[2:], want, want)
}

func TestCopyFull(t *testing.T) {
	l := with(flying, slices.Repeat(acts(copied(1)), 56)...)
	wantNumber(t, "mails", len(done(t, 9, l).Mails), 59)
	wantCode(t, 9, l, copied(58), api.OK)
	full := with(l, copied(58))
	wantNumber(t, "mails", len(done(t, 9, full).Mails), api.MaxFlying)
	for _, k := range []int{0, 1, 30, 59} {
		wantCode(t, 9, full, copied(k), api.ErrFull)
		wantCode(t, 9, with(full, drop(k)), copied(0), api.OK)
		wantCode(t, 9, with(full, drop(k), copied(0)), copied(0), api.ErrFull)
	}
	for _, k := range []int{60, 61, -1} {
		wantCode(t, 9, full, copied(k), api.ErrNone)
	}
	wantCode(t, 9, with(full, deliver(0)), copied(0), api.OK)
}

func TestNoSuchMail(t *testing.T) {
	for _, x := range []struct {
		l    []api.Act
		many int
	}{{nil, 0}, {entering(0, 1), 0}, {flying, 3}, {with(flying, drop(0)), 2}, {with(flying, copied(0)), 4}, {with(flying, deliver(0), deliver(0), deliver(0)), 0}} {
		for _, k := range append([]int{x.many, x.many + 1, api.MaxFlying, math.MaxInt - 1}, outside...) {
			wantCode(t, 9, x.l, deliver(k), api.ErrNone)
			wantCode(t, 9, x.l, drop(k), api.ErrNone)
			wantCode(t, 9, x.l, copied(k), api.ErrNone)
		}
	}
}
