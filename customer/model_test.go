package customer_test

import (
	"fmt"
	"slices"
	"testing"

	"tackroom/api"
	"tackroom/command"
	"tackroom/customer"
	"tackroom/machine"
)

// All of it, with drawn calls, against a model: operations by their Seqs, as long as they wait.

type model struct {
	id, session, next int
	waits             map[int]api.Op
}

func (m *model) customer() api.Customer {
	c := of(m.id, m.session, m.next)
	for seq := range m.next {
		if o, there := m.waits[seq]; there {
			c.Waits = append(c.Waits, api.Wait{Seq: seq, Op: o})
		}
	}
	return c
}

// unknown: the first Seq that there was no reply to.
func (m *model) unknown() int {
	for seq := 1; seq < m.next; seq++ {
		if _, there := m.waits[seq]; there {
			return seq
		}
	}
	return m.next
}

func (m *model) start(o api.Op, wrong api.Errno) api.Errno {
	switch {
	case m.session == 0:
		return api.ErrAway
	case wrong != api.OK:
		return wrong
	case m.next >= m.unknown()+api.Window:
		return api.ErrFull
	}
	m.waits[m.next] = o
	m.next++
	return api.OK
}

func (m *model) hear(x api.Mail) api.Errno {
	_, there := m.waits[x.Seq]
	switch {
	case x.Client != m.id:
		return api.ErrNone
	case x.Seq == 0:
		return m.hearJoin(x.Reply)
	case !there:
		return api.ErrOld
	}
	delete(m.waits, x.Seq)
	if x.Reply.Code == api.ErrAway {
		m.session = 0
		clear(m.waits)
	}
	return api.OK
}

func (m *model) hearJoin(r api.Reply) api.Errno {
	switch {
	case m.session > 0:
		return api.ErrOld
	case r.Code != api.OK && r.Code != api.ErrTwice:
		return api.OK
	case r.N == 0:
		return api.ErrRange
	}
	m.session = r.N
	return api.OK
}

// mail that looks drawn: often of what waits.
func (d *die) mail(m *model) api.Mail {
	x := api.Mail{Client: m.id, Seq: max(0, m.next-d.roll(8)), Reply: api.Reply{N: d.roll(9), Text: "x"}}
	x.Reply.Code = []api.Errno{api.OK, api.OK, api.OK, api.ErrHeld, api.ErrTwice, api.ErrFull, api.ErrAway}[d.roll(7)]
	if d.roll(4) == 0 || m.session == 0 && d.roll(3) > 0 {
		x.Seq = 0
	}
	if d.roll(12) == 0 {
		x.Client = 1 + d.roll(9)
	}
	return x
}

// draw a call, and what it answers; the model's answer beside it.
func draw(d *die, m *model, c api.Customer) (what string, got api.Customer, e, want api.Errno) {
	if d.roll(2) == 0 {
		x := d.mail(m)
		what, want = "Hear", m.hear(x)
		got, e = customer.Hear(c, x)
		return what, got, e, want
	}
	o, wrong := goodOps[d.roll(len(goodOps))], api.OK
	if d.roll(6) == 0 {
		bad := badOps[d.roll(len(badOps))]
		o, wrong = bad.o, bad.e
	}
	what, want = "Start", m.start(o, wrong)
	got, e = customer.Start(c, o)
	return what, got, e, want
}

func TestDrawnCalls(t *testing.T) {
	d := die(100)
	seen := map[string]int{}
	for range 500 {
		m := &model{id: 1 + d.roll(api.MaxClient), next: 1, waits: map[int]api.Op{}}
		c, _ := customer.New(m.id)
		for range 60 {
			what, got, e, errno := draw(&d, m, c)
			after := m.customer()
			want(t, what+" of "+show(c), got, e, after, errno)
			if errno == api.OK {
				c = got
			}
			wantCheck(t, c, api.OK)
			wantRequests(t, after, m.unknown()-1)
			seen[fmt.Sprint(what, " ", int(errno))]++
		}
	}
	// The draw is worth something only if all came up.
	for _, x := range []string{"Start 0", "Start 3", "Start 4", "Start 8", "Start 11", "Hear 0", "Hear 2", "Hear 6", "Hear 12"} {
		if seen[x] < 50 {
			t.Errorf("%s came %d times: %v", x, seen[x], seen)
		}
	}
}

// TestAskTillAnswered: a client and a machine; what is asked may come never or again, and so may what is replied. Each
// call is done once, and none is refused.
func TestAskTillAnswered(t *testing.T) {
	d := die(101)
	for range 100 {
		c, s := joined(t, 3)
		c, _ = customer.Start(c, op(api.Try, "a"))
		c, s = settle(t, c, s)
		sets := 0
		var mails []api.Mail
		for range 200 {
			switch d.roll(4) {
			case 0:
				next, e := customer.Start(c, setOp("a", "x", 1))
				if e == api.OK {
					c = next
					sets++
				}
			case 1, 2:
				if entry, e := customer.Request(c, d.roll(api.Window)); e == api.OK {
					var m api.Mail
					s, m = ask(t, s, entry)
					mails = append(mails, m)
				}
			case 3:
				if len(mails) > 0 {
					if next, e := customer.Hear(c, mails[d.roll(len(mails))]); e == api.OK {
						c = next
					}
				}
			}
		}
		c, s = settle(t, c, s)
		if len(c.Waits) > 0 || c.Session != 1 || sets < api.Window || !slices.Equal(s.Pairs, []api.Pair{{Name: "a", Value: "x", Version: sets}}) {
			t.Fatalf("%d calls: %s, %v", sets, show(c), s.Pairs)
		}
	}
}

// joined: a client that said hello to a machine, and heard of it.
func joined(t *testing.T, id int) (api.Customer, api.State) {
	t.Helper()
	c, _ := customer.New(id)
	entry, _ := customer.Hello(c)
	s, m := ask(t, api.State{}, entry)
	c, e := customer.Hear(c, m)
	if e != api.OK {
		t.Fatalf("%v is refused: %d", m, e)
	}
	return c, s
}

// ask a machine: the mail that tells its reply.
func ask(t *testing.T, s api.State, entry string) (api.State, api.Mail) {
	t.Helper()
	c, _ := command.Decode(entry)
	after, reply, e := machine.Apply(s, entry)
	if e != api.OK || reply.Code != api.OK {
		t.Fatalf("%q is answered %v, %d", entry, reply, e)
	}
	return after, api.Mail{Client: c.Client, Seq: c.Seq, Reply: reply}
}

// settle: all that waits is asked, and answered.
func settle(t *testing.T, c api.Customer, s api.State) (api.Customer, api.State) {
	t.Helper()
	for range api.Window + 1 {
		entry, e := customer.Request(c, 0)
		if e != api.OK {
			break
		}
		var m api.Mail
		s, m = ask(t, s, entry)
		if c, e = customer.Hear(c, m); e != api.OK {
			t.Fatalf("%v is refused: %d", m, e)
		}
	}
	return c, s
}
