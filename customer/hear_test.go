package customer_test

import (
	"fmt"
	"math"
	"slices"
	"testing"

	"tackroom/api"
	"tackroom/customer"
)

// P10.5

func mail(client, seq int, code api.Errno, n int) api.Mail {
	return api.Mail{Client: client, Seq: seq, Reply: api.Reply{Code: code, N: n}}
}

func wantHeard(t *testing.T, c api.Customer, m api.Mail, after api.Customer) {
	t.Helper()
	got, e := customer.Hear(c, m)
	want(t, fmt.Sprintf("Hear of %s, %v", show(c), m), got, e, after, api.OK)
	wantCheck(t, got, api.OK)
}

func wantNotHeard(t *testing.T, c api.Customer, m api.Mail, errno api.Errno) {
	t.Helper()
	got, e := customer.Hear(c, m)
	want(t, fmt.Sprintf("Hear of %.300s, %v", show(c), m), got, e, api.Customer{}, errno)
}

// codes that a reply may have: each error number, and such as are none.
func codes() []api.Errno {
	l := []api.Errno{-1, api.ErrSum + 1, 1 << 32, math.MinInt, math.MaxInt}
	for e := api.OK; e <= api.ErrSum; e++ {
		l = append(l, e)
	}
	return l
}

// TestHearAnothersMail: that is told ahead of all else.
func TestHearAnothersMail(t *testing.T) {
	for _, c := range mayBe() {
		for _, client := range append([]int{c.Id - 1, c.Id + 1, -c.Id, c.Id + 1<<32}, noClients...) {
			for _, seq := range []int{0, 1, -1, c.Next - 1, c.Next, math.MaxInt} {
				wantNotHeard(t, c, mail(client, seq, api.OK, 1), api.ErrNone)
				wantNotHeard(t, c, mail(client, seq, api.OK, 0), api.ErrNone)
				wantNotHeard(t, c, mail(client, seq, api.ErrAway, 0), api.ErrNone)
			}
			for _, w := range c.Waits {
				wantNotHeard(t, c, mail(client, w.Seq, api.OK, 1), api.ErrNone)
			}
		}
	}
}

// TestHearJoin: a Session, with the Codes OK and ErrTwice alone.
func TestHearJoin(t *testing.T) {
	for _, next := range []int{1, 2, 50, api.MaxSeq, api.MaxSeq + 1} {
		c := of(3, 0, next)
		for _, n := range []int{1, 2, 300, api.MaxIndex - 1, api.MaxIndex} {
			wantHeard(t, c, mail(3, 0, api.OK, n), of(3, n, next))
			wantHeard(t, c, mail(3, 0, api.ErrTwice, n), of(3, n, next))
		}
		for _, n := range append([]int{0}, noSessions...) {
			wantNotHeard(t, c, mail(3, 0, api.OK, n), api.ErrRange)
			wantNotHeard(t, c, mail(3, 0, api.ErrTwice, n), api.ErrRange)
		}
		for _, code := range codes() {
			if code != api.OK && code != api.ErrTwice {
				for _, n := range append([]int{0, 1, 300}, noSessions...) {
					wantHeard(t, c, mail(3, 0, code, n), c)
				}
			}
		}
	}
}

// TestHearJoinText: a Text tells nothing, with a Join or a call.
func TestHearJoinText(t *testing.T) {
	wantHeard(t, of(3, 0, 5), api.Mail{Client: 3, Reply: api.Reply{N: 8, Text: "x"}}, of(3, 8, 5))
	wantHeard(t, of(3, 2, 5, at(4)...), api.Mail{Client: 3, Seq: 4, Reply: api.Reply{N: 8, Text: "x"}}, of(3, 2, 5))
}

// TestHearJoinOld: with a Session no Join is heard any more, whatever was replied to it.
func TestHearJoinOld(t *testing.T) {
	for _, c := range mayBe() {
		for _, code := range codes() {
			for _, n := range []int{0, 1, c.Session, c.Session + 1, -1, math.MaxInt} {
				if c.Session > 0 {
					wantNotHeard(t, c, mail(c.Id, 0, code, n), api.ErrOld)
				}
			}
		}
	}
}

// TestHearCall: what waits does not any more, whatever N is; all else stays.
func TestHearCall(t *testing.T) {
	for _, c := range mayBe() {
		for k, w := range c.Waits {
			after := c
			after.Waits = slices.Delete(slices.Clone(c.Waits), k, k+1)
			for _, code := range codes() {
				if code == api.ErrAway {
					continue
				}
				for _, n := range []int{0, 1, -1, math.MinInt, math.MaxInt} {
					wantHeard(t, c, mail(c.Id, w.Seq, code, n), after)
				}
			}
		}
	}
}

// TestHearCallAway: whichever it was that waited, nothing waits any more; Next stays, so that no Seq is there twice.
func TestHearCallAway(t *testing.T) {
	for _, c := range mayBe() {
		for _, w := range c.Waits {
			for _, n := range []int{0, 1, -1, math.MaxInt} {
				wantHeard(t, c, mail(c.Id, w.Seq, api.ErrAway, n), of(c.Id, 0, c.Next))
			}
		}
	}
}

// TestHearCallOld: ErrAway, too, tells nothing of a call that does not wait.
func TestHearCallOld(t *testing.T) {
	for _, c := range mayBe() {
		seqs := []int{-1, -2, c.Next, c.Next + 1, api.MaxSeq + 2, 1 << 32, -1 << 32, math.MinInt, math.MaxInt}
		for seq := max(1, c.Next-9); seq < c.Next; seq++ {
			seqs = append(seqs, seq)
		}
		for _, w := range c.Waits {
			seqs = append(seqs, -w.Seq, w.Seq+1<<32)
		}
		for _, seq := range seqs {
			if slices.ContainsFunc(c.Waits, func(w api.Wait) bool { return w.Seq == seq }) {
				continue
			}
			for _, code := range codes() {
				wantNotHeard(t, c, mail(c.Id, seq, code, 1), api.ErrOld)
			}
		}
	}
}

// TestHearTwice: the second time it is old.
func TestHearTwice(t *testing.T) {
	c := of(3, 2, 8, at(5, 6, 7)...)
	c, _ = customer.Hear(c, mail(3, 6, api.OK, 1))
	wantNotHeard(t, c, mail(3, 6, api.OK, 1), api.ErrOld)
	c, _ = customer.Hear(c, mail(3, 5, api.ErrAway, 0))
	wantNotHeard(t, c, mail(3, 7, api.ErrAway, 0), api.ErrOld)
	wantNotStarted(t, c, goodOps[0], api.ErrAway)
	c, _ = customer.Hear(c, mail(3, 0, api.OK, 9))
	wantNotHeard(t, c, mail(3, 0, api.OK, 9), api.ErrOld)
	wantStarted(t, c, goodOps[0])
}
