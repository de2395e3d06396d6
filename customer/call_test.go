package customer_test

import (
	"fmt"
	"math"
	"slices"
	"testing"

	"tackroom/api"
	"tackroom/command"
	"tackroom/customer"
)

// P10.2 and P10.3

func wantStarted(t *testing.T, c api.Customer, o api.Op) {
	t.Helper()
	after := c
	after.Waits = append(slices.Clone(c.Waits), api.Wait{Seq: c.Next, Op: o})
	after.Next++
	got, e := customer.Start(c, o)
	want(t, fmt.Sprintf("Start of %.300s, %.100s", show(c), showOp(o)), got, e, after, api.OK)
	wantCheck(t, got, api.OK)
}

func wantNotStarted(t *testing.T, c api.Customer, o api.Op, errno api.Errno) {
	t.Helper()
	got, e := customer.Start(c, o)
	want(t, fmt.Sprintf("Start of %.300s, %.100s", show(c), showOp(o)), got, e, api.Customer{}, errno)
}

func TestStart(t *testing.T) {
	for _, o := range goodOps {
		wantStarted(t, of(3, 2, 1), o)
		wantStarted(t, of(9, api.MaxIndex, 77), o)
		wantStarted(t, of(1, 1, 6, at(4, 5)...), o)
	}
}

// TestStartTillTheWindowIsFull: as many as Window wait, the next one does not.
func TestStartTillTheWindowIsFull(t *testing.T) {
	for _, next := range []int{1, 2, 100, api.MaxSeq - 3} {
		c := of(3, 2, next)
		for i := range api.Window {
			o := goodOps[i]
			wantStarted(t, c, o)
			c, _ = customer.Start(c, o)
		}
		wantNotStarted(t, c, goodOps[0], api.ErrFull)
	}
}

// TestStartAboveWhatIsKnown: how many wait tells nothing, how far the first one is behind all does.
func TestStartAboveWhatIsKnown(t *testing.T) {
	for _, seqs := range [][]int{{6}, {6, 7}, {6, 8}, {6, 9}, {6, 7, 9}, {6, 7, 8, 9}} {
		for next := seqs[len(seqs)-1] + 1; next <= 12; next++ {
			c := of(3, 2, next, at(seqs...)...)
			wantCheck(t, c, api.OK)
			if next <= 5+api.Window {
				wantStarted(t, c, goodOps[1])
			} else {
				wantNotStarted(t, c, goodOps[1], api.ErrFull)
			}
		}
	}
	wantStarted(t, of(3, 2, 4, at(1)...), goodOps[0])
	wantNotStarted(t, of(3, 2, 5, at(1)...), goodOps[0], api.ErrFull)
	wantNotStarted(t, of(3, 2, api.MaxSeq, at(1)...), goodOps[0], api.ErrFull)
	wantNotStarted(t, of(3, 2, api.MaxSeq, at(api.MaxSeq-4)...), goodOps[0], api.ErrFull)
	wantStarted(t, of(3, 2, api.MaxSeq, at(api.MaxSeq-3)...), goodOps[0])
}

// TestStartWhenNothingWaits: then all is known, however high Next is.
func TestStartWhenNothingWaits(t *testing.T) {
	for _, next := range []int{1, 2, 4, 5, 6, 1000, api.MaxSeq - 1, api.MaxSeq} {
		wantStarted(t, of(3, 2, next), goodOps[0])
	}
}

func TestStartAtMaxSeq(t *testing.T) {
	const top = api.MaxSeq + 1
	wantNotStarted(t, of(3, 2, top), goodOps[0], api.ErrFull)
	wantNotStarted(t, of(3, 2, top, at(api.MaxSeq)...), goodOps[0], api.ErrFull)
	wantNotStarted(t, of(3, 2, top, at(api.MaxSeq-3)...), goodOps[0], api.ErrFull)
}

func TestStartAway(t *testing.T) {
	for _, next := range []int{1, 5, api.MaxSeq, api.MaxSeq + 1} {
		for _, o := range goodOps {
			wantNotStarted(t, of(3, 0, next), o, api.ErrAway)
		}
		for _, x := range badOps {
			wantNotStarted(t, of(3, 0, next), x.o, api.ErrAway)
		}
	}
}

func TestStartRefusesWhatCheckOpRefuses(t *testing.T) {
	for _, c := range mayBe() {
		for _, x := range badOps {
			if c.Session > 0 { // also of those that are full
				wantNotStarted(t, c, x.o, x.e)
			}
		}
	}
}

// P10.4

func wantNotHello(t *testing.T, c api.Customer, want api.Errno) {
	t.Helper()
	if s, e := customer.Hello(c); s != "" || e != want {
		t.Errorf("Hello of %.300s = %q, %d; want nothing but %d", show(c), s, e, want)
	}
}

// TestHello: with a Session or without one.
func TestHello(t *testing.T) {
	for _, c := range mayBe() {
		if s, e := customer.Hello(c); s != "\x01"+string(rune(c.Id)) || e != api.OK {
			t.Errorf("Hello of %s = %q, %d", show(c), s, e)
		}
	}
}

func wantRequest(t *testing.T, c api.Customer, k int, want string) {
	t.Helper()
	if s, e := customer.Request(c, k); s != want || e != api.OK {
		t.Errorf("Request of %s, %d = %q, %d; want %q", show(c), k, s, e, want)
	}
}

func wantNoRequest(t *testing.T, c api.Customer, k int, want api.Errno) {
	t.Helper()
	if s, e := customer.Request(c, k); s != "" || e != want {
		t.Errorf("Request of %.300s, %d = %q, %d; want nothing but %d", show(c), k, s, e, want)
	}
}

func TestRequestBytes(t *testing.T) {
	a, set := op(api.Try, "a"), setOp("ab", "xyz", 300)
	wantRequest(t, of(3, 1, 2, api.Wait{Seq: 1, Op: a}), 0, "\x02\x03\x01\x01\x00\x01\x00\x01a\x00")
	c := of(9, 130, 9, api.Wait{Seq: 5, Op: set}, api.Wait{Seq: 8, Op: a})
	wantRequest(t, c, 0, "\x02\x09\x82\x01\x05\x04\x05\xac\x02\x02ab\x03xyz")
	wantRequest(t, c, 1, "\x02\x09\x82\x01\x08\x04\x01\x00\x01a\x00")
}

// wantRequests: each that waits, with what the client should know.
func wantRequests(t *testing.T, c api.Customer, known int) {
	t.Helper()
	for k, w := range c.Waits {
		s, e := command.Encode(api.Command{Kind: api.Call, Client: c.Id, Session: c.Session, Seq: w.Seq, Acked: known, Op: w.Op})
		if e != api.OK {
			t.Fatalf("what waits at %d of %s may not be asked: %d", k, show(c), e)
		}
		wantRequest(t, c, k, s)
	}
}

func TestRequest(t *testing.T) {
	for _, c := range mayBe() {
		if len(c.Waits) > 0 {
			wantRequests(t, c, c.Waits[0].Seq-1)
		}
	}
}

// TestWhatIsKnown: it goes on as the first one that waits does, and no reply to another one changes it.
func TestWhatIsKnown(t *testing.T) {
	c := of(3, 2, 9, at(5, 6, 8)...)
	for _, x := range []struct{ heard, known int }{{6, 4}, {5, 7}, {8, 8}} {
		c, _ = customer.Hear(c, mail(3, x.heard, api.OK, 1))
		wantRequests(t, c, x.known)
	}
	c, _ = customer.Start(c, goodOps[0])
	wantRequests(t, c, 8)
}

func TestRequestNone(t *testing.T) {
	for _, c := range mayBe() {
		for _, k := range []int{len(c.Waits), len(c.Waits) + 1, api.Window, 100, -1, -2, 1 << 32, -1 << 32, math.MinInt, math.MaxInt} {
			wantNoRequest(t, c, k, api.ErrNone)
		}
	}
}
