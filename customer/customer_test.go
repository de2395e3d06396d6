package customer_test

import (
	"fmt"
	"math"
	"slices"
	"strings"
	"testing"

	"tackroom/api"
	"tackroom/customer"
)

// of: a client, written shortly.
func of(id, session, next int, waits ...api.Wait) api.Customer {
	return api.Customer{Id: id, Session: session, Next: next, Waits: waits}
}

// at: calls that wait, each with another operation.
func at(seqs ...int) []api.Wait {
	var l []api.Wait
	for _, seq := range seqs {
		l = append(l, api.Wait{Seq: seq, Op: goodOps[seq&0xff%len(goodOps)]})
	}
	return l
}

func op(kind int, name string) api.Op { return api.Op{Kind: kind, A: name} }

func setOp(name, value string, fence int) api.Op {
	return api.Op{Kind: api.Set, A: name, B: value, N: fence}
}

var goodOps = []api.Op{
	op(api.Try, "a"), op(api.Line, "b"), op(api.Free, "zzzzzz"), op(api.Who, "ab"), op(api.Get, "tack"),
	setOp("a", "", 1), setOp("b", "x", 7), setOp("c", strings.Repeat("v", api.MaxValue), api.MaxFence), setOp("z", "\x00\xff\x80\n", 128),
}

// badOps: what may not be, and what is told of it.
var badOps = []struct {
	o api.Op
	e api.Errno
}{
	{api.Op{}, api.ErrKind}, {op(7, "a"), api.ErrKind}, {op(-1, "a"), api.ErrKind}, {op(math.MaxInt, ""), api.ErrKind},
	{op(api.Try, ""), api.ErrForm}, {op(api.Line, "A"), api.ErrForm}, {op(api.Get, "abcdefg"), api.ErrForm}, {op(api.Who, "a b"), api.ErrForm},
	{api.Op{Kind: api.Try, A: "a", B: "x"}, api.ErrForm}, {api.Op{Kind: api.Get, A: "a", B: "x"}, api.ErrForm},
	{setOp("", "x", 1), api.ErrForm},
	{setOp("a", strings.Repeat("v", api.MaxValue+1), 1), api.ErrSize}, {setOp("a", strings.Repeat("v", api.MaxValue+1), 0), api.ErrSize},
	{setOp("a", "x", 0), api.ErrRange}, {setOp("a", "x", -1), api.ErrRange}, {setOp("a", "x", api.MaxFence+1), api.ErrRange},
	{api.Op{Kind: api.Try, A: "a", N: 1}, api.ErrRange}, {api.Op{Kind: api.Get, A: "a", N: -1}, api.ErrRange},
}

// What can't be: the edges first.
var (
	noClients  = []int{0, api.MaxClient + 1, -1, -api.MaxClient, 1 << 32, 1<<32 + 1, math.MinInt, math.MaxInt}
	noSessions = []int{-1, api.MaxIndex + 1, -api.MaxIndex, 1 << 32, math.MinInt, math.MaxInt}
	noNexts    = []int{0, api.MaxSeq + 2, -1, -api.MaxSeq, 1 << 32, 1<<32 + 1, math.MinInt, math.MaxInt}
)

// mayBe: clients of all kinds that may be.
func mayBe() []api.Customer {
	l := []api.Customer{
		of(1, 0, 1), of(9, 0, 1), of(3, 0, api.MaxSeq), of(3, 0, api.MaxSeq+1),
		of(1, 1, 1), of(9, api.MaxIndex, 1), of(3, 2, api.MaxSeq), of(3, api.MaxIndex-1, api.MaxSeq+1),
		of(3, 2, 2, at(1)...), of(3, 2, 5, at(1, 2, 3, 4)...), of(3, 2, 5, at(1, 4)...), of(3, 2, 5, at(2, 3)...),
		of(9, 12, 90, at(1, 2)...), of(9, 12, 100, at(40, 41, 43)...), of(1, api.MaxIndex, 9, at(5, 6, 7, 8)...),
		of(4, 1, api.MaxSeq+1, at(api.MaxSeq)...), of(4, 1, api.MaxSeq+1, at(1)...),
		of(4, 1, api.MaxSeq+1, at(api.MaxSeq-3, api.MaxSeq-2, api.MaxSeq-1, api.MaxSeq)...),
		of(4, 1, api.MaxSeq, at(api.MaxSeq-2, api.MaxSeq-1)...),
	}
	for id := 1; id <= api.MaxClient; id++ {
		l = append(l, of(id, 7, 200, at(196, 197, 199)...))
	}
	for _, o := range goodOps {
		l = append(l, of(2, 5, 9, api.Wait{Seq: 6, Op: o}, api.Wait{Seq: 8, Op: o}))
	}
	return l
}

// show a client, whether a list without elements is nil or not.
func show(c api.Customer) string {
	var s strings.Builder
	fmt.Fprintf(&s, "{%d %d %d", c.Id, c.Session, c.Next)
	for _, w := range c.Waits {
		fmt.Fprintf(&s, " %d:%s", w.Seq, showOp(w.Op))
	}
	return s.String() + "}"
}

// showOp: its texts may be bytes of any kind.
func showOp(o api.Op) string { return fmt.Sprintf("{%d %q %q %d}", o.Kind, o.A, o.B, o.N) }

// die: numbers that look drawn, the same each time.
type die uint64

func (d *die) roll(most int) int {
	*d = *d*6364136223846793005 + 1442695040888963407
	return int(uint64(*d>>33) % uint64(most))
}

func wantCheck(t *testing.T, c api.Customer, want api.Errno) {
	t.Helper()
	if e := customer.Check(c); e != want {
		t.Errorf("Check of %.300s = %d; want %d", show(c), e, want)
	}
}

// want an answer: what it is called, a client and OK, or nothing but an error.
func want(t *testing.T, name string, got api.Customer, e api.Errno, after api.Customer, errno api.Errno) {
	t.Helper()
	if errno != api.OK {
		after = api.Customer{}
	}
	if show(got) != show(after) || e != errno {
		t.Errorf("%.400s = %.300s, %d; want %.300s, %d", name, show(got), e, show(after), errno)
	}
}

// P10.1

func TestCheckOfWhatMayBe(t *testing.T) {
	for _, c := range mayBe() {
		wantCheck(t, c, api.OK)
	}
}

func TestCheckRange(t *testing.T) {
	for _, c := range append(mayBe(), of(3, 2, 8, at(1, 2, 3, 4, 5)...), of(3, 0, 8, at(1)...), of(3, 2, 8, at(9)...), of(3, 2, 8, api.Wait{Seq: 7})) {
		for _, n := range noClients {
			bad := c
			bad.Id = n
			wantCheck(t, bad, api.ErrRange)
		}
		for _, n := range noSessions {
			bad := c
			bad.Session = n
			wantCheck(t, bad, api.ErrRange)
		}
		for _, n := range noNexts {
			bad := c
			bad.Next = n
			wantCheck(t, bad, api.ErrRange)
		}
	}
}

// TestCheckNumbers: each of them that may be, at its edges.
func TestCheckNumbers(t *testing.T) {
	for id := 1; id <= api.MaxClient; id++ {
		wantCheck(t, of(id, 0, 1), api.OK)
	}
	for _, n := range []int{0, 1, 2, 1 << 20, api.MaxIndex - 1, api.MaxIndex} {
		wantCheck(t, of(3, n, 1), api.OK)
	}
	for _, n := range []int{1, 2, 5, api.MaxSeq - 1, api.MaxSeq, api.MaxSeq + 1} {
		wantCheck(t, of(3, 0, n), api.OK)
		wantCheck(t, of(3, 1, n), api.OK)
	}
}

func TestCheckHowManyWait(t *testing.T) {
	wantCheck(t, of(3, 2, 9, at(5, 6, 7, 8)...), api.OK)
	wantCheck(t, of(3, 2, 9, at(4, 5, 6, 7, 8)...), api.ErrState)
	wantCheck(t, of(3, 2, 9, at(5, 6, 7, 8, 8)...), api.ErrState)
	wantCheck(t, of(3, 2, api.MaxSeq, slices.Repeat(at(1), 100000)...), api.ErrState)
	// They are told ahead of what is wrong with each of them.
	for _, x := range badOps {
		w := api.Wait{Seq: 4, Op: x.o}
		wantCheck(t, of(3, 2, 9, append([]api.Wait{w}, at(5, 6, 7, 8)...)...), api.ErrState)
		wantCheck(t, of(3, 0, 9, w), api.ErrState)
		wantCheck(t, of(3, 2, 9, w), x.e)
	}
}

func TestCheckWaitsWithoutASession(t *testing.T) {
	for _, c := range mayBe() {
		if len(c.Waits) > 0 {
			c.Session = 0
			wantCheck(t, c, api.ErrState)
		}
	}
	wantCheck(t, api.Customer{Id: 3, Next: 2, Waits: []api.Wait{}}, api.OK)
}

// TestCheckSeqs: all threes of small ones.
func TestCheckSeqs(t *testing.T) {
	const most = 9
	for next := 1; next <= most; next++ {
		for a := -1; a <= most; a++ {
			for b := -1; b <= most; b++ {
				for c := -1; c <= most; c++ {
					e := api.ErrState
					if 1 <= a && a < b && b < c && c < next && c-a < api.Window {
						e = api.OK
					}
					wantCheck(t, of(3, 2, next, at(a, b, c)...), e)
				}
			}
		}
	}
}

func TestCheckSeqsAtTheEdges(t *testing.T) {
	const top = api.MaxSeq + 1
	for _, x := range []struct {
		next int
		seqs []int
		e    api.Errno
	}{
		{2, []int{1}, api.OK}, {2, []int{0}, api.ErrState}, {2, []int{2}, api.ErrState}, {2, []int{3}, api.ErrState},
		{1, []int{1}, api.ErrState}, {top, []int{api.MaxSeq}, api.OK}, {top, []int{top}, api.ErrState}, {top, []int{top + 1}, api.ErrState},
		{9, []int{3, 6}, api.OK}, {9, []int{3, 7}, api.ErrState}, {9, []int{3, 8}, api.ErrState}, {9, []int{3, 4, 7}, api.ErrState},
		{9, []int{4, 7}, api.OK}, {9, []int{5, 5}, api.ErrState}, {9, []int{5, 4}, api.ErrState}, {9, []int{5, 7, 6}, api.ErrState},
		{9, []int{5, 0}, api.ErrState}, {9, []int{5, -1}, api.ErrState}, {9, []int{7, 9}, api.ErrState}, {top, []int{api.MaxSeq - 3, api.MaxSeq}, api.OK},
		{top, []int{api.MaxSeq - 4, api.MaxSeq}, api.ErrState}, {top, []int{api.MaxSeq, top}, api.ErrState},
		{9, []int{math.MinInt}, api.ErrState}, {9, []int{math.MaxInt}, api.ErrState}, {9, []int{1, math.MaxInt}, api.ErrState},
		{9, []int{1, math.MinInt}, api.ErrState}, {top, []int{math.MinInt, math.MaxInt}, api.ErrState}, {9, []int{-1, 1}, api.ErrState},
		{9, []int{1 << 32}, api.ErrState}, {9, []int{1<<32 + 1, 1<<32 + 2}, api.ErrState},
	} {
		wantCheck(t, of(3, 2, x.next, at(x.seqs...)...), x.e)
	}
}

// TestCheckOps: wherever it waits, what may not be is told.
func TestCheckOps(t *testing.T) {
	for _, x := range badOps {
		for k := range api.Window {
			l := at(3, 4, 5, 6)
			l[k].Op = x.o
			wantCheck(t, of(3, 2, 7, l...), x.e)
		}
	}
}

// TestCheckOneByOne: of one wait its Seq is told first, of two what is wrong with the first one.
func TestCheckOneByOne(t *testing.T) {
	for _, x := range badOps {
		bad := api.Wait{Seq: 4, Op: x.o}
		wantCheck(t, of(3, 2, 4, bad), api.ErrState)
		wantCheck(t, of(3, 2, 9, at(4)[0], bad), api.ErrState)
		wantCheck(t, of(3, 2, 9, bad, at(4)[0]), x.e)
		wantCheck(t, of(3, 2, 9, bad, at(9)[0]), x.e)
		wantCheck(t, of(3, 2, 9, bad, at(8)[0]), x.e)
		wantCheck(t, of(3, 2, 9, at(3)[0], bad, at(1)[0]), x.e)
		wantCheck(t, of(3, 2, 9, at(5)[0], bad, at(6)[0]), api.ErrState)
		for _, y := range badOps {
			wantCheck(t, of(3, 2, 9, bad, api.Wait{Seq: 5, Op: y.o}), x.e)
		}
	}
}

func TestCopy(t *testing.T) {
	odd := []api.Customer{
		{}, of(-1, -2, -3), of(math.MaxInt, math.MinInt, math.MaxInt, at(5, 4, -1)...), of(3, 0, 1, at(1, 2, 3, 4, 5, 6)...),
		of(3, 2, 9, api.Wait{Seq: 7, Op: api.Op{Kind: 9, A: "\xff", B: strings.Repeat("\x00", 1000), N: -4}}),
		of(3, 2, 9, slices.Repeat(at(1, 2), 1000)...), {Id: 3, Next: 1, Waits: []api.Wait{}},
	}
	for _, c := range append(mayBe(), odd...) {
		if got := customer.Copy(c); show(got) != show(c) {
			t.Errorf("Copy of %.300s = %.300s", show(c), show(got))
		}
	}
}

func TestNew(t *testing.T) {
	for id := 1; id <= api.MaxClient; id++ {
		c, e := customer.New(id)
		want(t, fmt.Sprint("New of ", id), c, e, of(id, 0, 1), api.OK)
		wantCheck(t, c, api.OK)
	}
	for _, id := range noClients {
		c, e := customer.New(id)
		want(t, fmt.Sprint("New of ", id), c, e, api.Customer{}, api.ErrRange)
	}
}

// mayNotBe: clients that Check refuses, and what it tells of them.
var mayNotBe = []struct {
	c api.Customer
	e api.Errno
}{
	{api.Customer{}, api.ErrRange}, {of(0, 2, 5, at(3)...), api.ErrRange}, {of(10, 2, 5), api.ErrRange},
	{of(3, -1, 5), api.ErrRange}, {of(3, api.MaxIndex+1, 5, at(4)...), api.ErrRange}, {of(3, 2, 0), api.ErrRange},
	{of(3, 2, api.MaxSeq+2, at(1)...), api.ErrRange}, {of(3, 0, 5, at(4)...), api.ErrState},
	{of(3, 2, 9, at(4, 5, 6, 7, 8)...), api.ErrState}, {of(3, 2, 5, at(5)...), api.ErrState}, {of(3, 2, 5, at(0)...), api.ErrState},
	{of(3, 2, 9, at(4, 8)...), api.ErrState}, {of(3, 2, 9, at(4, 4)...), api.ErrState},
	{of(3, 2, 9, api.Wait{Seq: 4}), api.ErrKind}, {of(3, 2, 9, api.Wait{Seq: 4, Op: op(api.Try, "A")}), api.ErrForm},
	{of(3, 2, 9, api.Wait{Seq: 4, Op: setOp("a", strings.Repeat("v", 13), 1)}), api.ErrSize},
	{of(3, 2, 9, api.Wait{Seq: 4, Op: setOp("a", "v", 0)}), api.ErrRange},
}

// TestAllRefuseWhatCheckRefuses: ahead of what else they refuse.
func TestAllRefuseWhatCheckRefuses(t *testing.T) {
	for _, x := range mayNotBe {
		wantCheck(t, x.c, x.e)
		for _, o := range []api.Op{op(api.Try, "a"), {}} {
			wantNotStarted(t, x.c, o, x.e)
		}
		wantNotHello(t, x.c, x.e)
		for _, k := range []int{0, -1, 9} {
			wantNoRequest(t, x.c, k, x.e)
		}
		for _, client := range []int{x.c.Id, x.c.Id + 1} {
			for _, seq := range []int{0, 1, 4, 9} {
				wantNotHeard(t, x.c, api.Mail{Client: client, Seq: seq, Reply: api.Reply{N: 1}}, x.e)
				wantNotHeard(t, x.c, api.Mail{Client: client, Seq: seq, Reply: api.Reply{Code: api.ErrAway}}, x.e)
				wantNotHeard(t, x.c, api.Mail{Client: client, Seq: seq}, x.e)
			}
		}
	}
}
