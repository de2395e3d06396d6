package customer_test

import (
	"fmt"
	"math"
	"slices"
	"strings"
	"testing"
	"unsafe"

	"tackroom/api"
	"tackroom/customer"
)

// What holds everywhere

// span of memory: where it begins, and how many bytes it has.
type span struct{ from, size uintptr }

func (a span) meets(b span) bool {
	return a.size > 0 && b.size > 0 && a.from < b.from+b.size && b.from < a.from+a.size
}

func textSpan(s string) span {
	return span{uintptr(unsafe.Pointer(unsafe.StringData(s))), uintptr(len(s))}
}

// spans of a client: its list with all its spare room, and the texts.
func spans(c api.Customer) []span {
	all := []span{{uintptr(unsafe.Pointer(unsafe.SliceData(c.Waits))), uintptr(cap(c.Waits)) * unsafe.Sizeof(api.Wait{})}}
	for _, w := range c.Waits[:cap(c.Waits)] {
		all = append(all, textSpan(w.Op.A), textSpan(w.Op.B))
	}
	return all
}

// given: a client, an operation and a mail. The client's list has spare room, with something in it, and lies between
// other waits; all texts lie in one.
type given struct {
	all []api.Wait
	c   api.Customer
	o   api.Op
	m   api.Mail
}

func give(next int) given {
	text := strings.Clone("abcdefvwxyz")
	all := []api.Wait{
		{Seq: 70, Op: op(api.Who, text[0:5])},
		{Seq: next - 3, Op: setOp(text[0:2], text[6:8], 3)},
		{Seq: next - 2, Op: setOp(text[0:2], text[6:8], 3)},
		{Seq: next - 1, Op: op(api.Try, text[3:4])},
		{Seq: 71, Op: setOp(text[4:5], text[10:11], 9)},
		{Seq: 72, Op: op(api.Line, text[4:6])},
	}
	return given{
		all: all,
		c:   api.Customer{Id: 3, Session: 2, Next: next, Waits: all[1:4:5]},
		o:   setOp(text[1:3], text[7:10], 5),
		m:   api.Mail{Client: 3, Seq: next - 2, Reply: api.Reply{N: 4, Text: text[5:9]}},
	}
}

// whole: what was given, with all that lies in spare room.
func whole(g given) string { return fmt.Sprintf("%s %v %v %v", show(g.c), g.all, g.o, g.m) }

// deeds: each call, in each of its ways; what is no client among the answers is told as the text of an operation.
var deeds = []struct {
	name string
	want api.Errno
	do   func(g given) (api.Customer, api.Errno)
}{
	{"Check", api.OK, func(g given) (api.Customer, api.Errno) { return api.Customer{}, customer.Check(g.c) }},
	{"Copy", api.OK, func(g given) (api.Customer, api.Errno) { return customer.Copy(g.c), api.OK }},
	{"New", api.OK, func(g given) (api.Customer, api.Errno) { return customer.New(g.c.Id) }},
	{"Start", api.OK, func(g given) (api.Customer, api.Errno) { return customer.Start(g.c, g.o) }},
	{"Start of one that waits", api.OK, func(g given) (api.Customer, api.Errno) { return customer.Start(g.c, g.c.Waits[0].Op) }},
	{"Start of nothing", api.ErrKind, func(g given) (api.Customer, api.Errno) { return customer.Start(g.c, api.Op{}) }},
	{"Start without a Session", api.ErrAway, func(g given) (api.Customer, api.Errno) {
		return customer.Start(api.Customer{Id: 3, Next: 5, Waits: g.c.Waits[:0]}, g.o)
	}},
	{"Start when nothing waits", api.OK, func(g given) (api.Customer, api.Errno) {
		return customer.Start(api.Customer{Id: 3, Session: 2, Next: 5, Waits: g.c.Waits[:0]}, g.o)
	}},
	{"Hello", api.OK, asText(customer.Hello)},
	{"Request", api.OK, asText(func(c api.Customer) (string, api.Errno) { return customer.Request(c, 1) })},
	{"Request of none", api.ErrNone, asText(func(c api.Customer) (string, api.Errno) { return customer.Request(c, 3) })},
	{"Hear", api.OK, func(g given) (api.Customer, api.Errno) { return customer.Hear(g.c, g.m) }},
	{"Hear of the first one", api.OK, hear(func(g *given) { g.m.Seq = g.c.Waits[0].Seq })},
	{"Hear of the last one", api.OK, hear(func(g *given) { g.m.Seq = g.c.Waits[2].Seq })},
	{"Hear of the one that waits", api.OK, hear(func(g *given) { g.c.Waits = g.c.Waits[1:2] })},
	{"Hear that it is away", api.OK, hear(func(g *given) { g.m.Reply.Code = api.ErrAway })},
	{"Hear of what does not wait", api.ErrOld, hear(func(g *given) { g.m.Seq = g.c.Next })},
	{"Hear of another client", api.ErrNone, hear(func(g *given) { g.m.Client = 4 })},
	{"Hear of a Join", api.OK, hear(func(g *given) { g.m.Seq, g.c.Session, g.c.Waits = 0, 0, g.c.Waits[:0] })},
	{"Hear of a Join that is refused", api.OK, hear(func(g *given) {
		g.m.Seq, g.m.Reply.Code, g.c.Session, g.c.Waits = 0, api.ErrFull, 0, g.c.Waits[:0]
	})},
	{"Hear of a Join that is old", api.ErrOld, hear(func(g *given) { g.m.Seq = 0 })},
}

func asText(ask func(api.Customer) (string, api.Errno)) func(g given) (api.Customer, api.Errno) {
	return func(g given) (api.Customer, api.Errno) {
		s, e := ask(g.c)
		return api.Customer{Waits: []api.Wait{{Op: api.Op{A: s}}}}, e
	}
}

func hear(change func(g *given)) func(g given) (api.Customer, api.Errno) {
	return func(g given) (api.Customer, api.Errno) {
		change(&g)
		return customer.Hear(g.c, g.m)
	}
}

func TestWhatIsHandedInStays(t *testing.T) {
	for _, next := range []int{9, api.MaxSeq} {
		for _, x := range deeds {
			g := give(next)
			if _, e := x.do(g); e != x.want {
				t.Errorf("%s tells %d; want %d", x.name, e, x.want)
			}
			if got, want := whole(g), whole(give(next)); got != want {
				t.Errorf("%s leaves\n%s of\n%s", x.name, got, want)
			}
		}
	}
}

func TestAnswersAreNewMemory(t *testing.T) {
	for _, x := range deeds {
		g := give(9)
		c, e := x.do(g)
		c2, e2 := x.do(g)
		if show(c) != show(c2) || e != e2 {
			t.Errorf("%s: %s, %d and then %s, %d", x.name, show(c), e, show(c2), e2)
		}
		others := append(spans(api.Customer{Waits: g.all}), spans(c2)...)
		others = append(others, textSpan(g.o.A), textSpan(g.o.B), textSpan(g.m.Reply.Text))
		own := spans(c)
		for i, a := range own {
			if slices.ContainsFunc(others, a.meets) {
				t.Errorf("%s: an answer shares memory with what was handed in, or with another answer", x.name)
			}
			if slices.ContainsFunc(own[:i], a.meets) {
				t.Errorf("%s: two parts of an answer share memory", x.name)
			}
		}
	}
}

// TestNothingIsKept: a call answers the same, whatever was asked between.
func TestNothingIsKept(t *testing.T) {
	for _, x := range deeds {
		want, e := x.do(give(9))
		for _, other := range deeds {
			other.do(give(100))
			if got, again := x.do(give(9)); show(got) != show(want) || again != e {
				t.Errorf("%s behind %s: %s, %d; want %s, %d", x.name, other.name, show(got), again, show(want), e)
			}
		}
	}
}

// Lists without elements may be handed in either way.
func TestListsWithoutElements(t *testing.T) {
	for _, l := range [][]api.Wait{nil, {}, at(1, 2)[:0]} {
		wantCheck(t, of(3, 0, 1, l...), api.OK)
		wantStarted(t, of(3, 2, 1, l...), goodOps[0])
		wantNoRequest(t, of(3, 2, 1, l...), 0, api.ErrNone)
		wantHeard(t, of(3, 0, 1, l...), mail(3, 0, api.OK, 5), of(3, 5, 1))
		wantNotHeard(t, of(3, 2, 2, l...), mail(3, 1, api.OK, 5), api.ErrOld)
	}
}

// TestEveryCallEnds: at all numbers.
func TestEveryCallEnds(t *testing.T) {
	numbers := []int{math.MinInt, math.MinInt + 1, -1 << 32, -1, 0, 1, 4, 5, api.MaxSeq, api.MaxSeq + 1, 1 << 32, math.MaxInt - 1, math.MaxInt}
	for _, a := range numbers {
		for _, b := range numbers {
			for _, l := range [][]api.Wait{nil, at(a), at(a, b), at(a, b, a, b), slices.Repeat(at(b), 1000)} {
				for _, c := range []api.Customer{of(a, b, a, l...), of(3, a, b, l...), of(3, 2, a, l...)} {
					customer.Check(c)
					customer.Copy(c)
					customer.New(a)
					customer.Start(c, api.Op{Kind: a, N: b})
					customer.Start(c, goodOps[0])
					customer.Hello(c)
					customer.Request(c, a)
					customer.Hear(c, mail(3, a, api.Errno(b), b))
				}
			}
		}
	}
}
