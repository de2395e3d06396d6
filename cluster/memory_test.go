package cluster_test

import (
	"fmt"
	"math"
	"slices"
	"strings"
	"testing"
	"unsafe"

	"tackroom/api"
	"tackroom/cluster"
)

// What holds everywhere

// span of memory: where it begins, and how many bytes it has.
type span struct{ from, size uintptr }

func (a span) meets(b span) bool {
	return a.size > 0 && b.size > 0 && a.from < b.from+b.size && b.from < a.from+a.size
}

func textSpan(s string) span {
	return span{uintptr(unsafe.Pointer(unsafe.StringData(s))), uintptr(len(s))}
}

func listSpan[T any](l []T) span {
	var one T
	return span{uintptr(unsafe.Pointer(unsafe.SliceData(l))), uintptr(cap(l)) * unsafe.Sizeof(one)}
}

// textSpans of a list: it with all its spare room, and its texts.
func textSpans(l []string) []span {
	all := []span{listSpan(l)}
	for _, s := range l[:cap(l)] {
		all = append(all, textSpan(s))
	}
	return all
}

// stateSpans: the lists of a state and those within them, with all their spare room, and the texts.
func stateSpans(s api.State) []span {
	all := []span{listSpan(s.Locks), listSpan(s.Pairs), listSpan(s.Sessions)}
	for _, x := range s.Locks[:cap(s.Locks)] {
		all = append(all, textSpan(x.Name), listSpan(x.Line))
	}
	for _, x := range s.Pairs[:cap(s.Pairs)] {
		all = append(all, textSpan(x.Name), textSpan(x.Value))
	}
	for _, x := range s.Sessions[:cap(s.Sessions)] {
		all = append(all, listSpan(x.Replies))
		for _, k := range x.Replies[:cap(x.Replies)] {
			all = append(all, textSpan(k.Reply.Text))
		}
	}
	return all
}

// spans of an outcome.
func spans(o api.Outcome) []span {
	all := append(textSpans(o.Committed), listSpan(o.Replicas), listSpan(o.Customers), listSpan(o.Mails), listSpan(o.Codes))
	for _, r := range o.Replicas[:cap(o.Replicas)] {
		all = append(append(append(all, textSpans(r.Log.Entries)...), textSpan(r.Snap)), stateSpans(r.State)...)
	}
	for _, c := range o.Customers[:cap(o.Customers)] {
		all = append(all, listSpan(c.Waits))
		for _, w := range c.Waits[:cap(c.Waits)] {
			all = append(all, textSpan(w.Op.A), textSpan(w.Op.B))
		}
	}
	for _, m := range o.Mails[:cap(o.Mails)] {
		all = append(all, textSpan(m.Reply.Text))
	}
	return all
}

// actSpans of a script, with what lies in its spare room.
func actSpans(l []api.Act) []span {
	all := []span{listSpan(l)}
	for _, a := range l[:cap(l)] {
		all = append(all, textSpan(a.Op.A), textSpan(a.Op.B))
	}
	return all
}

// give a script that leaves something everywhere: locks with lines, values, replies that are kept, calls that wait,
// mails with texts, twice, snapshots and entries behind them. It has spare room, with something in it, and lies between
// other acts; all texts lie in one.
func give() []api.Act {
	text := strings.Clone("abcdxyzw")
	a, b := text[0:1], text[1:2]
	l := slices.Concat(acts(start(7, op(api.Try, a))), joined(0, 1, 2), acts(
		start(0, op(api.Try, a)), start(0, setOp(a, text[4:7], 1)), start(0, op(api.Get, a)), start(0, op(api.Try, b)),
		start(1, op(api.Line, a)), start(1, op(api.Get, a)), start(2, op(api.Line, a)),
		send(0, 0), send(0, 1), send(1, 0), send(2, 0), send(0, 2), send(0, 3), ship(1, 99), apply(0, 99), copied(4), copied(4), deliver(0),
		compact(0), ship(2, 9), send(1, 1), enter(1), ship(1, 99), ship(2, 99), apply(0, 99), apply(1, 5), compact(1), apply(1, 3),
		copied(6), copied(7), send(1, 1), send(0, 0), ship(2, 1), crash(2), apply(2, 1), lead(1), send(1, 1), deliver(99), drop(1),
		start(3, op(api.Try, text[7:8])), start(2, setOp(b, text[5:8], 9)),
	))
	end := len(l)
	l = append(l, start(0, op(api.Try, text[2:4])), enter(5), start(1, setOp(b, text[3:6], 3)))
	return l[1 : end : end+2]
}

// whole: what was given, with all that lies in spare room.
func whole(l []api.Act) string { return fmt.Sprint(l[:cap(l)]) }

// deeds: Run, in each of its ways.
var deeds = []struct {
	name string
	want api.Errno
	do   func(l []api.Act) (api.Outcome, api.Errno)
}{
	{"Run", api.OK, func(l []api.Act) (api.Outcome, api.Errno) { return cluster.Run(4, l) }},
	{"Run of one client", api.OK, func(l []api.Act) (api.Outcome, api.Errno) { return cluster.Run(1, l) }},
	{"Run of a part", api.OK, func(l []api.Act) (api.Outcome, api.Errno) { return cluster.Run(4, l[:len(l)-9]) }},
	{"Run of half", api.OK, func(l []api.Act) (api.Outcome, api.Errno) { return cluster.Run(4, l[:len(l)/2]) }},
	{"Run of the Joins", api.OK, func(l []api.Act) (api.Outcome, api.Errno) { return cluster.Run(4, l[:8]) }},
	{"Run of nothing", api.OK, func(l []api.Act) (api.Outcome, api.Errno) { return cluster.Run(4, l[:0]) }},
	{"Run of no client", api.ErrRange, func(l []api.Act) (api.Outcome, api.Errno) { return cluster.Run(0, l) }},
	{"Run of too much", api.ErrSize, func(l []api.Act) (api.Outcome, api.Errno) { return cluster.Run(1, slices.Repeat(l, 9)) }},
}

func TestWhatIsHandedInStays(t *testing.T) {
	for _, x := range deeds {
		l := give()
		if _, e := x.do(l); e != x.want {
			t.Errorf("%s tells %d; want %d", x.name, e, x.want)
		}
		if got, want := whole(l), whole(give()); got != want {
			t.Errorf("%s leaves\n%s of\n%s", x.name, got, want)
		}
	}
}

// TestTheScriptLeavesAll: the tests of memory are worth something only if there is something of each kind.
func TestTheScriptLeavesAll(t *testing.T) {
	o := run(t, 4, give())
	lines, replies, waits, texts := 0, 0, 0, 0
	for _, r := range o.Replicas {
		if r.Log.Base == 0 || len(r.Log.Entries) == 0 || len(r.State.Pairs) == 0 {
			t.Errorf("a replica has too little: %s", showReplica(r))
		}
		for _, x := range r.State.Locks {
			lines += len(x.Line)
		}
		for _, x := range r.State.Sessions {
			replies += len(x.Replies)
		}
	}
	for _, c := range o.Customers {
		waits += len(c.Waits)
	}
	for _, m := range o.Mails {
		texts += len(m.Reply.Text)
	}
	if lines < 4 || replies < 12 || waits < 5 || texts < 12 {
		t.Errorf("too little is there: %d %d %d %d: %s", lines, replies, waits, texts, show(o))
	}
}

func TestAnswersAreNewMemory(t *testing.T) {
	for _, x := range deeds {
		l := give()
		o, e := x.do(l)
		o2, e2 := x.do(l)
		if show(o) != show(o2) || e != e2 {
			t.Errorf("%s: %s, %d and then %s, %d", x.name, show(o), e, show(o2), e2)
		}
		others := append(actSpans(l[:cap(l)]), spans(o2)...)
		own := spans(o)
		for i, a := range own {
			if slices.ContainsFunc(others, a.meets) {
				t.Errorf("%s: an answer shares memory with what was handed in, or with another answer", x.name)
			}
			if slices.ContainsFunc(own[:i], a.meets) {
				t.Errorf("%s: two parts of an answer share memory", x.name)
			}
		}
	}
}

// TestNothingIsKept: a call answers the same, whatever was asked between.
func TestNothingIsKept(t *testing.T) {
	for _, x := range deeds {
		want, e := x.do(give())
		for _, other := range deeds {
			other.do(story)
			other.do(give())
			if got, again := x.do(give()); show(got) != show(want) || again != e {
				t.Errorf("%s behind %s: %s, %d; want %s, %d", x.name, other.name, show(got), again, show(want), e)
			}
		}
	}
}

// TestEveryCallEnds: at all numbers.
func TestEveryCallEnds(t *testing.T) {
	numbers := []int{math.MinInt, math.MinInt + 1, -1 << 32, -1, 0, 1, 2, 3, 400, 1 << 32, math.MaxInt - 1, math.MaxInt}
	for _, clients := range numbers {
		cluster.Run(clients, story)
		cluster.Run(clients, nil)
	}
	for kind := -1; kind <= api.Copy+1; kind++ {
		for _, a := range numbers {
			for _, b := range numbers {
				l := acts(api.Act{Kind: kind, C: a, R: a, K: b, Op: api.Op{Kind: a, A: "\xff", B: "\x00", N: b}}, api.Act{Kind: kind, C: b, R: a, K: a})
				cluster.Run(2, l)
				cluster.Run(2, append(slices.Clone(story), l...))
			}
		}
	}
}

// TestAllAtOnce: as many acts, and as many entries, as may be.
func TestAllAtOnce(t *testing.T) {
	for _, x := range story {
		run(t, 2, append(slices.Clone(story), slices.Repeat(acts(x), api.MaxActs-len(story))...))
	}
}
