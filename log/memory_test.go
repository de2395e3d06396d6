package log_test

import (
	"fmt"
	"math"
	"slices"
	"strings"
	"testing"
	"unsafe"

	"tackroom/api"
	"tackroom/log"
)

// What holds everywhere

// span of memory: where it begins, and how many bytes it has.
type span struct{ from, size uintptr }

func (a span) meets(b span) bool {
	return a.size > 0 && b.size > 0 && a.from < b.from+b.size && b.from < a.from+a.size
}

// spans of a list: it with all its spare room, and its texts.
func spans(l []string) []span {
	all := []span{{uintptr(unsafe.Pointer(unsafe.SliceData(l))), uintptr(cap(l)) * unsafe.Sizeof("")}}
	for _, s := range l[:cap(l)] {
		all = append(all, textSpan(s))
	}
	return all
}

func textSpan(s string) span {
	return span{uintptr(unsafe.Pointer(unsafe.StringData(s))), uintptr(len(s))}
}

// given: a log and more entries in one list, with something ahead of them, between them and behind them; some entries
// lie in one text, and some are one and the same.
type given struct {
	all  []string
	l    api.Log
	more []string
}

func give(base int) given {
	text := strings.Clone(join + try + set + leave)
	a, b, c := text[:2], text[2:2+len(try)], text[2+len(try):len(text)-2]
	all := []string{"ahead", a, b, c, a, "between", "more", b, c, b, a, "behind", "end"}
	return given{all, api.Log{Base: base, Entries: all[1:5:6]}, all[7:11:12]}
}

// calls: what is asked, and its answers as lists.
var calls = []struct {
	name string
	ask  func(g given) (lists [][]string, e api.Errno)
}{
	{"Check", func(g given) ([][]string, api.Errno) { return nil, log.Check(g.l) }},
	{"Copy", func(g given) ([][]string, api.Errno) { return [][]string{log.Copy(g.l).Entries}, api.OK }},
	{"Last", func(g given) ([][]string, api.Errno) { return [][]string{{fmt.Sprint(log.Last(g.l))}}, api.OK }},
	{"At", func(g given) ([][]string, api.Errno) {
		var l []string
		for index := g.l.Base - 1; index < g.l.Base+7; index++ {
			if s, e := log.At(g.l, index); e == api.OK {
				l = append(l, s)
			}
		}
		return [][]string{l}, api.OK
	}},
	{"Put at the end", put(4)},
	{"Put of what stands there", put(1)},
	{"Put of others", put(2)},
	{"Put at the Base", put(0)},
	{"Put below the Base", put(-2)},
	{"Put of such as are passed over", put(-5)},
	{"Put with a gap", put(5)},
	{"Put of nothing", func(g given) ([][]string, api.Errno) {
		l, e := log.Put(g.l, g.l.Base+2, g.more[:0])
		return [][]string{l.Entries}, e
	}},
	{"Behind the Base", behind(0, 9)},
	{"Behind, up to two", behind(1, 2)},
	{"Behind, up to none", behind(2, 0)},
	{"Behind the last one", behind(4, 1)},
	{"Behind, refused", behind(-1, 1)},
	{"Cut at the Base", cut(0)},
	{"Cut", cut(2)},
	{"Cut at the last one", cut(4)},
	{"Cut, refused", cut(5)},
}

func put(at int) func(g given) ([][]string, api.Errno) {
	return func(g given) ([][]string, api.Errno) {
		l, e := log.Put(g.l, g.l.Base+at, g.more)
		return [][]string{l.Entries}, e
	}
}

func behind(at, many int) func(g given) ([][]string, api.Errno) {
	return func(g given) ([][]string, api.Errno) {
		l, e := log.Behind(g.l, g.l.Base+at, many)
		return [][]string{l}, e
	}
}

func cut(at int) func(g given) ([][]string, api.Errno) {
	return func(g given) ([][]string, api.Errno) {
		l, e := log.Cut(g.l, g.l.Base+at)
		return [][]string{l.Entries}, e
	}
}

func TestWhatIsHandedInStays(t *testing.T) {
	for _, base := range []int{9, maxBase - 4} {
		for _, c := range calls {
			g, want := give(base), give(base)
			if c.ask(g); !slices.Equal(g.all, want.all) {
				t.Errorf("%s leaves %q of %q", c.name, g.all, want.all)
			}
		}
	}
}

func TestAnswersAreNewMemory(t *testing.T) {
	for _, c := range calls {
		g := give(9)
		first, e := c.ask(g)
		second, again := c.ask(g)
		if e != again || fmt.Sprintf("%q", first) != fmt.Sprintf("%q", second) {
			t.Errorf("%s: %q, %d and then %q, %d", c.name, first, e, second, again)
		}
		others := spans(g.all)
		for _, l := range second {
			others = append(others, spans(l)...)
		}
		var own []span
		for _, l := range first {
			own = append(own, spans(l)...)
		}
		for i, x := range own {
			if slices.ContainsFunc(others, x.meets) {
				t.Errorf("%s: an answer shares memory with what was handed in, or with another answer", c.name)
			}
			if slices.ContainsFunc(own[:i], x.meets) {
				t.Errorf("%s: two parts of an answer share memory", c.name)
			}
		}
	}
}

// TestAnswersDoNotFollow: what is written into what was handed in is not seen in what was answered, nor the other way.
func TestAnswersDoNotFollow(t *testing.T) {
	for _, c := range calls {
		g := give(9)
		got, _ := c.ask(g)
		want, _ := c.ask(give(9))
		for i := range g.all {
			g.all[i] = "other"
		}
		if fmt.Sprintf("%q", got) != fmt.Sprintf("%q", want) {
			t.Errorf("%s: the answer became %q", c.name, got)
		}
		for _, l := range got {
			for i := range l[:cap(l)] {
				l[:cap(l)][i] = "answer"
			}
		}
		if slices.Contains(g.all, "answer") {
			t.Errorf("%s: what was handed in became %q", c.name, g.all)
		}
	}
}

// TestNothingIsKept: a call answers the same, whatever was asked between.
func TestNothingIsKept(t *testing.T) {
	for _, c := range calls {
		want, e := c.ask(give(9))
		for _, other := range calls {
			other.ask(give(20))
			if got, again := c.ask(give(9)); e != again || fmt.Sprintf("%q", got) != fmt.Sprintf("%q", want) {
				t.Errorf("%s behind %s: %q, %d; want %q, %d", c.name, other.name, got, again, want, e)
			}
		}
	}
}

// Lists without elements may be handed in either way.
func TestListsWithoutElements(t *testing.T) {
	for _, base := range bases {
		for _, l := range []api.Log{{Base: base}, {Base: base, Entries: []string{}}, {Base: base, Entries: kinds[:0]}} {
			wantPut(t, l, base, nil)
			wantPut(t, l, base, []string{})
			wantPut(t, l, 0, kinds[:0])
			wantBehind(t, l, base, 3)
			wantCut(t, l, base)
			wantNotAt(t, l, base+1, api.ErrNone)
			if got := log.Copy(l); got.Base != base || len(got.Entries) != 0 || log.Last(l) != base || log.Check(l) != api.OK {
				t.Errorf("Copy(%s) = %s, Last %d, Check %d", show(l), show(got), log.Last(l), log.Check(l))
			}
		}
	}
}

// TestEveryCallEnds: at all numbers.
func TestEveryCallEnds(t *testing.T) {
	numbers := append([]int{-1, 0, 1, maxBase, maxBase + 1, api.MaxIndex, api.MaxIndex + 1}, outside...)
	for _, base := range numbers {
		for _, l := range []api.Log{logOf(base), logOf(base, kinds...), logOf(base, "", "\x02\xff\xff"), logOf(base, make([]string, 3000)...)} {
			log.Check(l)
			log.Copy(l)
			log.Last(l)
			for _, n := range append(numbers, base+1, base-1) {
				log.At(l, n)
				log.Put(l, n, l.Entries)
				log.Cut(l, n)
				for _, many := range []int{math.MinInt, -1, 0, 3, math.MaxInt} {
					log.Behind(l, n, many)
				}
			}
		}
	}
}
