package replica_test

import (
	"fmt"
	"slices"
	"strings"
	"testing"
	"unsafe"

	"tackroom/api"
	"tackroom/replica"
)

// What holds everywhere

// span of memory: where it begins, and how many bytes it has.
type span struct{ from, size uintptr }

func (a span) meets(b span) bool {
	return a.size > 0 && b.size > 0 && a.from < b.from+b.size && b.from < a.from+a.size
}

func textSpan(s string) span {
	return span{uintptr(unsafe.Pointer(unsafe.StringData(s))), uintptr(len(s))}
}

func listSpan[T any](l []T) span {
	var one T
	return span{uintptr(unsafe.Pointer(unsafe.SliceData(l))), uintptr(cap(l)) * unsafe.Sizeof(one)}
}

// textSpans of a list: it with all its spare room, and its texts.
func textSpans(l []string) []span {
	all := []span{listSpan(l)}
	for _, s := range l[:cap(l)] {
		all = append(all, textSpan(s))
	}
	return all
}

// spans of a replica: its lists and those within them, with all their spare room, and the texts.
func spans(r api.Replica) []span {
	s := r.State
	all := append(textSpans(r.Log.Entries), textSpan(r.Snap), listSpan(s.Locks), listSpan(s.Pairs), listSpan(s.Sessions))
	for _, x := range s.Locks[:cap(s.Locks)] {
		all = append(all, textSpan(x.Name), listSpan(x.Line))
	}
	for _, x := range s.Pairs[:cap(s.Pairs)] {
		all = append(all, textSpan(x.Name), textSpan(x.Value))
	}
	for _, x := range s.Sessions[:cap(s.Sessions)] {
		all = append(all, listSpan(x.Replies))
		for _, k := range x.Replies[:cap(x.Replies)] {
			all = append(all, textSpan(k.Reply.Text))
		}
	}
	return all
}

func mailSpans(l []api.Mail) []span {
	all := []span{listSpan(l)}
	for _, x := range l[:cap(l)] {
		all = append(all, textSpan(x.Reply.Text))
	}
	return all
}

// given: a replica, more entries and bytes of a snapshot. Every list has spare room, with something in it; the
// replica's entries and more of them lie in one list, all entries in one text, all lines in one list, all replies too.
type given struct {
	all  []string
	r    api.Replica
	more []string
	snap string
}

// Entries for a roomy state: they reply texts, too.
var (
	get    = call(6, 7, 3, 2, op(api.Get, "a"))
	again  = call(6, 7, 4, 2, op(api.Get, "c"))
	set    = call(2, 1, 2, 0, setOp("a", "new", 4))
	free   = call(2, 1, 3, 0, op(api.Free, "a"))
	joined = join(5)
)

// give a replica whose snapshot is of an index from 60 on, behind which two of four entries are applied.
func give(base int) given {
	text := strings.Clone(get + again + set + free + joined)
	var cuts []string
	for _, s := range []string{get, again, set, free, joined} {
		cuts = append(cuts, text[:len(s)])
		text = text[len(s):]
	}
	all := slices.Concat([]string{"ahead"}, cuts[:4], []string{"between", "more"}, cuts[3:], cuts[:1], []string{"behind", "end"})
	s := roomy(base + 2)
	return given{
		all:  all,
		r:    api.Replica{Log: api.Log{Base: base, Entries: all[1:5:6]}, Snap: bytesOf(busy(base)), State: s},
		more: all[7:10:11],
		snap: bytesOf(roomy(base + 3)),
	}
}

func roomy(index int) api.State {
	text := strings.Clone("abcdxyz")
	lines := []int{4, 6, 71, 72, 2, 6, 73, 74, 75, 76}
	var replies []api.Kept
	for i, seq := range []int{1, 4, 77, 78, 6, 79, 4, 80} {
		replies = append(replies, api.Kept{Seq: seq, Reply: api.Reply{N: i, Text: text[i%7 : i%7+1]}})
	}
	locks := []api.Lock{
		{Name: text[0:1], Holder: 2, Fence: 4, Line: lines[0:2]},
		{Name: text[1:2], Holder: 4, Fence: 5, Line: lines[4:6:7]},
		{Name: text[2:3], Holder: 0, Fence: 6, Line: lines[8:8:9]},
		{Name: text[3:4], Holder: 77, Fence: 78, Line: lines[9:10]},
	}
	pairs := []api.Pair{
		{Name: text[0:1], Value: text[4:6], Version: 2}, {Name: text[2:3], Value: text[5:7], Version: 3},
		{Name: text[3:4], Value: text[4:7], Version: 77},
	}
	sessions := []api.Session{
		{Client: 2, Id: 1, Last: index - 30, Replies: replies[0:2]},
		{Client: 4, Id: 6, Acked: 5, Last: index - 5, Replies: replies[4:5:6]},
		{Client: 6, Id: 7, Acked: 2, Last: index, Replies: replies[6:7]},
		{Client: 99, Id: 98, Acked: 97, Last: 96},
	}
	return api.State{Index: index, Locks: locks[:3], Pairs: pairs[:2], Sessions: sessions[:3]}
}

// whole: what was given, with all that lies in spare room.
func whole(g given) string {
	r := g.r
	s := r.State
	s.Locks, s.Pairs, s.Sessions = slices.Clone(s.Locks[:cap(s.Locks)]), s.Pairs[:cap(s.Pairs)], slices.Clone(s.Sessions[:cap(s.Sessions)])
	for i, x := range s.Locks {
		s.Locks[i].Line = x.Line[:cap(x.Line)]
	}
	for i, x := range s.Sessions {
		s.Sessions[i].Replies = x.Replies[:cap(x.Replies)]
	}
	r.State = s
	return fmt.Sprintf("%s, all %q, more %q, snap %q", show(r), g.all, g.more, g.snap)
}

// deeds: each call that answers a replica, in each of its ways.
var deeds = []struct {
	name string
	want api.Errno
	do   func(g given) (api.Replica, []api.Mail, api.Errno)
}{
	{"Copy", api.OK, func(g given) (api.Replica, []api.Mail, api.Errno) { return replica.Copy(g.r), nil, api.OK }},
	{"Check", api.OK, func(g given) (api.Replica, []api.Mail, api.Errno) { return api.Replica{}, nil, replica.Check(g.r) }},
	{"Hear at the end", api.OK, hear(4)},
	{"Hear of what stands there, and more", api.OK, hear(3)},
	{"Hear of others", api.OK, hear(2)},
	{"Hear of others than are applied", api.ErrState, hear(1)},
	{"Hear of such as are passed over", api.OK, hear(-5)},
	{"Hear with a gap", api.ErrGap, hear(5)},
	{"Hear of nothing", api.OK, func(g given) (api.Replica, []api.Mail, api.Errno) {
		r, e := replica.Hear(g.r, g.r.Log.Base+2, g.more[:0])
		return r, nil, e
	}},
	{"Apply of one", api.OK, apply(3)},
	{"Apply of all", api.OK, apply(4)},
	{"Apply up to more", api.OK, apply(9)},
	{"Apply of none", api.OK, apply(1)},
	{"Apply, refused", api.ErrRange, apply(api.MaxIndex)},
	{"Apply of what is told", api.OK, func(g given) (api.Replica, []api.Mail, api.Errno) {
		g.r.Log.Entries = slices.Concat(g.r.Log.Entries[:2], []string{get, again, call(2, 1, 3, 0, setOp("a", "new", 4)), get})
		return replica.Apply(g.r, api.MaxIndex)
	}},
	{"Compact", api.OK, func(g given) (api.Replica, []api.Mail, api.Errno) {
		r, e := replica.Compact(g.r)
		return r, nil, e
	}},
	{"Install", api.OK, install(func(g given) string { return g.snap })},
	{"Install behind the last one", api.OK, install(func(g given) string { return bytesOf(roomy(g.r.Log.Base + 9)) })},
	{"Install of what is old", api.ErrOld, install(func(g given) string { return g.r.Snap })},
	{"Install of what is none", api.ErrSum, install(func(g given) string { return g.snap[1:] })},
	{"Restart", api.OK, func(g given) (api.Replica, []api.Mail, api.Errno) {
		r, e := replica.Restart(g.r)
		return r, nil, e
	}},
	{"Restart without a snapshot", api.OK, func(g given) (api.Replica, []api.Mail, api.Errno) {
		g.r.Log.Base, g.r.Snap, g.r.State = 0, "", api.State{Index: 3}
		r, e := replica.Restart(g.r)
		return r, nil, e
	}},
}

func hear(at int) func(g given) (api.Replica, []api.Mail, api.Errno) {
	return func(g given) (api.Replica, []api.Mail, api.Errno) {
		r, e := replica.Hear(g.r, g.r.Log.Base+at, g.more)
		return r, nil, e
	}
}

func apply(at int) func(g given) (api.Replica, []api.Mail, api.Errno) {
	return func(g given) (api.Replica, []api.Mail, api.Errno) { return replica.Apply(g.r, g.r.Log.Base+at) }
}

func install(bytes func(g given) string) func(g given) (api.Replica, []api.Mail, api.Errno) {
	return func(g given) (api.Replica, []api.Mail, api.Errno) {
		r, e := replica.Install(g.r, bytes(g))
		return r, nil, e
	}
}

// tell what is answered.
func tell(r api.Replica, l []api.Mail, e api.Errno) string {
	return fmt.Sprintf("%s, %s, %d", show(r), showMails(l), e)
}

func TestWhatIsHandedInStays(t *testing.T) {
	for _, base := range []int{60, maxBase - 9} {
		for _, c := range deeds {
			g := give(base)
			if _, _, e := c.do(g); e != c.want {
				t.Errorf("%s tells %d; want %d", c.name, e, c.want)
			}
			if got, want := whole(g), whole(give(base)); got != want {
				t.Errorf("%s leaves\n%s of\n%s", c.name, got, want)
			}
		}
	}
}

func TestAnswersAreNewMemory(t *testing.T) {
	for _, c := range deeds {
		g := give(60)
		r, l, e := c.do(g)
		r2, l2, e2 := c.do(g)
		if tell(r, l, e) != tell(r2, l2, e2) {
			t.Errorf("%s: %s and then %s", c.name, tell(r, l, e), tell(r2, l2, e2))
		}
		others := slices.Concat(spans(g.r), textSpans(g.all), []span{textSpan(g.snap)}, spans(r2), mailSpans(l2))
		own := append(spans(r), mailSpans(l)...)
		for i, x := range own {
			if slices.ContainsFunc(others, x.meets) {
				t.Errorf("%s: an answer shares memory with what was handed in, or with another answer", c.name)
			}
			if slices.ContainsFunc(own[:i], x.meets) {
				t.Errorf("%s: two parts of an answer share memory", c.name)
			}
		}
	}
}

// TestNothingIsKept: a call answers the same, whatever was asked between.
func TestNothingIsKept(t *testing.T) {
	for _, c := range deeds {
		want := tell(c.do(give(60)))
		for _, x := range deeds {
			x.do(give(100))
			if got := tell(c.do(give(60))); got != want {
				t.Errorf("%s behind %s: %s; want %s", c.name, x.name, got, want)
			}
		}
	}
}

// Lists without elements may be handed in either way.
func TestListsWithoutElements(t *testing.T) {
	made := api.Replica{
		Log:   api.Log{Entries: []string{}},
		State: api.State{Locks: []api.Lock{}, Pairs: []api.Pair{}, Sessions: []api.Session{}},
	}
	for _, r := range []api.Replica{{}, made} {
		wantCheck(t, r, api.OK)
		wantHeard(t, r, 0, nil)
		wantHeard(t, r, 0, []string{})
		wantHeard(t, r, 0, told()[:1], join(1))
		wantApplied(t, r, 5, api.State{})
		wantNotCompact(t, r, api.ErrOld)
		wantInstall(t, r, busy(30))
		wantRestart(t, r, api.State{})
	}
}
