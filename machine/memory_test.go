package machine_test

import (
	"slices"
	"strings"
	"testing"
	"unsafe"

	"tackroom/api"
	"tackroom/machine"
)

// What holds everywhere

// span of memory: where it begins, and how many bytes it has.
type span struct{ from, size uintptr }

func (a span) meets(b span) bool {
	return a.size > 0 && b.size > 0 && a.from < b.from+b.size && b.from < a.from+a.size
}

func textSpan(s string) span {
	return span{uintptr(unsafe.Pointer(unsafe.StringData(s))), uintptr(len(s))}
}

func listSpan[T any](l []T) span {
	var one T
	return span{uintptr(unsafe.Pointer(unsafe.SliceData(l))), uintptr(cap(l)) * unsafe.Sizeof(one)}
}

// spans of a state: its lists and those within them, with all their spare room, and the texts.
func spans(s api.State) []span {
	all := []span{listSpan(s.Locks), listSpan(s.Pairs), listSpan(s.Sessions)}
	for _, x := range s.Locks[:cap(s.Locks)] {
		all = append(all, textSpan(x.Name), listSpan(x.Line))
	}
	for _, x := range s.Pairs[:cap(s.Pairs)] {
		all = append(all, textSpan(x.Name), textSpan(x.Value))
	}
	for _, x := range s.Sessions[:cap(s.Sessions)] {
		all = append(all, listSpan(x.Replies))
		for _, k := range x.Replies[:cap(x.Replies)] {
			all = append(all, textSpan(k.Reply.Text))
		}
	}
	return all
}

// roomy: a state at an Index from 45 on: every list has spare room, with something in it; all lines lie in one list,
// all replies in one, all texts in one. From the Index 50 on client 2 is idle.
func roomy(index int) api.State {
	text := "abcdxyz"
	lines := []int{4, 6, 71, 72, 2, 6, 73, 74, 75, 76}
	var replies []api.Kept
	for i, seq := range []int{1, 3, 77, 78, 6, 79, 80} {
		replies = append(replies, kept(seq, api.OK, i, text[i:i+1]))
	}
	locks := []api.Lock{
		{Name: text[0:1], Holder: 2, Fence: 4, Line: lines[0:2]},
		{Name: text[1:2], Holder: 4, Fence: 5, Line: lines[4:6:7]},
		{Name: text[2:3], Holder: 0, Fence: 6, Line: lines[8:8:9]},
		{Name: text[3:4], Holder: 77, Fence: 78, Line: lines[9:10]},
	}
	pairs := []api.Pair{pairOf(text[0:1], text[4:6], 2), pairOf(text[2:3], text[5:7], 3), pairOf(text[3:4], text[4:7], 77)}
	sessions := []api.Session{
		sessionOf(2, 1, 0, 10, replies[0:2]...), sessionOf(4, 6, 5, 40, replies[4:5:6]...), sessionOf(6, 7, 2, 45, replies[6:6]...),
		sessionOf(99, 98, 97, 96),
	}
	return api.State{Index: index, Locks: locks[:3], Pairs: pairs[:2], Sessions: sessions[:3]}
}

// whole: a state with all that lies in its spare room.
func whole(s api.State) string {
	s.Locks, s.Pairs, s.Sessions = slices.Clone(s.Locks[:cap(s.Locks)]), s.Pairs[:cap(s.Pairs)], slices.Clone(s.Sessions[:cap(s.Sessions)])
	for i, x := range s.Locks {
		s.Locks[i].Line = x.Line[:cap(x.Line)]
	}
	for i, x := range s.Sessions {
		s.Sessions[i].Replies = x.Replies[:cap(x.Replies)]
	}
	return show(s)
}

// deed: Copy of a roomy state, or what an entry makes of it.
type deed struct {
	name  string
	index int
	entry string
}

const justCopy = "Copy"

func (c deed) do(s api.State, entry string) (api.State, api.Reply, api.Errno) {
	if c.name == justCopy {
		return machine.Copy(s), api.Reply{}, api.OK
	}
	return machine.Apply(s, entry)
}

// deeds: each call that answers a state, in each of its ways.
func deeds() []deed {
	return []deed{
		{justCopy, 45, ""},
		{"Join", 45, join(5)},
		{"Join: twice", 45, join(4)},
		{"Join: of one that is idle", 50, join(2)},
		{"Leave", 45, leave(2)},
		{"Leave: away", 45, leave(9)},
		{"Leave: another one is idle", 50, leave(4)},
		{"Call: away", 45, call(9, 9, 1, 0, op(api.Get, "a"))},
		{"Call: old", 45, call(4, 6, 5, 4, op(api.Get, "a"))},
		{"Call: kept", 45, call(4, 6, 6, 5, op(api.Get, "a"))},
		{"Call: too high", 45, call(4, 6, 20, 5, op(api.Get, "a"))},
		{"Call: another one is idle", 50, call(4, 6, 7, 6, op(api.Who, "a"))},
		{"Try: new", 45, call(6, 7, 3, 2, op(api.Try, "bb"))},
		{"Try: nobody's", 45, call(6, 7, 3, 2, op(api.Try, "c"))},
		{"Try: held", 45, call(6, 7, 3, 2, op(api.Try, "b"))},
		{"Line: its own", 45, call(4, 6, 7, 5, op(api.Line, "b"))},
		{"Line: held", 45, call(6, 7, 3, 2, op(api.Line, "a"))},
		{"Free: its own", 45, call(2, 1, 2, 0, op(api.Free, "a"))},
		{"Free: the line", 45, call(6, 7, 3, 2, op(api.Free, "b"))},
		{"Free: neither", 45, call(6, 7, 3, 2, op(api.Free, "c"))},
		{"Who", 45, call(6, 7, 3, 2, op(api.Who, "b"))},
		{"Get", 45, call(6, 7, 3, 2, op(api.Get, "a"))},
		{"Get: none", 45, call(6, 7, 3, 2, op(api.Get, "b"))},
		{"Set: new", 45, call(4, 6, 7, 5, setOp("b", "new", 5))},
		{"Set: there", 45, call(2, 1, 2, 0, setOp("a", "new", 4))},
		{"Set: not its own", 45, call(6, 7, 3, 2, setOp("b", "new", 5))},
	}
}

func TestWhatIsHandedInStays(t *testing.T) {
	for _, c := range deeds() {
		s := roomy(c.index)
		if _, _, e := c.do(s, c.entry); e != api.OK {
			t.Errorf("%s is refused: %d", c.name, e)
		}
		machine.Check(s)
		if got, want := whole(s), whole(roomy(c.index)); got != want {
			t.Errorf("%s leaves\n%s of\n%s", c.name, got, want)
		}
	}
	for _, x := range noEntries {
		s := roomy(45)
		machine.Apply(s, x.s)
		if whole(s) != whole(roomy(45)) {
			t.Errorf("an Apply that is refused leaves\n%s of\n%s", whole(s), whole(roomy(45)))
		}
	}
}

func TestAnswersAreNewMemory(t *testing.T) {
	for _, c := range deeds() {
		s, entry := roomy(c.index), strings.Clone(c.entry)
		first, reply, _ := c.do(s, entry)
		second, other, _ := c.do(s, entry)
		if show(first) != show(second) || reply != other {
			t.Errorf("%s answers %s, %s and then %s, %s", c.name, show(first), tell(reply), show(second), tell(other))
		}
		others := append(append(spans(s), spans(second)...), textSpan(entry), textSpan(other.Text))
		own := append(spans(first), textSpan(reply.Text))
		for i, a := range own {
			if slices.ContainsFunc(others, a.meets) {
				t.Errorf("%s: an answer shares memory with what was handed in, or with another answer", c.name)
			}
			if slices.ContainsFunc(own[:i], a.meets) {
				t.Errorf("%s: two parts of an answer share memory", c.name)
			}
		}
	}
}

// Lists without elements may be handed in either way.
func TestListsWithoutElements(t *testing.T) {
	bare := api.State{Index: 20, Locks: []api.Lock{{Name: "a", Holder: 1, Fence: 1}}, Sessions: []api.Session{{Client: 1, Id: 1, Last: 20}}}
	made := api.State{
		Index: 20, Locks: []api.Lock{{Name: "a", Holder: 1, Fence: 1, Line: []int{}}}, Pairs: []api.Pair{},
		Sessions: []api.Session{{Client: 1, Id: 1, Last: 20, Replies: []api.Kept{}}},
	}
	for _, x := range []string{join(1), join(2), leave(1), call(1, 1, 1, 0, setOp("a", "x", 1)), call(1, 1, 1, 0, op(api.Get, "a"))} {
		first, r, e := machine.Apply(bare, x)
		second, other, f := machine.Apply(made, x)
		if show(first) != show(second) || r != other || e != api.OK || f != api.OK {
			t.Errorf("Apply of %q: %s, %s, %d and %s, %s, %d", x, show(first), tell(r), e, show(second), tell(other), f)
		}
	}
}
