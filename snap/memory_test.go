package snap_test

import (
	"slices"
	"strings"
	"testing"
	"unsafe"

	"tackroom/api"
	"tackroom/snap"
)

// What holds everywhere

// span of memory: where it begins, and how many bytes it has.
type span struct{ from, size uintptr }

func (a span) meets(b span) bool {
	return a.size > 0 && b.size > 0 && a.from < b.from+b.size && b.from < a.from+a.size
}

func textSpan(s string) span {
	return span{uintptr(unsafe.Pointer(unsafe.StringData(s))), uintptr(len(s))}
}

func listSpan[T any](l []T) span {
	var one T
	return span{uintptr(unsafe.Pointer(unsafe.SliceData(l))), uintptr(cap(l)) * unsafe.Sizeof(one)}
}

// spans of a state: its lists and those within them, with all their spare room, and the texts.
func spans(s api.State) []span {
	all := []span{listSpan(s.Locks), listSpan(s.Pairs), listSpan(s.Sessions)}
	for _, x := range s.Locks[:cap(s.Locks)] {
		all = append(all, textSpan(x.Name), listSpan(x.Line))
	}
	for _, x := range s.Pairs[:cap(s.Pairs)] {
		all = append(all, textSpan(x.Name), textSpan(x.Value))
	}
	for _, x := range s.Sessions[:cap(s.Sessions)] {
		all = append(all, listSpan(x.Replies))
		for _, k := range x.Replies[:cap(x.Replies)] {
			all = append(all, textSpan(k.Reply.Text))
		}
	}
	return all
}

// roomy: a state of which every list has spare room, with something in it; all lines lie in one list, all replies in
// one, all texts in one.
func roomy() api.State {
	text := "abcdxyz"
	lines := []int{4, 6, 71, 72, 2, 6, 73, 74, 75, 76}
	var replies []api.Kept
	for i, seq := range []int{1, 3, 77, 78, 6, 79, 80} {
		replies = append(replies, kept(seq, api.OK, i, text[i:i+1]))
	}
	locks := []api.Lock{
		lockOf(text[0:1], 2, 4, lines[0:2]...), lockOf(text[1:2], 4, 5, lines[4:6:7]...), lockOf(text[2:3], 0, 6, lines[8:8:9]...),
		lockOf(text[3:4], 77, 78, lines[9:10]...),
	}
	pairs := []api.Pair{pairOf(text[0:1], text[4:6], 2), pairOf(text[2:3], text[5:7], 3), pairOf(text[3:4], text[4:7], 77)}
	sessions := []api.Session{
		sessionOf(2, 1, 0, 10, replies[0:2]...), sessionOf(4, 6, 5, 40, replies[4:5:6]...), sessionOf(6, 7, 2, 45, replies[6:6]...),
		sessionOf(99, 98, 97, 96),
	}
	return api.State{Index: 45, Locks: locks[:3], Pairs: pairs[:2], Sessions: sessions[:3]}
}

// whole: a state with all that lies in its spare room.
func whole(s api.State) string {
	s.Locks, s.Pairs, s.Sessions = slices.Clone(s.Locks[:cap(s.Locks)]), s.Pairs[:cap(s.Pairs)], slices.Clone(s.Sessions[:cap(s.Sessions)])
	for i, x := range s.Locks {
		s.Locks[i].Line = x.Line[:cap(x.Line)]
	}
	for i, x := range s.Sessions {
		s.Sessions[i].Replies = x.Replies[:cap(x.Replies)]
	}
	return show(s)
}

func TestEncodeLeavesTheState(t *testing.T) {
	s := roomy()
	b, e := snap.Encode(s)
	if want := sealed(join(parts(roomy()))); b != want || e != api.OK {
		t.Errorf("Encode(%s) = %q, %d; want %q, 0", show(s), b, e, want)
	}
	if whole(s) != whole(roomy()) {
		t.Errorf("Encode leaves\n%s of\n%s", whole(s), whole(roomy()))
	}
	s.Locks[2].Name = "A" // refused now
	before := whole(s)
	if snap.Encode(s); whole(s) != before {
		t.Errorf("Encode leaves\n%s of\n%s", whole(s), before)
	}
}

func TestDecodeLeavesTheBytes(t *testing.T) {
	for _, s := range append(mayBe(), roomy()) {
		for _, spoilt := range []string{"", "\x00", "\x80"} {
			want := sealed(join(parts(s)) + spoilt)
			bytes := []byte(want) // so that a write into the text would not end the test
			snap.Decode(unsafe.String(unsafe.SliceData(bytes), len(bytes)))
			if string(bytes) != want {
				t.Errorf("Decode leaves %q of %q", bytes, want)
			}
		}
	}
}

func TestBytesAreNewMemory(t *testing.T) {
	for _, s := range append(mayBe(), roomy()) {
		first, _ := snap.Encode(s)
		second, _ := snap.Encode(s)
		if first != second {
			t.Errorf("Encode(%s) = %q and then %q", show(s), first, second)
		}
		if slices.ContainsFunc(append(spans(s), textSpan(second)), textSpan(first).meets) {
			t.Errorf("Encode(%s): the bytes share memory with what was handed in, or with another answer", show(s))
		}
	}
}

func TestStatesAreNewMemory(t *testing.T) {
	for _, s := range append(mayBe(), roomy()) {
		b := strings.Clone(sealed(join(parts(s))))
		first, _ := snap.Decode(b)
		second, _ := snap.Decode(b)
		if show(first) != show(s) || show(second) != show(s) {
			t.Errorf("Decode(%q) = %s and then %s; want %s", b, show(first), show(second), show(s))
		}
		others, own := append(spans(second), textSpan(b)), spans(first)
		for i, x := range own {
			if slices.ContainsFunc(others, x.meets) {
				t.Errorf("Decode(%q): the state shares memory with what was handed in, or with another answer", b)
			}
			if slices.ContainsFunc(own[:i], x.meets) {
				t.Errorf("Decode(%q): two parts of the state share memory", b)
			}
		}
	}
}

// Lists without elements may be handed in either way.
func TestListsWithoutElements(t *testing.T) {
	bare := api.State{Index: 20, Locks: []api.Lock{{Name: "a", Holder: 1, Fence: 1}}, Sessions: []api.Session{{Client: 1, Id: 1, Last: 20}}}
	made := api.State{
		Index: 20, Locks: []api.Lock{{Name: "a", Holder: 1, Fence: 1, Line: []int{}}}, Pairs: []api.Pair{},
		Sessions: []api.Session{{Client: 1, Id: 1, Last: 20, Replies: []api.Kept{}}},
	}
	want := sealed("\x14\x01\x01a\x01\x01\x00\x00\x01\x01\x01\x00\x14\x00")
	wantEncode(t, bare, want)
	wantEncode(t, made, want)
	wantDecode(t, want, bare)
}
