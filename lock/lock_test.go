package lock_test

import (
	"fmt"
	"math"
	"slices"
	"strings"
	"testing"
	"unsafe"

	"tackroom/api"
	"tackroom/lock"
)

// of: a lock, written shortly.
func of(name string, holder, fence int, line ...int) api.Lock {
	return api.Lock{Name: name, Holder: holder, Fence: fence, Line: line}
}

// full: as many locks as may be, b to f, all of client 9.
func full() []api.Lock {
	return []api.Lock{of("b", 9, 1), of("c", 9, 2), of("d", 9, 3), of("e", 9, 4), of("f", 9, 5)}
}

// show locks, whether a list without elements is nil or not.
func show(l []api.Lock) string {
	var s strings.Builder
	for _, x := range l {
		fmt.Fprintf(&s, "{%q %d %d %d}", x.Name, x.Holder, x.Fence, append([]int{}, x.Line...))
	}
	return s.String()
}

// die: numbers that look drawn, the same each time.
type die uint64

func (d *die) roll(most int) int {
	*d = *d*6364136223846793005 + 1442695040888963407
	return int(uint64(*d>>33) % uint64(most))
}

// noClients: the edges first.
var noClients = []int{0, api.MaxClient + 1, -1, -api.MaxClient, 1 << 32, math.MinInt, math.MaxInt}

// noNames: too short, too long, and the bytes next to a and z among others.
var noNames = []string{
	"", "abcdefg", strings.Repeat("a", 1000), "A", "Z", "`", "{", "aA", "Ab", "abcdeF", "a b", " a", "a ", "a1", "0",
	"a\x00", "\x00", "a\n", "é", "aé", "\xff", "a\xe1", "a-b", "ab_",
}

func wantTake(t *testing.T, l []api.Lock, name string, who int, wait bool, want []api.Lock, reply api.Reply) {
	t.Helper()
	got, r, e := lock.Take(l, name, who, wait)
	if show(got) != show(want) || r != reply || e != api.OK {
		t.Errorf("Take(%s, %q, %d, %t) = %s, %v, %d; want %s, %v, 0", show(l), name, who, wait, show(got), r, e, show(want), reply)
	}
}

func wantFree(t *testing.T, l []api.Lock, name string, who int, want []api.Lock, reply api.Reply) {
	t.Helper()
	got, r, e := lock.Free(l, name, who)
	if show(got) != show(want) || r != reply || e != api.OK {
		t.Errorf("Free(%s, %q, %d) = %s, %v, %d; want %s, %v, 0", show(l), name, who, show(got), r, e, show(want), reply)
	}
}

func wantGone(t *testing.T, l []api.Lock, who int, want []api.Lock) {
	t.Helper()
	if got, e := lock.Gone(l, who); show(got) != show(want) || e != api.OK {
		t.Errorf("Gone(%s, %d) = %s, %d; want %s, 0", show(l), who, show(got), e, show(want))
	}
}

func wantWho(t *testing.T, l []api.Lock, name string, holder, fence int, want api.Errno) {
	t.Helper()
	if h, f, e := lock.Who(l, name); h != holder || f != fence || e != want {
		t.Errorf("Who(%s, %q) = %d, %d, %d; want %d, %d, %d", show(l), name, h, f, e, holder, fence, want)
	}
}

// wantRefused: by Take and Free alike, with nothing told but the error.
func wantRefused(t *testing.T, l []api.Lock, name string, who int, want api.Errno) {
	t.Helper()
	for _, wait := range []bool{false, true} {
		if got, r, e := lock.Take(l, name, who, wait); len(got) != 0 || r != (api.Reply{}) || e != want {
			t.Errorf("Take(%s, %q, %d, %t) = %s, %v, %d; want nothing and %d", show(l), name, who, wait, show(got), r, e, want)
		}
	}
	if got, r, e := lock.Free(l, name, who); len(got) != 0 || r != (api.Reply{}) || e != want {
		t.Errorf("Free(%s, %q, %d) = %s, %v, %d; want nothing and %d", show(l), name, who, show(got), r, e, want)
	}
}

func wantGoneRefused(t *testing.T, l []api.Lock, who int, want api.Errno) {
	t.Helper()
	if got, e := lock.Gone(l, who); len(got) != 0 || e != want {
		t.Errorf("Gone(%s, %d) = %s, %d; want nothing and %d", show(l), who, show(got), e, want)
	}
}

// P2.1

func TestName(t *testing.T) {
	for _, s := range []string{"a", "z", "m", "az", "zz", "key", "aaaaaa", "abcdef", "uvwxyz", "zzzzzz"} {
		if !lock.Name(s) {
			t.Errorf("Name(%q) = false", s)
		}
	}
	for _, s := range noNames {
		if lock.Name(s) {
			t.Errorf("Name(%q) = true", s)
		}
	}
}

func TestNameOfEachByte(t *testing.T) {
	for b := range 256 {
		want := strings.ContainsRune("abcdefghijklmnopqrstuvwxyz", rune(b))
		for _, frame := range []string{"", "a", "abcde"} {
			for _, s := range []string{frame + string([]byte{byte(b)}), string([]byte{byte(b)}) + frame} {
				if lock.Name(s) != want {
					t.Errorf("Name(%q) = %t", s, !want)
				}
			}
		}
	}
}

func TestNameOfEachLength(t *testing.T) {
	for length := range 3 * api.MaxName {
		if want := length >= 1 && length <= api.MaxName; lock.Name(strings.Repeat("q", length)) != want {
			t.Errorf("Name of %d letters = %t", length, !want)
		}
	}
}

// P2.2

// mayBe: lists of locks that are as they must be.
var mayBe = [][]api.Lock{
	nil,
	{},
	{of("a", 0, 1)},
	{of("a", 1, 1)},
	{of("abcdef", api.MaxClient, api.MaxFence)},
	{of("zzzzzz", 0, api.MaxFence)},
	{of("a", 1, 1, 2)},
	{of("a", 1, 1, 9, 8, 7)},
	{of("a", 2, 7, 1, 3, 9)},
	{of("a", 0, 1), of("aa", 0, 1), of("ab", 0, 1), of("b", 0, 1)},
	{of("a", 3, 1, 4), of("b", 3, 1, 4), of("c", 4, 1, 3)},
	full(),
}

// mayNotBe: lists of locks, and what is wrong first.
var mayNotBe = []struct {
	l    []api.Lock
	want api.Errno
}{
	{append(full(), of("g", 0, 1)), api.ErrSize},
	{make([]api.Lock, api.MaxLocks+1), api.ErrSize},
	{make([]api.Lock, 100000), api.ErrSize},
	{[]api.Lock{of("a", -1, 1)}, api.ErrForm},
	{[]api.Lock{of("a", api.MaxClient+1, 1)}, api.ErrForm},
	{[]api.Lock{of("a", math.MinInt, 1)}, api.ErrForm},
	{[]api.Lock{of("a", math.MaxInt, 1)}, api.ErrForm},
	{[]api.Lock{of("a", 1, 1, 2, 3, 4, 5)}, api.ErrForm},
	{[]api.Lock{{Name: "a", Holder: 1, Fence: 1, Line: make([]int, 100000)}}, api.ErrForm},
	{[]api.Lock{of("a", 0, 1, 1)}, api.ErrForm},
	{[]api.Lock{of("a", 0, 1, 0)}, api.ErrForm},
	{[]api.Lock{of("a", 1, 1, 1)}, api.ErrForm},
	{[]api.Lock{of("a", 1, 1, 2, 3, 1)}, api.ErrForm},
	{[]api.Lock{of("a", 1, 1, 2, 2)}, api.ErrForm},
	{[]api.Lock{of("a", 1, 1, 2, 3, 2)}, api.ErrForm},
	{[]api.Lock{of("a", 1, 1, 3, 2, 2)}, api.ErrForm},
	{[]api.Lock{of("a", 1, 0)}, api.ErrRange},
	{[]api.Lock{of("a", 0, 0)}, api.ErrRange},
	{[]api.Lock{of("a", 1, -1)}, api.ErrRange},
	{[]api.Lock{of("a", 1, api.MaxFence+1)}, api.ErrRange},
	{[]api.Lock{of("a", 1, math.MinInt)}, api.ErrRange},
	{[]api.Lock{of("a", 1, math.MaxInt)}, api.ErrRange},
	{[]api.Lock{of("a", 1, 1), of("a", 1, 1)}, api.ErrOrder},
	{[]api.Lock{of("b", 1, 1), of("a", 1, 1)}, api.ErrOrder},
	{[]api.Lock{of("ab", 1, 1), of("a", 1, 1)}, api.ErrOrder},
	{[]api.Lock{of("b", 1, 1), of("aa", 1, 1)}, api.ErrOrder},
	{[]api.Lock{of("a", 1, 1), of("c", 1, 1), of("b", 1, 1)}, api.ErrOrder},
	{[]api.Lock{of("a", 1, 1), of("b", 1, 1), of("a", 1, 1)}, api.ErrOrder},
	// several at once: what is named first
	{append(full(), of("", -1, 0)), api.ErrSize},
	{append([]api.Lock{of("", 0, 1)}, full()...), api.ErrSize},
	{[]api.Lock{of("", 1, 0)}, api.ErrForm},
	{[]api.Lock{of("a", 10, 0)}, api.ErrForm},
	{[]api.Lock{of("a", 1, 0, 1)}, api.ErrForm},
	{[]api.Lock{of("b", 1, 1), of("a", 0, 1, 2)}, api.ErrForm},
	{[]api.Lock{of("b", 1, 1), of("a", 1, 0)}, api.ErrRange},
	{[]api.Lock{of("b", 1, 1), of("", 1, 0)}, api.ErrForm},
	// several locks at once: one by one
	{[]api.Lock{of("a", 1, 0), of("", 1, 1)}, api.ErrRange},
	{[]api.Lock{of("b", 1, 1), of("a", 1, 1), of("", 1, 1)}, api.ErrOrder},
	{[]api.Lock{of("b", 1, 1), of("a", 1, 1), of("c", 1, 0)}, api.ErrOrder},
	{[]api.Lock{of("b", 1, 1), of("c", 10, 1), of("a", 1, 0)}, api.ErrForm},
	{[]api.Lock{of("b", 1, 1), of("c", 1, 0), of("a", 10, 1)}, api.ErrRange},
}

func TestCheck(t *testing.T) {
	for _, l := range mayBe {
		if e := lock.Check(l); e != api.OK {
			t.Errorf("Check(%s) = %d, want 0", show(l), e)
		}
	}
	for _, c := range mayNotBe {
		if e := lock.Check(c.l); e != c.want {
			t.Errorf("Check of %d locks, %.80s = %d, want %d", len(c.l), show(c.l), e, c.want)
		}
	}
}

func TestCheckEachLock(t *testing.T) {
	for at := range api.MaxLocks {
		for _, c := range []struct {
			spoil func(x *api.Lock)
			want  api.Errno
		}{
			{func(x *api.Lock) { x.Name += "Q" }, api.ErrForm},
			{func(x *api.Lock) { x.Holder = 10 }, api.ErrForm},
			{func(x *api.Lock) { x.Line = []int{1, 2, 9} }, api.ErrForm},
			{func(x *api.Lock) { x.Holder, x.Line = 0, []int{1} }, api.ErrForm},
			{func(x *api.Lock) { x.Fence = 0 }, api.ErrRange},
			{func(x *api.Lock) { x.Fence = api.MaxFence + 1 }, api.ErrRange},
		} {
			l := full()
			c.spoil(&l[at])
			if e := lock.Check(l); e != c.want {
				t.Errorf("Check(%s) = %d, want %d", show(l), e, c.want)
			}
		}
		if l := full(); at > 0 {
			l[at].Name = l[at-1].Name
			if e := lock.Check(l); e != api.ErrOrder {
				t.Errorf("Check(%s) = %d, want %d", show(l), e, api.ErrOrder)
			}
		}
	}
}

func TestCheckNamesAndClients(t *testing.T) {
	for _, s := range noNames {
		if e := lock.Check([]api.Lock{of(s, 1, 1)}); e != api.ErrForm {
			t.Errorf("Check of a lock %q = %d, want %d", s, e, api.ErrForm)
		}
	}
	for _, n := range noClients {
		for at := range api.MaxWaiters {
			x := of("a", 4, 1, 1, 2, 3)
			x.Line[at] = n
			if e := lock.Check([]api.Lock{x}); e != api.ErrForm {
				t.Errorf("Check of the line %d = %d, want %d", x.Line, e, api.ErrForm)
			}
		}
	}
	for n := 1; n <= api.MaxClient; n++ {
		if e := lock.Check([]api.Lock{of("a", n, 1), of("b", n%api.MaxClient+1, 1, n)}); e != api.OK {
			t.Errorf("Check of locks of client %d = %d, want 0", n, e)
		}
	}
}

func TestCopy(t *testing.T) {
	for _, l := range mayBe {
		if got := lock.Copy(l); show(got) != show(l) {
			t.Errorf("Copy(%s) = %s", show(l), show(got))
		}
	}
	for _, c := range mayNotBe { // Copy refuses nothing
		if got := lock.Copy(c.l); show(got) != show(c.l) {
			t.Errorf("Copy(%.80s) = %.80s", show(c.l), show(got))
		}
	}
}

func TestRefused(t *testing.T) {
	for _, c := range mayNotBe {
		wantRefused(t, c.l, "a", 1, c.want)
		// The name and the client are wrong as well: the locks are named first.
		wantRefused(t, c.l, "", 0, c.want)
	}
	for _, l := range mayBe {
		for _, name := range noNames {
			wantRefused(t, l, name, 1, api.ErrForm)
			wantRefused(t, l, name, 0, api.ErrForm)
		}
		for _, who := range noClients {
			wantRefused(t, l, "a", who, api.ErrRange)
			wantRefused(t, l, "new", who, api.ErrRange)
		}
	}
}

// P2.3

func TestTakeNew(t *testing.T) {
	for who := 1; who <= api.MaxClient; who++ {
		for _, wait := range []bool{false, true} {
			wantTake(t, nil, "a", who, wait, []api.Lock{of("a", who, 1)}, api.Reply{N: 1})
			wantTake(t, []api.Lock{}, "zzzzzz", who, wait, []api.Lock{of("zzzzzz", who, 1)}, api.Reply{N: 1})
		}
	}
}

func TestTakeNewInOrder(t *testing.T) {
	l := []api.Lock{of("b", 2, 7, 3, 4), of("bb", 0, 8), of("d", 5, 9, 1)}
	for _, c := range []struct {
		name string
		at   int
	}{
		{"a", 0}, {"aaaaaa", 0}, {"ba", 1}, {"bab", 1}, {"bba", 2}, {"c", 2}, {"da", 3}, {"z", 3},
	} {
		wantTake(t, l, c.name, 6, false, slices.Insert(lock.Copy(l), c.at, of(c.name, 6, 1)), api.Reply{N: 1})
	}
}

func TestTakeNewWithoutRoom(t *testing.T) {
	wantTake(t, full()[:api.MaxLocks-1], "a", 1, true, append([]api.Lock{of("a", 1, 1)}, full()[:api.MaxLocks-1]...), api.Reply{N: 1})
	for _, name := range []string{"a", "cc", "g"} {
		for _, who := range []int{1, 9} {
			wantTake(t, full(), name, who, false, full(), api.Reply{Code: api.ErrFull})
			wantTake(t, full(), name, who, true, full(), api.Reply{Code: api.ErrFull})
		}
	}
}

func TestTakeWhatNobodyHas(t *testing.T) {
	for _, fence := range []int{1, 2, 41, api.MaxFence - 2, api.MaxFence - 1} {
		for _, wait := range []bool{false, true} {
			l := []api.Lock{of("a", 2, 5, 1), of("b", 0, fence), of("c", 0, 5)}
			want := []api.Lock{of("a", 2, 5, 1), of("b", 1, fence+1), of("c", 0, 5)}
			wantTake(t, l, "b", 1, wait, want, api.Reply{N: fence + 1})
		}
	}
	// a lock that is there is taken where there is no room for another one, too
	l := full()
	l[2] = of("d", 0, 3)
	want := full()
	want[2] = of("d", 1, 4)
	wantTake(t, l, "d", 1, false, want, api.Reply{N: 4})
}

func TestTakeWithoutFence(t *testing.T) {
	l := []api.Lock{of("a", 0, api.MaxFence)}
	wantTake(t, l, "a", 1, false, l, api.Reply{Code: api.ErrFull})
	wantTake(t, l, "a", 1, true, l, api.Reply{Code: api.ErrFull})
}

func TestTakeOnesOwn(t *testing.T) {
	for _, l := range [][]api.Lock{
		{of("a", 1, 1)},
		{of("a", 1, 7, 2, 3, 4)},
		{of("a", 1, api.MaxFence, 9)},
	} {
		wantTake(t, l, "a", 1, false, l, api.Reply{N: l[0].Fence})
		wantTake(t, l, "a", 1, true, l, api.Reply{N: l[0].Fence})
	}
}

func TestTakeWhatAnotherHas(t *testing.T) {
	held := api.Reply{Code: api.ErrHeld, N: 2}
	noRoom := api.Reply{Code: api.ErrFull}
	for _, c := range []struct {
		line, with []int
		reply      api.Reply
	}{
		{line: nil, with: []int{1}, reply: held},
		{line: []int{3}, with: []int{3, 1}, reply: held},
		{line: []int{9, 3}, with: []int{9, 3, 1}, reply: held},
		{line: []int{1}, with: []int{1}, reply: held},
		{line: []int{1, 3}, with: []int{1, 3}, reply: held},
		{line: []int{5, 4, 3}, with: []int{5, 4, 3}, reply: noRoom},
		// it stands in a line that is full: it needs no room
		{line: []int{1, 4, 3}, with: []int{1, 4, 3}, reply: held},
		{line: []int{5, 1, 3}, with: []int{5, 1, 3}, reply: held},
		{line: []int{5, 4, 1}, with: []int{5, 4, 1}, reply: held},
	} {
		for _, fence := range []int{1, 6, api.MaxFence} {
			l := []api.Lock{of("a", 1, 3), of("b", 2, fence, c.line...), of("c", 2, 4, 3)}
			want := []api.Lock{of("a", 1, 3), of("b", 2, fence, c.with...), of("c", 2, 4, 3)}
			wantTake(t, l, "b", 1, true, want, c.reply)
			wantTake(t, l, "b", 1, false, l, held)
		}
	}
}

// P2.4

func TestFreeGivesUp(t *testing.T) {
	for _, c := range []struct{ from, to api.Lock }{
		{of("b", 1, 1), of("b", 0, 1)},
		{of("b", 1, api.MaxFence), of("b", 0, api.MaxFence)},
		{of("b", 1, 1, 2), of("b", 2, 2)},
		{of("b", 1, 5, 9, 8), of("b", 9, 6, 8)},
		{of("b", 1, 5, 8, 9, 2), of("b", 8, 6, 9, 2)},
		{of("b", 1, api.MaxFence-1, 2, 3), of("b", 2, api.MaxFence, 3)},
		// no fence is left: those in line get nothing
		{of("b", 1, api.MaxFence, 2), of("b", 0, api.MaxFence)},
		{of("b", 1, api.MaxFence, 4, 3, 2), of("b", 0, api.MaxFence)},
	} {
		l := []api.Lock{of("a", 1, 3, 2), c.from, of("c", 2, 4, 1)}
		want := []api.Lock{of("a", 1, 3, 2), c.to, of("c", 2, 4, 1)}
		wantFree(t, l, "b", 1, want, api.Reply{N: c.to.Holder})
	}
}

func TestFreeLeavesTheLine(t *testing.T) {
	for _, c := range []struct{ from, to []int }{
		{[]int{1}, nil},
		{[]int{1, 3}, []int{3}},
		{[]int{3, 1}, []int{3}},
		{[]int{1, 4, 3}, []int{4, 3}},
		{[]int{4, 1, 3}, []int{4, 3}},
		{[]int{4, 3, 1}, []int{4, 3}},
	} {
		for _, fence := range []int{1, 6, api.MaxFence} {
			l := []api.Lock{of("a", 1, 3, 2), of("b", 2, fence, c.from...), of("c", 2, 4, 1)}
			want := []api.Lock{of("a", 1, 3, 2), of("b", 2, fence, c.to...), of("c", 2, 4, 1)}
			wantFree(t, l, "b", 1, want, api.Reply{N: 2})
		}
	}
}

func TestFreeNone(t *testing.T) {
	for _, l := range [][]api.Lock{nil, {}, {of("b", 1, 1)}, {of("aa", 1, 1), of("b", 2, 1, 1)}, full()} {
		wantFree(t, l, "a", 1, l, api.Reply{Code: api.ErrNone})
		wantFree(t, l, "zz", 9, l, api.Reply{Code: api.ErrNone})
	}
}

func TestFreeNeither(t *testing.T) {
	for _, x := range []api.Lock{
		of("b", 2, 1), of("b", 9, 5, 3), of("b", 3, 5, 4, 2, 9), of("b", 2, api.MaxFence, 4),
		// nobody has it
		of("b", 0, 1), of("b", 0, api.MaxFence),
	} {
		l := []api.Lock{of("a", 1, 3, 2), x, of("c", 2, 4, 1)}
		wantFree(t, l, "b", 1, l, api.Reply{Code: api.ErrHeld, N: x.Holder})
	}
}

// P2.5

func TestGone(t *testing.T) {
	for _, c := range []struct{ from, to []api.Lock }{
		{nil, nil},
		{[]api.Lock{}, nil},
		{[]api.Lock{of("a", 1, 1)}, []api.Lock{of("a", 0, 1)}},
		{[]api.Lock{of("a", 1, 1, 2, 3)}, []api.Lock{of("a", 2, 2, 3)}},
		{[]api.Lock{of("a", 1, api.MaxFence-1, 2, 3)}, []api.Lock{of("a", 2, api.MaxFence, 3)}},
		{[]api.Lock{of("a", 1, api.MaxFence, 2, 3)}, []api.Lock{of("a", 0, api.MaxFence)}},
		{[]api.Lock{of("a", 2, 4, 1)}, []api.Lock{of("a", 2, 4)}},
		{[]api.Lock{of("a", 2, api.MaxFence, 3, 1, 4)}, []api.Lock{of("a", 2, api.MaxFence, 3, 4)}},
		{
			[]api.Lock{of("a", 1, 1), of("b", 2, 3, 3, 1), of("c", 1, 5, 4), of("d", 0, 6), of("e", 1, 7, 4, 2)},
			[]api.Lock{of("a", 0, 1), of("b", 2, 3, 3), of("c", 4, 6), of("d", 0, 6), of("e", 4, 8, 2)},
		},
		{
			[]api.Lock{of("a", 2, 1, 1, 3, 4), of("b", 3, 1, 4, 1, 2), of("c", 4, 1, 2, 3, 1)},
			[]api.Lock{of("a", 2, 1, 3, 4), of("b", 3, 1, 4, 2), of("c", 4, 1, 2, 3)},
		},
		// who has nothing, and stands nowhere
		{full(), full()},
		{[]api.Lock{of("a", 0, 1), of("b", 2, 2, 3, 4, 5)}, []api.Lock{of("a", 0, 1), of("b", 2, 2, 3, 4, 5)}},
	} {
		wantGone(t, c.from, 1, c.to)
	}
	wantGone(t, full(), 9, []api.Lock{of("b", 0, 1), of("c", 0, 2), of("d", 0, 3), of("e", 0, 4), of("f", 0, 5)})
}

func TestGoneRefused(t *testing.T) {
	for _, c := range mayNotBe {
		wantGoneRefused(t, c.l, 1, c.want)
		wantGoneRefused(t, c.l, 0, c.want)
	}
	for _, l := range mayBe {
		for _, who := range noClients {
			wantGoneRefused(t, l, who, api.ErrRange)
		}
	}
}

// P2.6

func TestWho(t *testing.T) {
	l := []api.Lock{of("a", 2, 1, 1), of("ab", 0, 7), of("b", 9, api.MaxFence), of("c", 0, api.MaxFence), of("d", 1, 3, 4, 5, 6)}
	for _, c := range []struct {
		name          string
		holder, fence int
	}{
		{"a", 2, 1}, {"ab", 0, 0}, {"b", 9, api.MaxFence}, {"c", 0, 0}, {"d", 1, 3},
		{"aa", 0, 0}, {"abc", 0, 0}, {"z", 0, 0},
	} {
		wantWho(t, l, c.name, c.holder, c.fence, api.OK)
		wantWho(t, nil, c.name, 0, 0, api.OK)
		wantWho(t, []api.Lock{}, c.name, 0, 0, api.OK)
	}
	for _, name := range noNames { // what can't be a name is that of no lock
		wantWho(t, l, name, 0, 0, api.OK)
	}
}

func TestWhoRefused(t *testing.T) {
	for _, c := range mayNotBe {
		wantWho(t, c.l, "a", 0, 0, c.want)
		wantWho(t, c.l, "", 0, 0, c.want)
	}
}

// All of it, against a model that keeps each lock's queue as one list, its holder ahead.

type queue struct {
	fence int
	line  []int
}

type model map[string]queue

func (m model) locks() []api.Lock {
	var l []api.Lock
	for name, q := range m {
		x := of(name, 0, q.fence)
		if len(q.line) > 0 {
			x.Holder, x.Line = q.line[0], q.line[1:]
		}
		l = append(l, x)
	}
	slices.SortFunc(l, func(a, b api.Lock) int { return strings.Compare(a.Name, b.Name) })
	return l
}

func (m model) take(name string, who int, wait bool) api.Reply {
	q, there := m[name]
	at := slices.Index(q.line, who)
	if !there && len(m) == api.MaxLocks || len(q.line) == 0 && q.fence == api.MaxFence {
		return api.Reply{Code: api.ErrFull}
	}
	if len(q.line) == 0 {
		m[name] = queue{q.fence + 1, []int{who}}
		return api.Reply{N: q.fence + 1}
	}
	if at == 0 {
		return api.Reply{N: q.fence}
	}
	if wait && at < 0 && len(q.line) == 1+api.MaxWaiters {
		return api.Reply{Code: api.ErrFull}
	}
	if wait && at < 0 {
		m[name] = queue{q.fence, append(slices.Clone(q.line), who)}
	}
	return api.Reply{Code: api.ErrHeld, N: q.line[0]}
}

func (m model) free(name string, who int) api.Reply {
	q, there := m[name]
	if !there {
		return api.Reply{Code: api.ErrNone}
	}
	at := slices.Index(q.line, who)
	if at >= 0 {
		left := queue{q.fence, append(slices.Clone(q.line[:at]), q.line[at+1:]...)}
		if at == 0 && left.fence == api.MaxFence {
			left.line = nil
		}
		if at == 0 && len(left.line) > 0 {
			left.fence++
		}
		m[name] = left
	}
	reply := api.Reply{}
	if at < 0 {
		reply.Code = api.ErrHeld
	}
	if line := m[name].line; len(line) > 0 {
		reply.N = line[0]
	}
	return reply
}

func (m model) gone(who int) {
	for _, x := range m.locks() {
		m.free(x.Name, who)
	}
}

func TestDrawnDeeds(t *testing.T) {
	d := die(7)
	for range 300 {
		m := model{}
		for _, name := range []string{"b", "d"} {
			m[name] = queue{fence: api.MaxFence - d.roll(5)}
		}
		l := m.locks()
		for range 60 {
			name := []string{"a", "aa", "b", "bc", "c", "d", "zzzzzz"}[d.roll(7)]
			who, wait := 1+d.roll(api.MaxClient), d.roll(4) > 0
			before := show(l)
			var next []api.Lock
			var got, want api.Reply
			var e api.Errno
			deed := d.roll(10)
			switch {
			case deed < 6:
				next, got, e = lock.Take(l, name, who, wait)
				want = m.take(name, who, wait)
			case deed < 9:
				next, got, e = lock.Free(l, name, who)
				want = m.free(name, who)
			default:
				next, e = lock.Gone(l, who)
				m.gone(who)
			}
			if show(next) != show(m.locks()) || got != want || e != api.OK {
				t.Fatalf("deed %d of %d on %q (wait: %t): %s is %s, %v, %d; want %s, %v, 0",
					deed, who, name, wait, before, show(next), got, e, show(m.locks()), want)
			}
			if show(l) != before || lock.Check(next) != api.OK {
				t.Fatalf("%s is %s, and then %s", before, show(l), show(next))
			}
			l = next
		}
	}
}

// What holds everywhere

// span of memory: where it begins, and how many bytes it has.
type span struct{ from, size uintptr }

func (a span) meets(b span) bool {
	return a.size > 0 && b.size > 0 && a.from < b.from+b.size && b.from < a.from+a.size
}

func textSpan(s string) span {
	return span{uintptr(unsafe.Pointer(unsafe.StringData(s))), uintptr(len(s))}
}

// spans of locks: the list, its lines (with all their spare room) and its names.
func spans(l []api.Lock) []span {
	all := []span{{uintptr(unsafe.Pointer(unsafe.SliceData(l))), uintptr(cap(l)) * unsafe.Sizeof(api.Lock{})}}
	for _, x := range l[:cap(l)] {
		all = append(all, span{uintptr(unsafe.Pointer(unsafe.SliceData(x.Line))), uintptr(cap(x.Line)) * unsafe.Sizeof(0)}, textSpan(x.Name))
	}
	return all
}

// roomy locks: every list has spare room, with something in it, and lies in one array with the others.
func roomy() []api.Lock {
	lines := []int{2, 3, 71, 72, 1, 3, 73, 74, 75, 76}
	name := "abcdx"
	l := []api.Lock{
		{Name: name[0:1], Holder: 1, Fence: 4, Line: lines[0:2]},
		{Name: name[1:2], Holder: 2, Fence: 5, Line: lines[4:6]},
		{Name: name[2:3], Holder: 0, Fence: 6, Line: lines[8:8]},
		{Name: name[3:4], Holder: 1, Fence: 7},
		{Name: name[4:5], Holder: 77, Fence: 78, Line: lines[9:10]},
	}
	return l[:4]
}

// deeds: each call that answers locks, in each of its ways.
var deeds = []struct {
	name string
	do   func(l []api.Lock, name string) []api.Lock
}{
	{"Copy", func(l []api.Lock, _ string) []api.Lock { return lock.Copy(l) }},
	{"Take: new", func(l []api.Lock, name string) []api.Lock { m, _, _ := lock.Take(l, name, 1, true); return m }},
	{"Take: nobody's", func(l []api.Lock, _ string) []api.Lock { m, _, _ := lock.Take(l, "c", 1, true); return m }},
	{"Take: one's own", func(l []api.Lock, _ string) []api.Lock { m, _, _ := lock.Take(l, "a", 1, true); return m }},
	{"Take: in line", func(l []api.Lock, _ string) []api.Lock { m, _, _ := lock.Take(l, "a", 5, true); return m }},
	{"Take: held", func(l []api.Lock, _ string) []api.Lock { m, _, _ := lock.Take(l, "a", 5, false); return m }},
	{"Free: given up", func(l []api.Lock, _ string) []api.Lock { m, _, _ := lock.Free(l, "a", 1); return m }},
	{"Free: the line", func(l []api.Lock, _ string) []api.Lock { m, _, _ := lock.Free(l, "b", 1); return m }},
	{"Free: none", func(l []api.Lock, name string) []api.Lock { m, _, _ := lock.Free(l, name, 1); return m }},
	{"Free: neither", func(l []api.Lock, _ string) []api.Lock { m, _, _ := lock.Free(l, "b", 9); return m }},
	{"Gone", func(l []api.Lock, _ string) []api.Lock { m, _ := lock.Gone(l, 1); return m }},
	{"Gone: had nothing", func(l []api.Lock, _ string) []api.Lock { m, _ := lock.Gone(l, 9); return m }},
}

func TestWhatIsHandedInStays(t *testing.T) {
	want := show(roomy()[:5])
	wantLines := fmt.Sprint(roomy()[0].Line[:10])
	for _, c := range deeds {
		l := roomy()
		c.do(l, "bb")
		lock.Check(l)
		lock.Who(l, "a")
		if got := show(l[:5]); got != want {
			t.Errorf("%s leaves %s of %s", c.name, got, want)
		}
		if got := fmt.Sprint(l[0].Line[:10]); got != wantLines {
			t.Errorf("%s leaves the lines %s of %s", c.name, got, wantLines)
		}
	}
}

func TestAnswersAreNewMemory(t *testing.T) {
	for _, c := range deeds {
		l := roomy()
		name := strings.Clone("bb")
		first, second := c.do(l, name), c.do(l, name)
		if len(first) < len(l) {
			t.Errorf("%s answers %s", c.name, show(first))
		}
		others := append(append(spans(l[:5]), spans(second)...), textSpan(name))
		own := spans(first)
		for i, a := range own {
			for _, b := range others {
				if a.meets(b) {
					t.Errorf("%s: an answer shares memory with what was handed in, or with another answer", c.name)
				}
			}
			for _, b := range own[:i] {
				if a.meets(b) {
					t.Errorf("%s: two parts of an answer share memory", c.name)
				}
			}
		}
	}
}
