package pair_test

import (
	"fmt"
	"math"
	"slices"
	"strings"
	"testing"
	"unsafe"

	"tackroom/api"
	"tackroom/pair"
)

// of: a pair, written shortly.
func of(name, value string, version int) api.Pair {
	return api.Pair{Name: name, Value: value, Version: version}
}

// full: as many pairs as may be, b to f.
func full() []api.Pair {
	return []api.Pair{of("b", "1", 1), of("c", "2", 2), of("d", "3", 3), of("e", "4", 4), of("f", "5", 5)}
}

// show pairs, whether a list without elements is nil or not.
func show(l []api.Pair) string {
	var s strings.Builder
	for _, x := range l {
		fmt.Fprintf(&s, "{%q %q %d}", x.Name, x.Value, x.Version)
	}
	return s.String()
}

// tell a reply; its text may be bytes of any kind.
func tell(r api.Reply) string { return fmt.Sprintf("{%d %d %q}", r.Code, r.N, r.Text) }

// die: numbers that look drawn, the same each time.
type die uint64

func (d *die) roll(most int) int {
	*d = *d*6364136223846793005 + 1442695040888963407
	return int(uint64(*d>>33) % uint64(most))
}

// noNames: too short, too long, and the bytes next to a and z among others.
var noNames = []string{
	"", "abcdefg", strings.Repeat("a", 1000), "A", "Z", "`", "{", "aA", "Ab", "abcdeF", "a b", " a", "a ", "a1", "0",
	"a\x00", "\x00", "a\n", "é", "aé", "\xff", "a\xe1", "a-b", "ab_",
}

// names that may be: of each length, and of all letters.
var names = []string{"a", "z", "ab", "key", "lmno", "pqrst", "aaaaaa", "abcdef", "ghijkl", "uvwxyz", "zzzzzz"}

// values that may be: none, the longest ones, and bytes of any kind.
var values = []string{
	"", "x", " ", "\x00", "\xff", "\x00\xff\x80\n", "Value 1", strings.Repeat("v", api.MaxValue-1),
	strings.Repeat("v", api.MaxValue), strings.Repeat("\x00", api.MaxValue), strings.Repeat("é", api.MaxValue/2),
}

// noValues: too long, in bytes.
var noValues = []string{
	strings.Repeat("v", api.MaxValue+1), strings.Repeat("\x00", api.MaxValue+1), strings.Repeat("v", 100000),
	strings.Repeat("é", api.MaxValue/2+1), // in runes it would do
}

// noVersions: the edges first.
var noVersions = []int{0, api.MaxFence + 1, -1, -api.MaxFence, 1 << 32, 1<<32 + 1, math.MinInt, math.MaxInt}

func wantSet(t *testing.T, l []api.Pair, name, value string, want []api.Pair, reply api.Reply) {
	t.Helper()
	got, r, e := pair.Set(l, name, value)
	if show(got) != show(want) || r != reply || e != api.OK {
		t.Errorf("Set(%s, %q, %q) = %s, %s, %d; want %s, %s, 0", show(l), name, value, show(got), tell(r), e, show(want), tell(reply))
	}
}

// wantSetRefused: with nothing told but the error.
func wantSetRefused(t *testing.T, l []api.Pair, name, value string, want api.Errno) {
	t.Helper()
	if got, r, e := pair.Set(l, name, value); len(got) != 0 || r != (api.Reply{}) || e != want {
		t.Errorf("Set(%.80s, %q, %.20q) = %.80s, %s, %d; want nothing and %d", show(l), name, value, show(got), tell(r), e, want)
	}
}

func wantGet(t *testing.T, l []api.Pair, name string, reply api.Reply, want api.Errno) {
	t.Helper()
	if r, e := pair.Get(l, name); r != reply || e != want {
		t.Errorf("Get(%.80s, %q) = %s, %d; want %s, %d", show(l), name, tell(r), e, tell(reply), want)
	}
}

func wantCheck(t *testing.T, l []api.Pair, want api.Errno) {
	t.Helper()
	if e := pair.Check(l); e != want {
		t.Errorf("Check of %d pairs, %.80s = %d, want %d", len(l), show(l), e, want)
	}
}

// P3.1

// mayBe: lists of pairs that are as they must be.
var mayBe = [][]api.Pair{
	nil,
	{},
	{of("a", "", 1)},
	{of("a", "x", 1)},
	{of("abcdef", strings.Repeat("v", api.MaxValue), api.MaxFence)},
	{of("zzzzzz", "\x00", api.MaxFence)},
	{of("a", "x", 1), of("aa", "x", 1), of("ab", "x", 1), of("b", "x", 1)},
	{of("a", "x", 9), of("b", "", 1), of("c", "x", 9)},
	full(),
}

// long: a value that is too long by one byte.
var long = noValues[0]

// mayNotBe: lists of pairs, and what is wrong first.
var mayNotBe = []struct {
	l    []api.Pair
	want api.Errno
}{
	{append(full(), of("g", "6", 6)), api.ErrSize},
	{make([]api.Pair, api.MaxPairs+1), api.ErrSize},
	{make([]api.Pair, 100000), api.ErrSize},
	{[]api.Pair{{}}, api.ErrForm},
	{[]api.Pair{of("A", "x", 1)}, api.ErrForm},
	{[]api.Pair{of("abcdefg", "x", 1)}, api.ErrForm},
	{[]api.Pair{of("a", long, 1)}, api.ErrSize},
	{[]api.Pair{of("a", "x", 0)}, api.ErrRange},
	{[]api.Pair{of("a", "x", api.MaxFence+1)}, api.ErrRange},
	{[]api.Pair{of("a", "x", 1), of("a", "x", 1)}, api.ErrOrder},
	{[]api.Pair{of("a", "x", 1), of("a", "y", 2)}, api.ErrOrder},
	{[]api.Pair{of("b", "x", 1), of("a", "x", 1)}, api.ErrOrder},
	{[]api.Pair{of("ab", "x", 1), of("a", "x", 1)}, api.ErrOrder},
	{[]api.Pair{of("b", "x", 1), of("aa", "x", 1)}, api.ErrOrder},
	{[]api.Pair{of("a", "x", 1), of("c", "x", 1), of("b", "x", 1)}, api.ErrOrder},
	{[]api.Pair{of("a", "x", 1), of("b", "x", 1), of("a", "x", 1)}, api.ErrOrder},
	// several at once: what is named first
	{append(full(), of("", long, 0)), api.ErrSize},
	{append([]api.Pair{of("", "x", 1)}, full()...), api.ErrSize},
	{append([]api.Pair{of("a", "x", 0)}, full()...), api.ErrSize},
	{append(full(), of("a", "x", 1)), api.ErrSize},
	{[]api.Pair{of("", long, 0)}, api.ErrForm},
	{[]api.Pair{of("A", long, 1)}, api.ErrForm},
	{[]api.Pair{of("A", "x", 0)}, api.ErrForm},
	{[]api.Pair{of("a", long, 0)}, api.ErrSize},
	{[]api.Pair{of("b", "x", 1), of("A", "x", 1)}, api.ErrForm},
	{[]api.Pair{of("b", "x", 1), of("a", long, 1)}, api.ErrSize},
	{[]api.Pair{of("b", "x", 1), of("a", "x", 0)}, api.ErrRange},
	{[]api.Pair{of("b", "x", 1), of("a", long, 0)}, api.ErrSize},
	{[]api.Pair{of("b", "x", 1), of("", long, 0)}, api.ErrForm},
	// several pairs at once: one by one
	{[]api.Pair{of("a", long, 1), of("", "x", 1)}, api.ErrSize},
	{[]api.Pair{of("a", "x", 0), of("", "x", 1)}, api.ErrRange},
	{[]api.Pair{of("a", "x", 0), of("b", long, 1)}, api.ErrRange},
	{[]api.Pair{of("b", "x", 1), of("a", "x", 1), of("", "x", 1)}, api.ErrOrder},
	{[]api.Pair{of("b", "x", 1), of("a", "x", 1), of("c", long, 1)}, api.ErrOrder},
	{[]api.Pair{of("b", "x", 1), of("a", "x", 1), of("c", "x", 0)}, api.ErrOrder},
	{[]api.Pair{of("b", "x", 1), of("c", "x", 0), of("a", "x", 1)}, api.ErrRange},
	{[]api.Pair{of("b", "x", 1), of("c", long, 1), of("a", "x", 0)}, api.ErrSize},
}

func TestCheck(t *testing.T) {
	for _, l := range mayBe {
		wantCheck(t, l, api.OK)
	}
	for _, c := range mayNotBe {
		wantCheck(t, c.l, c.want)
	}
}

func TestCheckHowMany(t *testing.T) {
	var l []api.Pair
	for i := range 3 * api.MaxPairs {
		want := api.OK
		if len(l) > api.MaxPairs {
			want = api.ErrSize
		}
		wantCheck(t, l, want)
		l = append(l, of(string(rune('a'+i)), "x", 1))
	}
}

func TestCheckNamesValuesAndVersions(t *testing.T) {
	for _, s := range names {
		wantCheck(t, []api.Pair{of(s, "x", 1)}, api.OK)
	}
	for _, s := range noNames {
		wantCheck(t, []api.Pair{of(s, "x", 1)}, api.ErrForm)
	}
	for _, s := range values {
		wantCheck(t, []api.Pair{of("a", s, 1)}, api.OK)
	}
	for _, s := range noValues {
		wantCheck(t, []api.Pair{of("a", s, 1)}, api.ErrSize)
	}
	for _, n := range []int{1, 2, 1000, api.MaxFence - 1, api.MaxFence} {
		wantCheck(t, []api.Pair{of("a", "x", n)}, api.OK)
	}
	for _, n := range noVersions {
		wantCheck(t, []api.Pair{of("a", "x", n)}, api.ErrRange)
	}
}

func TestCheckEachPair(t *testing.T) {
	for at := range api.MaxPairs {
		for _, c := range []struct {
			spoil func(x *api.Pair)
			want  api.Errno
		}{
			{func(x *api.Pair) { x.Name += "Q" }, api.ErrForm},
			{func(x *api.Pair) { x.Value = long }, api.ErrSize},
			{func(x *api.Pair) { x.Version = 0 }, api.ErrRange},
			{func(x *api.Pair) { x.Version = api.MaxFence + 1 }, api.ErrRange},
		} {
			l := full()
			c.spoil(&l[at])
			wantCheck(t, l, c.want)
		}
		if l := full(); at > 0 {
			l[at].Name = l[at-1].Name
			wantCheck(t, l, api.ErrOrder)
			l[at].Name = "a"
			wantCheck(t, l, api.ErrOrder)
		}
	}
}

// P3.2

func TestSetNew(t *testing.T) {
	for _, name := range names {
		for _, value := range values {
			wantSet(t, nil, name, value, []api.Pair{of(name, value, 1)}, api.Reply{N: 1})
			wantSet(t, []api.Pair{}, name, value, []api.Pair{of(name, value, 1)}, api.Reply{N: 1})
		}
	}
}

func TestSetNewInOrder(t *testing.T) {
	l := []api.Pair{of("b", "x", 7), of("bb", "", 8), of("d", "z", api.MaxFence)}
	for _, c := range []struct {
		name string
		at   int
	}{
		{"a", 0}, {"aaaaaa", 0}, {"ba", 1}, {"bab", 1}, {"bba", 2}, {"c", 2}, {"da", 3}, {"z", 3},
	} {
		wantSet(t, l, c.name, "new", slices.Insert(slices.Clone(l), c.at, of(c.name, "new", 1)), api.Reply{N: 1})
	}
}

func TestSetNewWithoutRoom(t *testing.T) {
	wantSet(t, full()[:api.MaxPairs-1], "a", "x", append([]api.Pair{of("a", "x", 1)}, full()[:api.MaxPairs-1]...), api.Reply{N: 1})
	for _, name := range []string{"a", "bb", "cc", "g", "zzzzzz"} {
		for _, value := range values {
			wantSet(t, full(), name, value, full(), api.Reply{Code: api.ErrFull})
		}
	}
}

func TestSetWhatIsThere(t *testing.T) {
	for _, version := range []int{1, 2, 41, api.MaxFence - 2, api.MaxFence - 1} {
		for _, old := range values {
			for _, value := range values {
				l := []api.Pair{of("a", "1", 5), of("b", old, version), of("c", "3", 6)}
				want := []api.Pair{of("a", "1", 5), of("b", value, version+1), of("c", "3", 6)}
				wantSet(t, l, "b", value, want, api.Reply{N: version + 1})
			}
		}
	}
	// a pair that is there is set where there is no room for another one, too
	for at, x := range full() {
		want := full()
		want[at].Value, want[at].Version = "new", x.Version+1
		wantSet(t, full(), x.Name, "new", want, api.Reply{N: x.Version + 1})
	}
}

func TestSetWithoutVersion(t *testing.T) {
	for _, value := range values {
		l := []api.Pair{of("a", "1", 5), of("b", "old", api.MaxFence), of("c", "3", 6)}
		wantSet(t, l, "b", value, l, api.Reply{Code: api.ErrFull})
		full := full()
		full[2].Version = api.MaxFence
		wantSet(t, full, full[2].Name, value, full, api.Reply{Code: api.ErrFull})
		// the version of another one doesn't matter
		want := []api.Pair{of("a", value, 6), of("b", "old", api.MaxFence), of("c", "3", 6)}
		wantSet(t, l, "a", value, want, api.Reply{N: 6})
	}
}

func TestSetRefused(t *testing.T) {
	for _, c := range mayNotBe {
		wantSetRefused(t, c.l, "a", "x", c.want)
		// The name and the value are wrong as well: the pairs are named first.
		wantSetRefused(t, c.l, "", "x", c.want)
		wantSetRefused(t, c.l, "a", long, c.want)
		wantSetRefused(t, c.l, "", long, c.want)
	}
	for _, l := range append(mayBe, []api.Pair{of("a", "x", api.MaxFence)}) {
		for _, name := range noNames {
			wantSetRefused(t, l, name, "x", api.ErrForm)
			wantSetRefused(t, l, name, "", api.ErrForm)
			wantSetRefused(t, l, name, long, api.ErrForm)
		}
		for _, value := range noValues {
			wantSetRefused(t, l, "a", value, api.ErrSize)
			wantSetRefused(t, l, "new", value, api.ErrSize)
		}
	}
}

// P3.3

func TestGet(t *testing.T) {
	for _, value := range values {
		for _, version := range []int{1, 2, api.MaxFence - 1, api.MaxFence} {
			l := []api.Pair{of("a", "1", 5), of("b", value, version), of("c", "3", 6)}
			wantGet(t, l, "b", api.Reply{N: version, Text: value}, api.OK)
			wantGet(t, l[1:2], "b", api.Reply{N: version, Text: value}, api.OK)
		}
	}
	for _, x := range full() {
		wantGet(t, full(), x.Name, api.Reply{N: x.Version, Text: x.Value}, api.OK)
	}
	for _, name := range names {
		wantGet(t, []api.Pair{of(name, "x", 3)}, name, api.Reply{N: 3, Text: "x"}, api.OK)
	}
}

func TestGetNone(t *testing.T) {
	none := api.Reply{Code: api.ErrNone}
	l := []api.Pair{of("ab", "x", 1), of("b", "", 2), of("bcd", "y", 3)}
	// what can't be a name is that of no pair
	for _, name := range append([]string{"a", "aa", "abc", "ba", "bc", "bcda", "c", "zzzzzz"}, noNames...) {
		wantGet(t, l, name, none, api.OK)
		wantGet(t, full(), "a"+name, none, api.OK)
		wantGet(t, nil, name, none, api.OK)
		wantGet(t, []api.Pair{}, name, none, api.OK)
	}
}

func TestGetRefused(t *testing.T) {
	for _, c := range mayNotBe {
		wantGet(t, c.l, "a", api.Reply{}, c.want)
		wantGet(t, c.l, "b", api.Reply{}, c.want)
		wantGet(t, c.l, "zz", api.Reply{}, c.want)
		wantGet(t, c.l, "", api.Reply{}, c.want)
	}
}

// All of it, against a model that keeps the pairs by their names, in no order.

type model map[string]api.Pair

func (m model) pairs() []api.Pair {
	var l []api.Pair
	for _, x := range m {
		l = append(l, x)
	}
	slices.SortFunc(l, func(a, b api.Pair) int { return strings.Compare(a.Name, b.Name) })
	return l
}

func (m model) set(name, value string) api.Reply {
	x, there := m[name]
	if !there && len(m) == api.MaxPairs || x.Version == api.MaxFence {
		return api.Reply{Code: api.ErrFull}
	}
	m[name] = of(name, value, x.Version+1)
	return api.Reply{N: x.Version + 1}
}

func (m model) get(name string) api.Reply {
	x, there := m[name]
	if !there {
		return api.Reply{Code: api.ErrNone}
	}
	return api.Reply{N: x.Version, Text: x.Value}
}

func TestDrawnDeeds(t *testing.T) {
	drawn := []string{"a", "aa", "b", "bc", "c", "d", "zzzzzz"}
	d := die(7)
	for range 300 {
		m := model{}
		for _, name := range []string{"b", "d"} {
			m[name] = of(name, "", api.MaxFence-d.roll(9))
		}
		l := m.pairs()
		for range 40 {
			name, value := drawn[d.roll(len(drawn))], values[d.roll(len(values))]
			before := show(l)
			next, got, e := pair.Set(l, name, value)
			want := m.set(name, value)
			if show(next) != show(m.pairs()) || got != want || e != api.OK {
				t.Fatalf("Set(%s, %q, %q) = %s, %s, %d; want %s, %s, 0",
					before, name, value, show(next), tell(got), e, show(m.pairs()), tell(want))
			}
			if show(l) != before || pair.Check(next) != api.OK {
				t.Fatalf("%s is %s, and then %s", before, show(l), show(next))
			}
			for _, name := range drawn {
				wantGet(t, next, name, m.get(name), api.OK)
			}
			l = next
		}
	}
}

// What holds everywhere

// span of memory: where it begins, and how many bytes it has.
type span struct{ from, size uintptr }

func (a span) meets(b span) bool {
	return a.size > 0 && b.size > 0 && a.from < b.from+b.size && b.from < a.from+a.size
}

func textSpan(s string) span {
	return span{uintptr(unsafe.Pointer(unsafe.StringData(s))), uintptr(len(s))}
}

// spans of pairs: the list (with all its spare room), its names and its values.
func spans(l []api.Pair) []span {
	all := []span{{uintptr(unsafe.Pointer(unsafe.SliceData(l))), uintptr(cap(l)) * unsafe.Sizeof(api.Pair{})}}
	for _, x := range l[:cap(l)] {
		all = append(all, textSpan(x.Name), textSpan(x.Value))
	}
	return all
}

// roomy pairs: the list has spare room, with something in it, and the texts lie in one text.
func roomy() []api.Pair {
	text := "abcdxvalue"
	l := []api.Pair{
		of(text[0:1], text[5:7], 4),
		of(text[1:2], text[6:9], 5),
		of(text[2:3], text[:0], 6),
		of(text[3:4], text[9:10], api.MaxFence),
		of(text[4:5], text[5:10], 78),
	}
	return l[:4]
}

// sets: each way that Set goes.
var sets = []struct {
	what string
	l    []api.Pair
	name string
	many int
}{
	{"new", roomy(), "bb", 5},
	{"new, ahead of all", roomy(), "aa", 5},
	{"new, behind all", roomy(), "zz", 5},
	{"there", roomy(), "b", 4},
	{"no room", full(), "bb", 5},
	{"no version", roomy(), "d", 4},
	{"the first one", nil, "bb", 1},
}

func TestWhatIsHandedInStays(t *testing.T) {
	for _, c := range sets {
		want := show(c.l[:cap(c.l)])
		pair.Set(c.l, c.name, "new")
		pair.Set(c.l, c.name, long)
		pair.Check(c.l)
		pair.Get(c.l, c.name)
		if got := show(c.l[:cap(c.l)]); got != want {
			t.Errorf("%s: %s is left of %s", c.what, got, want)
		}
	}
}

func TestAnswersAreNewMemory(t *testing.T) {
	for _, c := range sets {
		name, value := strings.Clone(c.name), strings.Clone("new")
		first, _, _ := pair.Set(c.l, name, value)
		second, _, _ := pair.Set(c.l, name, value)
		if len(first) != c.many {
			t.Errorf("%s: Set answers %s", c.what, show(first))
		}
		others := append(append(spans(c.l[:cap(c.l)]), spans(second)...), textSpan(name), textSpan(value))
		own := spans(first)
		for i, a := range own {
			for _, b := range others {
				if a.meets(b) {
					t.Errorf("%s: an answer shares memory with what was handed in, or with another answer", c.what)
				}
			}
			for _, b := range own[:i] {
				if a.meets(b) {
					t.Errorf("%s: two parts of an answer share memory", c.what)
				}
			}
		}
	}
}

func TestValuesThatAreToldAreNewMemory(t *testing.T) {
	l := roomy()
	for _, x := range l {
		first, _ := pair.Get(l, x.Name)
		second, _ := pair.Get(l, x.Name)
		for _, b := range append(spans(l), textSpan(second.Text)) {
			if textSpan(first.Text).meets(b) {
				t.Errorf("Get of %q: the value shares memory with what was handed in, or with another answer", x.Name)
			}
		}
	}
}
