package log_test

import (
	"fmt"
	"math"
	"slices"
	"strings"
	"testing"

	"tackroom/api"
	"tackroom/command"
	"tackroom/log"
)

// maxBase is the greatest Base that may be, as a number: what stands in package log is not asked.
const maxBase = 1<<30 - 400

// Entries of each kind that may be.
const (
	join  = "\x01\x03"
	leave = "\x03\x03"
	try   = "\x02\x03\x01\x01\x00\x01\x00\x01a\x00"
	line  = "\x02\x04\x02\x01\x00\x02\x00\x02ab\x00"
	free  = "\x02\x03\x01\x02\x01\x03\x00\x01a\x00"
	who   = "\x02\x09\x03\xac\x02\x00\x04\x00\x06abcdef\x00"
	set   = "\x02\x03\x01\x03\x02\x05\x07\x01a\x03x\x00\xff"
	get   = "\x02\x03\x80\x80\x80\x80\x04\x80\x80\x40\xff\xff\x3f\x06\x00\x01z\x00"
)

var kinds = []string{join, try, line, free, who, set, get, leave}

// refused: what is no entry, and what Decode says of it.
var refused = []struct {
	entry string
	e     api.Errno
}{
	{"", api.ErrShort},
	{"\x01", api.ErrShort},
	{"\x02\x03", api.ErrShort},
	{try[:len(try)-1], api.ErrShort},
	{join + "\x00", api.ErrForm},
	{try + "\x00", api.ErrForm},
	{"\x02\x03\x80\x00" + try[3:], api.ErrForm},
	{"\x02\x03\x01\x01\x00\x01\x00\x01A\x00", api.ErrForm},
	{"\x00\x03", api.ErrKind},
	{"\x04\x03", api.ErrKind},
	{"\x02\x03\x01\x01\x00\x07\x00\x01a\x00", api.ErrKind},
	{"\x01\x00", api.ErrRange},
	{"\x03\x0a", api.ErrRange},
	{"\x02\x03\x00" + try[3:], api.ErrRange},
	{"\x02\x03\x01\x01\x01" + try[5:], api.ErrRange},
	{strings.Repeat("\x01", api.MaxBytes+1), api.ErrSize},
	{"\x02\x03\x01\x01\x00\x01\x00\x89\x27", api.ErrSize},
	{"\x02\x03\x01\x03\x02\x05\x07\x01a\x0d" + strings.Repeat("x", 13), api.ErrSize},
}

// outside: numbers that wrap round if one is added to them or taken from them, and such as look like others in fewer bits.
var outside = []int{math.MinInt, math.MinInt + 1, math.MinInt32, math.MaxInt - 1, math.MaxInt, 1 << 32, 1<<32 + 6, 1 << 62}

// show a log; its entries are bytes of any kind.
func show(l api.Log) string {
	if len(l.Entries) > 20 {
		return fmt.Sprintf("%d, %d entries from %.60q to %.60q", l.Base, len(l.Entries), l.Entries[0], l.Entries[len(l.Entries)-1])
	}
	return fmt.Sprintf("%d %.60q", l.Base, l.Entries)
}

func same(a, b api.Log) bool { return a.Base == b.Base && slices.Equal(a.Entries, b.Entries) }

func logOf(base int, entries ...string) api.Log { return api.Log{Base: base, Entries: entries} }

// numbered: so many entries, no two of which are alike.
func numbered(many int) []string { return numberedFrom(1, many) }

// numberedFrom: so many entries, as numbered has them from one of them on.
func numberedFrom(first, many int) []string {
	var l []string
	for seq := first; seq < first+many; seq++ {
		c := api.Command{Kind: api.Call, Client: 1, Session: 1, Seq: seq, Op: api.Op{Kind: api.Get, A: "a"}}
		s, _ := command.Encode(c)
		l = append(l, s)
	}
	return l
}

// mayBe: with few entries and as many as may be, and with each Base that is an edge.
func mayBe() []api.Log {
	var all []api.Log
	for _, base := range []int{0, 1, 5, 1000, maxBase - 1, maxBase} {
		all = append(all,
			logOf(base), api.Log{Base: base, Entries: []string{}}, logOf(base, join), logOf(base, try, try), logOf(base, kinds...),
			logOf(base, numbered(api.MaxEntries-1)...), logOf(base, numbered(api.MaxEntries)...))
	}
	return all
}

// wrongLog: a log that may not be, and what is told of it.
type wrongLog struct {
	l api.Log
	e api.Errno
}

// replaced: the list with another entry at a place.
func replaced(l []string, at int, entry string) []string {
	l = slices.Clone(l)
	l[at] = entry
	return l
}

// wrongLogs: what is wrong with the Base goes ahead of what is with the number of entries, and that ahead of these.
func wrongLogs() []wrongLog {
	var all []wrongLog
	for _, base := range append([]int{-1, maxBase + 1, api.MaxIndex, api.MaxIndex + 1}, outside...) {
		all = append(all,
			wrongLog{logOf(base), api.ErrRange}, wrongLog{logOf(base, kinds...), api.ErrRange},
			wrongLog{logOf(base, ""), api.ErrRange}, wrongLog{logOf(base, numbered(401)...), api.ErrRange})
	}
	for _, base := range []int{0, 1, 7, maxBase} {
		all = append(all,
			wrongLog{logOf(base, numbered(401)...), api.ErrSize}, wrongLog{logOf(base, numbered(1000)...), api.ErrSize},
			wrongLog{logOf(base, make([]string, 401)...), api.ErrSize},
			wrongLog{logOf(base, replaced(numbered(400), 399, "\x00\x00")...), api.ErrKind})
		for _, x := range refused {
			for at := range kinds {
				all = append(all, wrongLog{logOf(base, replaced(kinds, at, x.entry)...), x.e})
			}
			for _, y := range refused {
				all = append(all, wrongLog{logOf(base, join, x.entry, y.entry, join), x.e})
			}
		}
	}
	return all
}

// P8.1

func TestCheck(t *testing.T) {
	for _, l := range mayBe() {
		if e := log.Check(l); e != api.OK {
			t.Errorf("Check(%s) = %d; want 0", show(l), e)
		}
	}
}

func TestCheckRefuses(t *testing.T) {
	for _, x := range wrongLogs() {
		if e := log.Check(x.l); e != x.e {
			t.Errorf("Check(%s) = %d; want %d", show(x.l), e, x.e)
		}
	}
}

// TestEntriesStandAlone: entries are looked at one by one, so one may ask what no machine would do.
func TestEntriesStandAlone(t *testing.T) {
	for _, l := range [][]string{{leave}, {get, try, join, join}, {leave, leave, set, set}} {
		if e := log.Check(api.Log{Entries: l}); e != api.OK {
			t.Errorf("Check(%q) = %d; want 0", l, e)
		}
	}
}

// TestCopy: of logs that may not be, too.
func TestCopy(t *testing.T) {
	all := mayBe()
	for _, x := range wrongLogs() {
		all = append(all, x.l)
	}
	for _, l := range all {
		if got := log.Copy(l); !same(got, l) {
			t.Errorf("Copy(%s) = %s", show(l), show(got))
		}
	}
}

// TestAllRefuseWhatCheckRefuses: ahead of all else, whether what else is handed in would do or not.
func TestAllRefuseWhatCheckRefuses(t *testing.T) {
	mores := [][]string{nil, {join}, {""}, numbered(401)}
	for _, x := range wrongLogs() {
		for _, n := range []int{-1, 0, x.l.Base, x.l.Base + 1, log.Last(x.l), log.Last(x.l) + 1, api.MaxIndex + 1, math.MinInt, math.MaxInt} {
			wantNotAt(t, x.l, n, x.e)
			for _, more := range mores {
				wantNotPut(t, x.l, n, more, x.e)
			}
			for _, many := range []int{-1, 0, 1, math.MaxInt} {
				wantNotBehind(t, x.l, n, many, x.e)
			}
			wantNotCut(t, x.l, n, x.e)
		}
	}
}

// P8.2

func wantAt(t *testing.T, l api.Log, index int, want string) {
	t.Helper()
	if got, e := log.At(l, index); got != want || e != api.OK {
		t.Errorf("At(%s, %d) = %q, %d; want %q, 0", show(l), index, got, e, want)
	}
}

func wantNotAt(t *testing.T, l api.Log, index int, want api.Errno) {
	t.Helper()
	if got, e := log.At(l, index); got != "" || e != want {
		t.Errorf("At(%s, %d) = %q, %d; want nothing and %d", show(l), index, got, e, want)
	}
}

func TestLast(t *testing.T) {
	for _, x := range []struct {
		l    api.Log
		want int
	}{
		{api.Log{}, 0},
		{api.Log{Entries: []string{}}, 0},
		{logOf(3), 3},
		{logOf(maxBase), maxBase},
		{logOf(0, join), 1},
		{logOf(0, kinds...), 8},
		{logOf(7, join, join), 9},
		{logOf(0, numbered(400)...), 400},
		{logOf(maxBase, numbered(400)...), api.MaxIndex},
	} {
		if got := log.Last(x.l); got != x.want {
			t.Errorf("Last(%s) = %d; want %d", show(x.l), got, x.want)
		}
	}
}

// TestLastEnds: of a log that may not be nothing is said but that.
func TestLastEnds(t *testing.T) {
	for _, x := range wrongLogs() {
		log.Last(x.l)
	}
}

func TestAt(t *testing.T) {
	for _, l := range mayBe() {
		for i, entry := range l.Entries {
			wantAt(t, l, l.Base+1+i, entry)
		}
	}
	wantAt(t, logOf(0, join, try), 1, join)
	wantAt(t, logOf(0, join, try), 2, try)
	wantAt(t, logOf(5, join, try), 6, join)
	wantAt(t, logOf(maxBase, numbered(400)...), api.MaxIndex, numberedFrom(400, 1)[0])
}

func TestAtNone(t *testing.T) {
	for _, l := range mayBe() {
		last := l.Base + len(l.Entries)
		for _, index := range append([]int{-1, l.Base - 1, l.Base, last + 1, last + 2, last + 400, -last}, outside...) {
			wantNotAt(t, l, index, api.ErrNone)
		}
	}
	wantNotAt(t, api.Log{}, 0, api.ErrNone)
	wantNotAt(t, api.Log{}, 1, api.ErrNone)
	wantNotAt(t, logOf(5, kinds...), 1, api.ErrNone)
}
