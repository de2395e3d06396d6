package snap_test

import (
	"encoding/binary"
	"fmt"
	"hash/adler32"
	"math"
	"strings"
	"testing"

	"tackroom/api"
	"tackroom/snap"
)

func lockOf(name string, holder, fence int, line ...int) api.Lock {
	return api.Lock{Name: name, Holder: holder, Fence: fence, Line: line}
}

func pairOf(name, value string, version int) api.Pair {
	return api.Pair{Name: name, Value: value, Version: version}
}

func sessionOf(client, id, acked, last int, replies ...api.Kept) api.Session {
	return api.Session{Client: client, Id: id, Acked: acked, Last: last, Replies: replies}
}

func kept(seq int, code api.Errno, n int, text string) api.Kept {
	return api.Kept{Seq: seq, Reply: api.Reply{Code: code, N: n, Text: text}}
}

// busy: a state with something of each kind, and two of each list at least.
func busy() api.State {
	return api.State{
		Index: 300,
		Locks: []api.Lock{lockOf("a", 2, 3, 4, 6), lockOf("bcd", 4, 700), lockOf("c", 0, 128), lockOf("dd", 6, api.MaxFence, 2)},
		Pairs: []api.Pair{pairOf("a", "xyz", 2), pairOf("cc", "", 1), pairOf("e", "\xff\x00", api.MaxFence)},
		Sessions: []api.Session{
			sessionOf(2, 1, 0, 291, kept(1, api.OK, 3, ""), kept(3, api.ErrHeld, 4, "")),
			sessionOf(4, 6, 200, 294),
			sessionOf(6, 7, 2, 300, kept(4, api.ErrSum, 1000, "x\x80")),
		},
	}
}

// full: a state with as much as may be, and no number above it.
func full() api.State {
	s := api.State{Index: api.MaxIndex}
	for i, name := range []string{"bbbbbb", "dddddd", "ffffff", "hhhhhh", "zzzzzz"} {
		s.Locks = append(s.Locks, lockOf(name, 2, api.MaxFence-i, 4, 6, 8))
		s.Pairs = append(s.Pairs, pairOf(name, strings.Repeat("v", api.MaxValue), api.MaxFence-10-i))
	}
	for _, client := range []int{2, 4, 6, 9} {
		x := sessionOf(client, api.MaxIndex-client, api.MaxSeq, api.MaxIndex)
		for i := range api.Window {
			x.Replies = append(x.Replies, kept(x.Acked+1+i, api.ErrSum, api.MaxFence-20-i, strings.Repeat("t", api.MaxValue)))
		}
		s.Sessions = append(s.Sessions, x)
	}
	return s
}

// show a state, whether a list without elements is nil or not.
func show(s api.State) string {
	var b strings.Builder
	fmt.Fprintf(&b, "%d", s.Index)
	for _, x := range s.Locks {
		fmt.Fprintf(&b, " lock{%q %d %d %d}", x.Name, x.Holder, x.Fence, x.Line)
	}
	for _, x := range s.Pairs {
		fmt.Fprintf(&b, " pair{%q %q %d}", x.Name, x.Value, x.Version)
	}
	for _, x := range s.Sessions {
		fmt.Fprintf(&b, " session{%d %d %d %d", x.Client, x.Id, x.Acked, x.Last)
		for _, k := range x.Replies {
			fmt.Fprintf(&b, " %d:{%d %d %q}", k.Seq, k.Reply.Code, k.Reply.N, k.Reply.Text)
		}
		b.WriteString("}")
	}
	return b.String()
}

// die: numbers that look drawn, the same each time.
type die uint64

func (d *die) roll(most int) int {
	*d = *d*6364136223846793005 + 1442695040888963407
	return int(uint64(*d>>33) % uint64(most))
}

// sealed bytes, by the library's own sum.
func sealed(body string) string {
	return body + string(binary.BigEndian.AppendUint32(nil, adler32.Checksum([]byte(body))))
}

// part of a state's bytes: a number, a text, or how many elements a list has.
type part struct {
	bytes string
	text  bool
	most  int // how many there may be, if it tells how many there are
}

// parts of a state, in their order, by the library's own means; whether the state may be or not.
func parts(s api.State) []part {
	var all []part
	number := func(l ...int) {
		for _, n := range l {
			all = append(all, part{bytes: string(binary.AppendUvarint(nil, uint64(n)))})
		}
	}
	many := func(n, most int) {
		number(n)
		all[len(all)-1].most = most
	}
	text := func(l ...string) {
		for _, s := range l {
			all = append(all, part{bytes: string(binary.AppendUvarint(nil, uint64(len(s)))) + s, text: true})
		}
	}
	number(s.Index)
	many(len(s.Locks), 5)
	for _, x := range s.Locks {
		text(x.Name)
		number(x.Holder, x.Fence)
		many(len(x.Line), 3)
		number(x.Line...)
	}
	many(len(s.Pairs), 5)
	for _, x := range s.Pairs {
		text(x.Name, x.Value)
		number(x.Version)
	}
	many(len(s.Sessions), 4)
	for _, x := range s.Sessions {
		number(x.Client, x.Id, x.Acked, x.Last)
		many(len(x.Replies), 4)
		for _, k := range x.Replies {
			number(k.Seq, int(k.Reply.Code), k.Reply.N)
			text(k.Reply.Text)
		}
	}
	return all
}

func join(l []part) string {
	var b strings.Builder
	for _, x := range l {
		b.WriteString(x.bytes)
	}
	return b.String()
}

// writable: no number of it is below 0, so that it has bytes, whether it may be or not.
func writable(s api.State) bool { return !strings.Contains(show(s), "-") }

// known states, with their bytes but for the seal.
var known = []struct {
	s    api.State
	body string
}{
	{api.State{}, "\x00\x00\x00\x00"},
	{api.State{Locks: []api.Lock{}, Pairs: []api.Pair{}, Sessions: []api.Session{}}, "\x00\x00\x00\x00"},
	{api.State{Index: 1}, "\x01\x00\x00\x00"},
	{api.State{Index: 127}, "\x7f\x00\x00\x00"},
	{api.State{Index: 128}, "\x80\x01\x00\x00\x00"},
	{api.State{Index: api.MaxIndex - 1}, "\xff\xff\xff\xff\x03\x00\x00\x00"},
	{api.State{Index: api.MaxIndex}, "\x80\x80\x80\x80\x04\x00\x00\x00"},
	{api.State{Locks: []api.Lock{lockOf("a", 1, 2)}}, "\x00\x01\x01a\x01\x02\x00\x00\x00"},
	{api.State{Locks: []api.Lock{lockOf("z", 0, api.MaxFence)}}, "\x00\x01\x01z\x00\x80\x80\x80\x80\x04\x00\x00\x00"},
	{
		api.State{Index: 5, Locks: []api.Lock{lockOf("ab", 2, 300, 9, 4, 6), lockOf("abcdef", 7, 1, 3)}},
		"\x05\x02\x02ab\x02\xac\x02\x03\x09\x04\x06\x06abcdef\x07\x01\x01\x03\x00\x00",
	},
	{
		api.State{Pairs: []api.Pair{pairOf("a", "xyz", 5), pairOf("bc", "", 300), pairOf("c", "\x00\xff", 1)}},
		"\x00\x00\x03\x01a\x03xyz\x05\x02bc\x00\xac\x02\x01c\x02\x00\xff\x01\x00",
	},
	{
		api.State{Index: 300, Sessions: []api.Session{sessionOf(1, 2, 0, 3), sessionOf(9, 299, api.MaxSeq, 300)}},
		"\xac\x02\x00\x00\x02\x01\x02\x00\x03\x00\x09\xab\x02\x80\x80\x40\xac\x02\x00",
	},
	{
		api.State{Index: 4, Sessions: []api.Session{sessionOf(3, 1, 7, 4, kept(8, api.OK, 300, "val"), kept(11, api.ErrSum, 0, ""))}},
		"\x04\x00\x00\x01\x03\x01\x07\x04\x02\x08\x00\xac\x02\x03val\x0b\x0f\x00\x00",
	},
	{
		busy(),
		"\xac\x02" +
			"\x04\x01a\x02\x03\x02\x04\x06\x03bcd\x04\xbc\x05\x00\x01c\x00\x80\x01\x00\x02dd\x06\x80\x80\x80\x80\x04\x01\x02" +
			"\x03\x01a\x03xyz\x02\x02cc\x00\x01\x01e\x02\xff\x00\x80\x80\x80\x80\x04" +
			"\x03\x02\x01\x00\xa3\x02\x02\x01\x00\x03\x00\x03\x0a\x04\x00" +
			"\x04\x06\xc8\x01\xa6\x02\x00" +
			"\x06\x07\x02\xac\x02\x01\x04\x0f\xe8\x07\x02x\x80",
	},
}

// mayBe: the known states, and greater ones.
func mayBe() []api.State {
	all := []api.State{full()}
	for _, x := range known {
		all = append(all, x.s)
	}
	for i := range 3 { // each list by itself is as long as may be
		s := full()
		all = append(all, []api.State{
			{Index: s.Index, Locks: s.Locks}, {Index: s.Index, Pairs: s.Pairs}, {Index: s.Index, Sessions: s.Sessions},
		}[i])
	}
	return all
}

func wantEncode(t *testing.T, s api.State, want string) {
	t.Helper()
	before := show(s)
	if got, e := snap.Encode(s); got != want || e != api.OK {
		t.Errorf("Encode(%s) = %q, %d; want %q, 0", before, got, e, want)
	}
	if show(s) != before {
		t.Errorf("Encode(%s) leaves %s", before, show(s))
	}
}

func wantNotEncoded(t *testing.T, s api.State, want api.Errno) {
	t.Helper()
	if got, e := snap.Encode(s); got != "" || e != want {
		t.Errorf("Encode(%.400s) = %q, %d; want nothing and %d", show(s), got, e, want)
	}
}

// wrong: a part of a busy state that may not be, and what is told of it.
type wrong struct {
	spoil func(s *api.State)
	want  api.Errno
}

// right: nothing is wrong.
var right = wrong{func(*api.State) {}, api.OK}

var tooLong = strings.Repeat("x", api.MaxValue+1)

// What is wrong with parts of a busy state, by the order in which they are looked at.
var (
	wrongSessions = []wrong{
		right,
		{func(s *api.State) { s.Index = -1 }, api.ErrRange},
		{func(s *api.State) { s.Index = api.MaxIndex + 1 }, api.ErrRange},
		{func(s *api.State) { s.Index = api.MaxNumber }, api.ErrRange},
		{func(s *api.State) { s.Index = math.MinInt }, api.ErrRange},
		{func(s *api.State) { s.Index = 299 }, api.ErrRange}, // the Last of one is 300
		{func(s *api.State) { s.Sessions = append(full().Sessions, s.Sessions...) }, api.ErrSize},
		{func(s *api.State) { s.Sessions[0].Client = 0 }, api.ErrRange},
		{func(s *api.State) { s.Sessions[2].Client = api.MaxClient + 1 }, api.ErrRange},
		{func(s *api.State) { s.Sessions[1].Acked = -1 }, api.ErrRange},
		{func(s *api.State) { s.Sessions[1].Acked = api.MaxSeq + 1 }, api.ErrRange},
		{func(s *api.State) { s.Sessions[1].Id = 0 }, api.ErrRange},
		{func(s *api.State) { s.Sessions[1].Last = 5 }, api.ErrRange},
		{func(s *api.State) { s.Sessions[2].Last = 301 }, api.ErrRange},
		{func(s *api.State) { s.Sessions[0].Replies[1].Seq = 1 }, api.ErrForm},
		{func(s *api.State) { s.Sessions[2].Replies[0].Seq = 7 }, api.ErrForm},
		{func(s *api.State) { s.Sessions[0].Replies = make([]api.Kept, api.Window+1) }, api.ErrForm},
		{func(s *api.State) { s.Sessions[2].Replies[0].Reply.Code = api.ErrSum + 1 }, api.ErrForm},
		{func(s *api.State) { s.Sessions[2].Replies[0].Reply.Code = -1 }, api.ErrForm},
		{func(s *api.State) { s.Sessions[2].Replies[0].Reply.N = api.MaxFence + 1 }, api.ErrForm},
		{func(s *api.State) { s.Sessions[2].Replies[0].Reply.Text = tooLong }, api.ErrForm},
		{func(s *api.State) { s.Sessions[1].Client = 2 }, api.ErrOrder},
	}
	wrongLocks = []wrong{
		right,
		{func(s *api.State) { s.Locks = append(full().Locks, s.Locks[0]) }, api.ErrSize},
		{func(s *api.State) { s.Locks[0].Name = "A" }, api.ErrForm},
		{func(s *api.State) { s.Locks[0].Name = "" }, api.ErrForm},
		{func(s *api.State) { s.Locks[1].Holder = -1 }, api.ErrForm},
		{func(s *api.State) { s.Locks[1].Holder = api.MaxClient + 1 }, api.ErrForm},
		{func(s *api.State) { s.Locks[0].Line = []int{4, 5, 6, 7} }, api.ErrForm},
		{func(s *api.State) { s.Locks[0].Line[1] = 2 }, api.ErrForm},
		{func(s *api.State) { s.Locks[2].Line = []int{1} }, api.ErrForm},
		{func(s *api.State) { s.Locks[3].Fence = api.MaxFence + 1 }, api.ErrRange},
		{func(s *api.State) { s.Locks[2].Fence = 0 }, api.ErrRange},
		{func(s *api.State) { s.Locks[3].Name = "c" }, api.ErrOrder},
	}
	wrongPairs = []wrong{
		right,
		{func(s *api.State) { s.Pairs = append(full().Pairs, s.Pairs[0]) }, api.ErrSize},
		{func(s *api.State) { s.Pairs[0].Name = "abcdefg" }, api.ErrForm},
		{func(s *api.State) { s.Pairs[1].Value = tooLong }, api.ErrSize},
		{func(s *api.State) { s.Pairs[2].Version = api.MaxFence + 1 }, api.ErrRange},
		{func(s *api.State) { s.Pairs[2].Version = 0 }, api.ErrRange},
		{func(s *api.State) { s.Pairs[1].Name = "a" }, api.ErrOrder},
	}
)

// eachWrong: busy states in which up to three parts are wrong at once, and what is wrong first.
func eachWrong(do func(s api.State, first api.Errno)) {
	for _, a := range wrongSessions {
		for _, b := range wrongLocks {
			for _, c := range wrongPairs {
				s, first := busy(), api.OK
				for _, x := range []wrong{a, b, c} {
					x.spoil(&s)
					if first == api.OK {
						first = x.want
					}
				}
				do(s, first)
			}
		}
	}
}

// P7.1

func TestEncode(t *testing.T) {
	for _, x := range known {
		wantEncode(t, x.s, sealed(x.body))
	}
	for _, s := range mayBe() {
		wantEncode(t, s, sealed(join(parts(s))))
	}
}

func TestEncodeWithItsSeal(t *testing.T) {
	wantEncode(t, api.State{}, "\x00\x00\x00\x00\x00\x04\x00\x01")
	wantEncode(t, api.State{Index: 1}, "\x01\x00\x00\x00\x00\x08\x00\x02")
	wantEncode(t, api.State{Index: api.MaxIndex}, "\x80\x80\x80\x80\x04\x00\x00\x00\x0d\x18\x02\x05")
	wantEncode(t, api.State{Locks: []api.Lock{lockOf("a", 1, 2)}}, "\x00\x01\x01a\x01\x02\x00\x00\x00\x02\x6b\x00\x67")
}

// TestEncodeTheGreatest: as much as may be, with the longest numbers, is far below MaxBytes.
func TestEncodeTheGreatest(t *testing.T) {
	s, e := snap.Encode(full())
	if e != api.OK || len(s) != 634 {
		t.Errorf("Encode of as much as may be: %d bytes, %d", len(s), e)
	}
}

func TestEncodeRefused(t *testing.T) {
	eachWrong(func(s api.State, first api.Errno) {
		if first == api.OK {
			wantEncode(t, s, sealed(join(parts(s))))
		} else {
			wantNotEncoded(t, s, first)
		}
	})
}

func TestEncodeOneMore(t *testing.T) {
	s := full()
	s.Locks = append(s.Locks, lockOf("zzzzzzz", 1, 1))
	wantNotEncoded(t, s, api.ErrSize)
	s = full()
	s.Pairs = append(s.Pairs, pairOf("zzzzzzz", "", 1))
	wantNotEncoded(t, s, api.ErrSize)
	s = full()
	s.Sessions = append(s.Sessions, sessionOf(10, 1, 0, 1))
	wantNotEncoded(t, s, api.ErrSize)
	s = full()
	s.Locks[4].Line = append(s.Locks[4].Line, 9)
	wantNotEncoded(t, s, api.ErrForm)
	s = full()
	s.Sessions[3].Replies = append(s.Sessions[3].Replies, kept(api.MaxSeq+5, api.OK, 0, ""))
	wantNotEncoded(t, s, api.ErrForm)
	s = full()
	s.Index++
	wantNotEncoded(t, s, api.ErrRange)
}
