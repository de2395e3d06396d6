package session_test

import (
	"fmt"
	"math"
	"slices"
	"strings"
	"testing"
	"unsafe"

	"tackroom/api"
	"tackroom/session"
)

// of: a session, written shortly.
func of(client, id, acked, last int, replies ...api.Kept) api.Session {
	return api.Session{Client: client, Id: id, Acked: acked, Last: last, Replies: replies}
}

// to: replies to these calls, each with what tells it from the others.
func to(seqs ...int) []api.Kept {
	var l []api.Kept
	for _, seq := range seqs {
		l = append(l, kept(seq, api.OK, seq%1000, fmt.Sprint("t", seq)))
	}
	return l
}

func kept(seq int, code api.Errno, n int, text string) api.Kept {
	return api.Kept{Seq: seq, Reply: api.Reply{Code: code, N: n, Text: text}}
}

// full: as many sessions as may be, after the entry 20 or a later one.
func full() []api.Session {
	return []api.Session{of(2, 1, 0, 11, to(1, 3)...), of(4, 6, 5, 14), of(6, 7, 2, 20, to(4)...), of(8, 9, 9, 9, to(10, 11, 12, 13)...)}
}

// show sessions, whether a list without elements is nil or not.
func show(l []api.Session) string {
	var s strings.Builder
	for _, x := range l {
		fmt.Fprintf(&s, "{%d %d %d %d", x.Client, x.Id, x.Acked, x.Last)
		for _, k := range x.Replies {
			fmt.Fprintf(&s, " %d:%s", k.Seq, tell(k.Reply))
		}
		s.WriteString("}")
	}
	return s.String()
}

// tell a reply; its text may be bytes of any kind.
func tell(r api.Reply) string { return fmt.Sprintf("{%d %d %q}", r.Code, r.N, r.Text) }

// die: numbers that look drawn, the same each time.
type die uint64

func (d *die) roll(most int) int {
	*d = *d*6364136223846793005 + 1442695040888963407
	return int(uint64(*d>>33) % uint64(most))
}

// What can't be: the edges first.
var (
	noClients = []int{0, api.MaxClient + 1, -1, -api.MaxClient, 1 << 32, 1<<32 + 1, math.MinInt, math.MaxInt}
	noIndexes = []int{-1, api.MaxIndex + 1, -api.MaxIndex, 1 << 32, math.MinInt, math.MaxInt}
	noCodes   = []api.Errno{-1, api.ErrSum + 1, 100, 1 << 32, math.MinInt, math.MaxInt}
	noNs      = []int{-1, api.MaxFence + 1, -api.MaxFence, 1 << 32, math.MinInt, math.MaxInt}
	noSeqs    = []int{0, api.MaxSeq + 1, -1, -api.MaxSeq, 1 << 32, 1<<32 + 1, math.MinInt, math.MaxInt}
	noTexts   = []string{
		strings.Repeat("v", api.MaxValue+1), strings.Repeat("\x00", api.MaxValue+1), strings.Repeat("v", 100000),
		strings.Repeat("é", api.MaxValue/2+1), // in runes it would do
	}
)

// texts that a reply may have: none, the longest ones, and bytes of any kind.
var texts = []string{
	"", "x", "\x00", "\xff\x80\n", strings.Repeat("v", api.MaxValue-1), strings.Repeat("v", api.MaxValue),
	strings.Repeat("\xff", api.MaxValue), strings.Repeat("é", api.MaxValue/2),
}

// noReplies: replies that may not be kept.
func noReplies() []api.Reply {
	var l []api.Reply
	for _, code := range noCodes {
		l = append(l, api.Reply{Code: code, N: 1, Text: "x"})
	}
	for _, n := range noNs {
		l = append(l, api.Reply{N: n, Text: "x"})
	}
	for _, text := range noTexts {
		l = append(l, api.Reply{N: 1, Text: text})
	}
	return l
}

// goodReplies: replies that may be kept: each error number, the least and the greatest N, texts of any kind.
func goodReplies() []api.Reply {
	l := []api.Reply{{}, {N: 1}, {N: api.MaxFence - 1}, {N: api.MaxFence}}
	for code := api.OK; code <= api.ErrSum; code++ {
		l = append(l, api.Reply{Code: code, N: 7})
	}
	for _, text := range texts {
		l = append(l, api.Reply{Code: api.ErrHeld, N: api.MaxFence, Text: text})
	}
	return l
}

func call(client, id, seq, acked int) api.Command {
	return api.Command{Kind: api.Call, Client: client, Session: id, Seq: seq, Acked: acked, Op: api.Op{Kind: api.Try, A: "a"}}
}

func wantCheck(t *testing.T, l []api.Session, index int, want api.Errno) {
	t.Helper()
	if e := session.Check(l, index); e != want {
		t.Errorf("Check of %d sessions, %.160s, at %d = %d, want %d", len(l), show(l), index, e, want)
	}
}

func wantFresh(t *testing.T, l []api.Session, index int, want []api.Session) {
	t.Helper()
	if got, e := session.Fresh(l, index); show(got) != show(want) || e != api.OK {
		t.Errorf("Fresh(%s, %d) = %s, %d; want %s, 0", show(l), index, show(got), e, show(want))
	}
}

func wantJoin(t *testing.T, l []api.Session, index, client int, want []api.Session, reply api.Reply) {
	t.Helper()
	got, r, e := session.Join(l, index, client)
	if show(got) != show(want) || r != reply || e != api.OK {
		t.Errorf("Join(%s, %d, %d) = %s, %s, %d; want %s, %s, 0", show(l), index, client, show(got), tell(r), e, show(want), tell(reply))
	}
}

func wantJoinRefused(t *testing.T, l []api.Session, index, client int, want api.Errno) {
	t.Helper()
	if got, r, e := session.Join(l, index, client); len(got) != 0 || r != (api.Reply{}) || e != want {
		t.Errorf("Join(%.160s, %d, %d) = %s, %s, %d; want nothing and %d", show(l), index, client, show(got), tell(r), e, want)
	}
}

func wantLeave(t *testing.T, l []api.Session, index, client int, want []api.Session, code api.Errno) {
	t.Helper()
	got, r, e := session.Leave(l, index, client)
	if show(got) != show(want) || r != (api.Reply{Code: code}) || e != api.OK {
		t.Errorf("Leave(%s, %d, %d) = %s, %s, %d; want %s, the Code %d, 0", show(l), index, client, show(got), tell(r), e, show(want), code)
	}
}

func wantReady(t *testing.T, l []api.Session, index int, c api.Command, want []api.Session, reply api.Reply, todo bool) {
	t.Helper()
	got, r, do, e := session.Ready(l, index, c)
	if show(got) != show(want) || r != reply || do != todo || e != api.OK {
		t.Errorf("Ready(%s, %d, %v) = %s, %s, %t, %d; want %s, %s, %t, 0", show(l), index, c, show(got), tell(r), do, e, show(want), tell(reply), todo)
	}
}

func wantReadyRefused(t *testing.T, l []api.Session, index int, c api.Command, want api.Errno) {
	t.Helper()
	if got, r, do, e := session.Ready(l, index, c); len(got) != 0 || r != (api.Reply{}) || do || e != want {
		t.Errorf("Ready(%.160s, %d, %v) = %s, %s, %t, %d; want nothing and %d", show(l), index, c, show(got), tell(r), do, e, want)
	}
}

func wantKeep(t *testing.T, l []api.Session, index, client, seq int, r api.Reply, want []api.Session) {
	t.Helper()
	if got, e := session.Keep(l, index, client, seq, r); show(got) != show(want) || e != api.OK {
		t.Errorf("Keep(%s, %d, %d, %d, %s) = %s, %d; want %s, 0", show(l), index, client, seq, tell(r), show(got), e, show(want))
	}
}

func wantKeepRefused(t *testing.T, l []api.Session, index, client, seq int, r api.Reply, want api.Errno) {
	t.Helper()
	if got, e := session.Keep(l, index, client, seq, r); len(got) != 0 || e != want {
		t.Errorf("Keep(%.160s, %d, %d, %d, %.40s) = %s, %d; want nothing and %d", show(l), index, client, seq, tell(r), show(got), e, want)
	}
}

// P5.1

// mayBe: sessions that are as they must be, after an entry.
var mayBe = []struct {
	l     []api.Session
	index int
}{
	{nil, 0},
	{[]api.Session{}, 0},
	{nil, 1},
	{nil, api.MaxIndex},
	{[]api.Session{of(1, 1, 0, 1)}, 1},
	{[]api.Session{of(api.MaxClient, 1, api.MaxSeq, 1)}, 1},
	{[]api.Session{of(3, 1, 0, 1)}, 100}, // idle, but there
	{[]api.Session{of(3, 1, 0, 100)}, 100},
	{[]api.Session{of(3, 100, 0, 100)}, 100},
	{[]api.Session{of(3, 50, 0, 50)}, 100},
	{[]api.Session{of(3, 1, 0, 1)}, api.MaxIndex},
	{[]api.Session{of(3, 1, 0, api.MaxIndex)}, api.MaxIndex},
	{[]api.Session{of(3, api.MaxIndex, 0, api.MaxIndex)}, api.MaxIndex},
	{[]api.Session{{Client: 3, Id: 1, Last: 1, Replies: []api.Kept{}}}, 1},
	{[]api.Session{of(3, 1, 0, 1, to(1)...)}, 1},
	{[]api.Session{of(3, 1, 0, 1, to(api.Window)...)}, 1},
	{[]api.Session{of(3, 1, 0, 1, to(1, 2, 3, 4)...)}, 1},
	{[]api.Session{of(3, 1, 7, 1, to(8, 10, 11)...)}, 1},
	{[]api.Session{of(3, 1, api.MaxSeq-1, 1, to(api.MaxSeq)...)}, 1},
	// how far replies go is told by Acked alone
	{[]api.Session{of(3, 1, api.MaxSeq, 1, to(api.MaxSeq+1, api.MaxSeq+api.Window)...)}, 1},
	{[]api.Session{of(1, 5, 0, 5), of(2, 5, 0, 5), of(8, 1, 0, 9), of(9, 9, 0, 9)}, 9},
	{full(), 20},
	{full(), api.MaxIndex},
}

// mayNotBe: sessions, the entry after which they stand, and what is wrong first.
var mayNotBe = []struct {
	l     []api.Session
	index int
	want  api.Errno
}{
	{append(full(), of(9, 1, 0, 1)), 20, api.ErrSize},
	{make([]api.Session, api.MaxSessions+1), 20, api.ErrSize},
	{make([]api.Session, 100000), 20, api.ErrSize},
	{[]api.Session{of(3, 1, -1, 1)}, 9, api.ErrRange},
	{[]api.Session{of(3, 1, api.MaxSeq+1, 1)}, 9, api.ErrRange},
	{[]api.Session{of(3, 1, math.MinInt, 1)}, 9, api.ErrRange},
	{[]api.Session{of(3, 1, math.MaxInt, 1)}, 9, api.ErrRange},
	{[]api.Session{of(3, 0, 0, 1)}, 9, api.ErrRange},
	{[]api.Session{of(3, 0, 0, 0)}, 0, api.ErrRange},
	{[]api.Session{of(3, 1, 0, 1)}, 0, api.ErrRange},
	{[]api.Session{of(3, -1, 0, 1)}, 9, api.ErrRange},
	{[]api.Session{of(3, 10, 0, 10)}, 9, api.ErrRange},
	{[]api.Session{of(3, 10, 0, 9)}, 9, api.ErrRange},
	{[]api.Session{of(3, math.MinInt, 0, 9)}, 9, api.ErrRange},
	{[]api.Session{of(3, math.MaxInt, 0, math.MaxInt)}, api.MaxIndex, api.ErrRange},
	{[]api.Session{of(3, api.MaxIndex+1, 0, api.MaxIndex+1)}, api.MaxIndex, api.ErrRange},
	{[]api.Session{of(3, 5, 0, 4)}, 9, api.ErrRange},
	{[]api.Session{of(3, 1, 0, 0)}, 9, api.ErrRange},
	{[]api.Session{of(3, 5, 0, 10)}, 9, api.ErrRange},
	{[]api.Session{of(3, 5, 0, -5)}, 9, api.ErrRange},
	{[]api.Session{of(3, 5, 0, math.MinInt)}, 9, api.ErrRange},
	{[]api.Session{of(3, 5, 0, math.MaxInt)}, 9, api.ErrRange},
	{[]api.Session{of(3, 5, 0, api.MaxIndex+1)}, api.MaxIndex, api.ErrRange},
	{[]api.Session{of(3, 1, 0, 1, to(0)...)}, 9, api.ErrForm},
	{[]api.Session{of(3, 1, 0, 1, to(-1)...)}, 9, api.ErrForm},
	{[]api.Session{of(3, 1, 0, 1, to(api.Window+1)...)}, 9, api.ErrForm},
	{[]api.Session{of(3, 1, 7, 1, to(7)...)}, 9, api.ErrForm},
	{[]api.Session{of(3, 1, 7, 1, to(6)...)}, 9, api.ErrForm},
	{[]api.Session{of(3, 1, 7, 1, to(12)...)}, 9, api.ErrForm},
	{[]api.Session{of(3, 1, 7, 1, to(8, 12)...)}, 9, api.ErrForm},
	{[]api.Session{of(3, 1, 7, 1, to(8, 8)...)}, 9, api.ErrForm},
	{[]api.Session{of(3, 1, 7, 1, to(9, 8)...)}, 9, api.ErrForm},
	{[]api.Session{of(3, 1, 7, 1, to(8, 10, 9)...)}, 9, api.ErrForm},
	{[]api.Session{of(3, 1, 7, 1, to(8, 9, 10, 10)...)}, 9, api.ErrForm},
	{[]api.Session{of(3, 1, 7, 1, to(8, 9, 8)...)}, 9, api.ErrForm},
	{[]api.Session{of(3, 1, 7, 1, to(8, 9, 10, 11, 12)...)}, 9, api.ErrForm},
	{[]api.Session{of(3, 1, 7, 1, to(math.MinInt)...)}, 9, api.ErrForm},
	{[]api.Session{of(3, 1, 7, 1, to(math.MaxInt)...)}, 9, api.ErrForm},
	{[]api.Session{of(3, 1, 7, 1, to(8, math.MaxInt)...)}, 9, api.ErrForm},
	{[]api.Session{of(3, 1, api.MaxSeq, 1, to(api.MaxSeq)...)}, 9, api.ErrForm},
	{[]api.Session{of(3, 1, api.MaxSeq, 1, to(api.MaxSeq+api.Window+1)...)}, 9, api.ErrForm},
	{[]api.Session{of(3, 1, 7, 1, make([]api.Kept, 100000)...)}, 9, api.ErrForm},
	{[]api.Session{of(3, 1, 0, 1), of(3, 1, 0, 1)}, 9, api.ErrOrder},
	{[]api.Session{of(3, 1, 0, 1), of(2, 1, 0, 1)}, 9, api.ErrOrder},
	{[]api.Session{of(1, 1, 0, 1), of(3, 1, 0, 1), of(2, 1, 0, 1)}, 9, api.ErrOrder},
	{[]api.Session{of(1, 1, 0, 1), of(3, 1, 0, 1), of(1, 1, 0, 1)}, 9, api.ErrOrder},
	// several at once: what is named first
	{append(full(), of(0, 0, 0, 0)), -1, api.ErrRange},
	{append(full(), of(9, 1, 0, 1)), api.MaxIndex + 1, api.ErrRange},
	{append(full(), of(0, 0, 0, 0)), 20, api.ErrSize},
	{append([]api.Session{of(0, 0, 0, 0)}, full()...), 20, api.ErrSize},
	{[]api.Session{of(3, 1, 0, 1, to(0)...)}, -1, api.ErrRange},
	{[]api.Session{of(0, 1, 0, 1, to(0)...)}, 9, api.ErrRange},
	{[]api.Session{of(3, 1, -1, 1, to(9)...)}, 9, api.ErrRange},
	{[]api.Session{of(3, 0, 0, 1, to(9)...)}, 9, api.ErrRange},
	{[]api.Session{of(3, 5, 0, 4, to(9)...)}, 9, api.ErrRange},
	{[]api.Session{of(3, 1, 0, 1), of(3, 0, 0, 1)}, 9, api.ErrRange},
	{[]api.Session{of(3, 1, 0, 1), of(0, 1, 0, 1)}, 9, api.ErrRange},
	{[]api.Session{of(3, 1, 0, 1), of(3, 1, 0, 1, to(9)...)}, 9, api.ErrForm},
	{[]api.Session{of(3, 1, 0, 1), of(2, 1, -1, 1, to(9)...)}, 9, api.ErrRange},
	// several sessions at once: one by one
	{[]api.Session{of(3, 1, 0, 1, to(9)...), of(0, 1, 0, 1)}, 9, api.ErrForm},
	{[]api.Session{of(3, 1, 0, 10), of(4, 1, 0, 1, to(9)...)}, 9, api.ErrRange},
	{[]api.Session{of(3, 1, 0, 1), of(2, 1, 0, 1), of(0, 1, 0, 1)}, 9, api.ErrOrder},
	{[]api.Session{of(3, 1, 0, 1), of(2, 1, 0, 1), of(4, 1, 0, 1, to(9)...)}, 9, api.ErrOrder},
	{[]api.Session{of(3, 1, 0, 1), of(4, 1, 0, 1, to(9)...), of(2, 0, 0, 1)}, 9, api.ErrForm},
}

func TestCheck(t *testing.T) {
	for _, c := range mayBe {
		wantCheck(t, c.l, c.index, api.OK)
	}
	for _, c := range mayNotBe {
		wantCheck(t, c.l, c.index, c.want)
	}
}

func TestCheckIndexes(t *testing.T) {
	for _, index := range noIndexes {
		wantCheck(t, nil, index, api.ErrRange)
		wantCheck(t, full(), index, api.ErrRange)
	}
	for _, index := range []int{0, 1, 40, api.MaxIndex - 1, api.MaxIndex} {
		wantCheck(t, nil, index, api.OK)
	}
	wantCheck(t, full(), 19, api.ErrRange)
	wantCheck(t, full(), 20, api.OK)
}

func TestCheckClients(t *testing.T) {
	for _, client := range noClients {
		wantCheck(t, []api.Session{of(client, 1, 0, 1)}, 9, api.ErrRange)
	}
	for client := 1; client <= api.MaxClient; client++ {
		wantCheck(t, []api.Session{of(client, 1, 0, 1)}, 9, api.OK)
	}
}

func TestCheckReplies(t *testing.T) {
	for at := range api.Window {
		for _, r := range goodReplies() {
			l := to(8, 9, 10, 11)
			l[at].Reply = r
			wantCheck(t, []api.Session{of(3, 1, 7, 1, l...)}, 9, api.OK)
		}
		for _, r := range noReplies() {
			l := to(8, 9, 10, 11)
			l[at].Reply = r
			wantCheck(t, []api.Session{of(3, 1, 7, 1, l...)}, 9, api.ErrForm)
		}
	}
}

func TestCheckEachSession(t *testing.T) {
	for at := range api.MaxSessions {
		for _, c := range []struct {
			spoil func(x *api.Session)
			want  api.Errno
		}{
			{func(x *api.Session) { x.Client += api.MaxClient }, api.ErrRange},
			{func(x *api.Session) { x.Acked = -1 }, api.ErrRange},
			{func(x *api.Session) { x.Acked = api.MaxSeq + 1 }, api.ErrRange},
			{func(x *api.Session) { x.Id = 0 }, api.ErrRange},
			{func(x *api.Session) { x.Id = 21 }, api.ErrRange},
			{func(x *api.Session) { x.Last = x.Id - 1 }, api.ErrRange},
			{func(x *api.Session) { x.Last = 21 }, api.ErrRange},
			{func(x *api.Session) { x.Replies = to(x.Acked) }, api.ErrForm},
			{func(x *api.Session) { x.Replies = to(x.Acked + api.Window + 1) }, api.ErrForm},
			{func(x *api.Session) { x.Replies = []api.Kept{kept(x.Acked+1, 16, 0, "")} }, api.ErrForm},
		} {
			l := full()
			c.spoil(&l[at])
			wantCheck(t, l, 20, c.want)
		}
		if l := full(); at > 0 {
			l[at].Client = l[at-1].Client
			wantCheck(t, l, 20, api.ErrOrder)
		}
	}
}

func TestCopy(t *testing.T) {
	for _, c := range mayBe {
		if got := session.Copy(c.l); show(got) != show(c.l) {
			t.Errorf("Copy(%s) = %s", show(c.l), show(got))
		}
	}
	for _, c := range mayNotBe { // Copy refuses nothing
		if got := session.Copy(c.l); show(got) != show(c.l) {
			t.Errorf("Copy(%.160s) = %.160s", show(c.l), show(got))
		}
	}
	for _, r := range append(goodReplies(), noReplies()...) {
		l := []api.Session{of(3, 1, 0, 1, api.Kept{Seq: 1, Reply: r})}
		if got := session.Copy(l); show(got) != show(l) {
			t.Errorf("Copy(%.160s) = %.160s", show(l), show(got))
		}
	}
}

// wantAllRefuse: all that change sessions, whatever else is handed in.
func wantAllRefuse(t *testing.T, l []api.Session, index int, want api.Errno) {
	t.Helper()
	if got, e := session.Fresh(l, index); len(got) != 0 || e != want {
		t.Errorf("Fresh(%.160s, %d) = %s, %d; want nothing and %d", show(l), index, show(got), e, want)
	}
	for _, client := range []int{1, 3, 0, -1} {
		wantJoinRefused(t, l, index, client, want)
		if got, r, e := session.Leave(l, index, client); len(got) != 0 || r != (api.Reply{}) || e != want {
			t.Errorf("Leave(%.160s, %d, %d) = %s, %s, %d; want nothing and %d", show(l), index, client, show(got), tell(r), e, want)
		}
		for _, seq := range []int{1, 8, 0, -1} {
			wantReadyRefused(t, l, index, call(client, 1, seq, 0), want)
			wantKeepRefused(t, l, index, client, seq, api.Reply{}, want)
			wantKeepRefused(t, l, index, client, seq, api.Reply{Code: -1}, want)
		}
	}
}

func TestAllRefuseWhatCheckRefuses(t *testing.T) {
	for _, c := range mayNotBe {
		wantAllRefuse(t, c.l, c.index, c.want)
	}
	for _, index := range noIndexes {
		wantAllRefuse(t, nil, index, api.ErrRange)
		wantAllRefuse(t, full(), index, api.ErrRange)
	}
}

// P5.2

func TestFresh(t *testing.T) {
	wantFresh(t, nil, 0, nil)
	wantFresh(t, []api.Session{}, api.MaxIndex, nil)
	// The Lasts of these are 11, 14, 20 and 9.
	l := full()
	for _, c := range []struct {
		index int
		want  []api.Session
	}{
		{20, l},
		{48, l},
		{49, l[:3]},
		{50, l[:3]},
		{51, l[1:3]},
		{53, l[1:3]},
		{54, l[2:3]},
		{59, l[2:3]},
		{60, nil},
		{61, nil},
		{api.MaxIndex, nil},
	} {
		wantFresh(t, l, c.index, c.want)
	}
}

func TestFreshAtEachAge(t *testing.T) {
	for _, last := range []int{1, 2, 40, 41, 1000, api.MaxIndex - api.MaxIdle} {
		for age := range 2 * api.MaxIdle {
			if last+age > api.MaxIndex {
				continue
			}
			// When it began, and what it knows, makes no one older.
			l := []api.Session{of(1, 1, 0, last), of(9, last, api.MaxSeq, last, to(api.MaxSeq+1)...)}
			want := l
			if age >= api.MaxIdle {
				want = nil
			}
			wantFresh(t, l, last+age, want)
		}
	}
	last := []api.Session{of(1, api.MaxIndex, 0, api.MaxIndex)}
	wantFresh(t, last, api.MaxIndex, last)
	l := []api.Session{of(1, 1, 0, api.MaxIndex-api.MaxIdle), of(2, 1, 0, api.MaxIndex-api.MaxIdle+1)}
	wantFresh(t, l, api.MaxIndex, l[1:])
}

// P5.3

func TestJoinFirst(t *testing.T) {
	for client := 1; client <= api.MaxClient; client++ {
		for _, index := range []int{0, 1, 41, api.MaxIndex - 2, api.MaxIndex - 1} {
			want := []api.Session{of(client, index+1, 0, index+1)}
			wantJoin(t, nil, index, client, want, api.Reply{N: index + 1})
			wantJoin(t, []api.Session{}, index, client, want, api.Reply{N: index + 1})
		}
	}
}

func TestJoinInOrder(t *testing.T) {
	l := []api.Session{of(2, 1, 0, 11, to(1, 3)...), of(5, 6, 5, 14), of(8, 7, 2, 20, to(4)...)}
	for _, c := range []struct{ client, at int }{
		{1, 0}, {3, 1}, {4, 1}, {6, 2}, {7, 2}, {9, 3},
	} {
		wantJoin(t, l, 20, c.client, slices.Insert(session.Copy(l), c.at, of(c.client, 21, 0, 21)), api.Reply{N: 21})
	}
	// Who is idle has a session, as long as nobody asks who is fresh.
	wantJoin(t, l, 1000, 9, append(session.Copy(l), of(9, 1001, 0, 1001)), api.Reply{N: 1001})
}

func TestJoinTwice(t *testing.T) {
	for _, index := range []int{20, 21, 1000, api.MaxIndex - 1} {
		for at, x := range full() {
			want := full()
			want[at].Last = index + 1
			wantJoin(t, full(), index, x.Client, want, api.Reply{Code: api.ErrTwice, N: x.Id})
			// with room for more as without
			wantJoin(t, full()[at:at+1], index, x.Client, want[at:at+1], api.Reply{Code: api.ErrTwice, N: x.Id})
		}
	}
}

func TestJoinWithoutRoom(t *testing.T) {
	for _, client := range []int{1, 3, 5, 7, 9} {
		wantJoin(t, full(), 20, client, full(), api.Reply{Code: api.ErrFull})
		wantJoin(t, full(), api.MaxIndex-1, client, full(), api.Reply{Code: api.ErrFull})
	}
	wantJoin(t, full()[1:], 20, 9, append(full()[1:], of(9, 21, 0, 21)), api.Reply{N: 21})
}

func TestJoinRefused(t *testing.T) {
	for _, client := range noClients {
		for _, l := range [][]api.Session{nil, full()[:3], full()} {
			wantJoinRefused(t, l, 20, client, api.ErrRange)
			wantJoinRefused(t, l, api.MaxIndex, client, api.ErrRange)
		}
	}
	for client := 1; client <= api.MaxClient; client++ { // those that have a session, too
		for _, l := range [][]api.Session{nil, full()[:3], full()} {
			wantJoinRefused(t, l, api.MaxIndex, client, api.ErrRange)
		}
	}
}

// P5.4

func TestLeave(t *testing.T) {
	for _, index := range []int{20, 21, 1000, api.MaxIndex} {
		for at, x := range full() {
			wantLeave(t, full(), index, x.Client, slices.Delete(full(), at, at+1), api.OK)
			wantLeave(t, full()[at:at+1], index, x.Client, nil, api.OK)
		}
	}
}

func TestLeaveAway(t *testing.T) {
	for _, client := range append([]int{1, 3, 5, 7, 9}, noClients...) {
		wantLeave(t, full(), 20, client, full(), api.ErrAway)
		wantLeave(t, full(), api.MaxIndex, client, full(), api.ErrAway)
		wantLeave(t, full()[1:3], 20, client, full()[1:3], api.ErrAway)
		wantLeave(t, nil, 0, client, nil, api.ErrAway)
		wantLeave(t, []api.Session{}, api.MaxIndex, client, nil, api.ErrAway)
	}
}

// P5.5

// with: the sessions of full, but that at a place.
func with(at int, x api.Session) []api.Session {
	l := full()
	l[at] = x
	return l
}

func TestReadyAway(t *testing.T) {
	away := api.Reply{Code: api.ErrAway}
	for _, client := range append([]int{1, 3, 5, 7, 9}, noClients...) {
		for _, id := range []int{0, 1, 6, 9, 21} {
			wantReady(t, full(), 20, call(client, id, 6, 5), full(), away, false)
			wantReady(t, nil, 0, call(client, id, 6, 5), nil, away, false)
		}
	}
	for _, x := range full() {
		for _, id := range []int{0, x.Id - 1, x.Id + 1, x.Last + 1, 21, -x.Id, x.Id + 1<<32, math.MinInt, math.MaxInt} {
			// Of each Seq: one that is old, one that has a reply, one that is to be done, one that is too high.
			for seq := 1; seq < 20; seq++ {
				wantReady(t, full(), 20, call(x.Client, id, seq, seq-1), full(), away, false)
			}
		}
	}
}

func TestReadyToBeDone(t *testing.T) {
	for seq := 1; seq <= api.Window; seq++ {
		want := []api.Session{of(3, 1, 0, 2)}
		wantReady(t, []api.Session{of(3, 1, 0, 1)}, 1, call(3, 1, seq, 0), want, api.Reply{}, true)
	}
	// Client 4 knows the replies up to 5, and has none above.
	for seq := 6; seq <= 5+api.Window; seq++ {
		for acked := range 6 {
			wantReady(t, full(), 20, call(4, 6, seq, acked), with(1, of(4, 6, 5, 21)), api.Reply{}, true)
		}
	}
	// Client 6 knows those up to 2, and has that to 4.
	for _, c := range []struct {
		seq, acked, then int
		left             []api.Kept
	}{
		{3, 0, 2, to(4)}, {3, 2, 2, to(4)}, {5, 0, 2, to(4)}, {6, 2, 2, to(4)},
		{5, 3, 3, to(4)}, {7, 3, 3, to(4)},
		{5, 4, 4, nil}, {8, 4, 4, nil}, {9, 5, 5, nil}, {100, 99, 99, nil}, {100, 96, 96, nil},
		{api.MaxSeq, api.MaxSeq - 1, api.MaxSeq - 1, nil}, {api.MaxSeq, api.MaxSeq - api.Window, api.MaxSeq - api.Window, nil},
	} {
		for _, index := range []int{20, 21, 1000, api.MaxIndex - 1} {
			wantReady(t, full(), index, call(6, 7, c.seq, c.acked), with(2, of(6, 7, c.then, index+1, c.left...)), api.Reply{}, true)
		}
	}
}

func TestReadyForgetsWhatIsKnown(t *testing.T) {
	for acked := range 20 {
		x := of(8, 9, max(9, acked), 21)
		for _, k := range to(10, 11, 12, 13) {
			if k.Seq > acked {
				x.Replies = append(x.Replies, k)
			}
		}
		want := with(3, x)
		// the highest Seq at which it may be done; where that has a reply it is that
		seq := max(9, acked) + api.Window
		if seq == 13 {
			wantReady(t, full(), 20, call(8, 9, seq, acked), want, to(13)[0].Reply, false)
		} else {
			wantReady(t, full(), 20, call(8, 9, seq, acked), want, api.Reply{}, true)
		}
		wantReady(t, full(), 20, call(8, 9, seq+1, acked), want, api.Reply{Code: api.ErrRange}, false)
	}
}

func TestReadyOld(t *testing.T) {
	old := api.Reply{Code: api.ErrOld}
	for seq := 1; seq <= 5; seq++ {
		for acked := range seq {
			wantReady(t, full(), 20, call(4, 6, seq, acked), with(1, of(4, 6, 5, 21)), old, false)
		}
	}
	for _, seq := range []int{1, 8, 9} {
		wantReady(t, full(), 1000, call(8, 9, seq, 0), with(3, of(8, 9, 9, 1001, to(10, 11, 12, 13)...)), old, false)
	}
	for _, seq := range []int{1, api.MaxSeq - 1, api.MaxSeq} {
		l := []api.Session{of(3, 1, api.MaxSeq, 1, to(api.MaxSeq+1)...)}
		wantReady(t, l, 1, call(3, 1, seq, seq-1), []api.Session{of(3, 1, api.MaxSeq, 2, to(api.MaxSeq+1)...)}, old, false)
	}
}

func TestReadyKept(t *testing.T) {
	for _, r := range goodReplies() { // each Code that a reply may tell, that of a refusal as well
		for seq := 1; seq <= api.Window; seq++ {
			l := []api.Session{of(3, 1, 0, 1, api.Kept{Seq: seq, Reply: r})}
			want := []api.Session{of(3, 1, 0, 8, api.Kept{Seq: seq, Reply: r})}
			wantReady(t, l, 7, call(3, 1, seq, 0), want, r, false)
		}
	}
	for i, k := range to(10, 11, 12, 13) {
		wantReady(t, full(), 20, call(8, 9, k.Seq, 0), with(3, of(8, 9, 9, 21, to(10, 11, 12, 13)...)), k.Reply, false)
		// All below are known now, and it is told nevertheless.
		left := to(10, 11, 12, 13)[i:]
		wantReady(t, full(), 20, call(8, 9, k.Seq, k.Seq-1), with(3, of(8, 9, k.Seq-1, 21, left...)), k.Reply, false)
	}
	wantReady(t, full(), 20, call(2, 1, 3, 0), with(0, of(2, 1, 0, 21, to(1, 3)...)), to(3)[0].Reply, false)
	wantReady(t, full(), 20, call(2, 1, 2, 0), with(0, of(2, 1, 0, 21, to(1, 3)...)), api.Reply{}, true)
}

func TestReadyTooHigh(t *testing.T) {
	high := api.Reply{Code: api.ErrRange}
	for _, seq := range []int{5 + api.Window + 1, 5 + api.Window + 2, 1000, api.MaxSeq} {
		for acked := range 6 {
			wantReady(t, full(), 20, call(4, 6, seq, acked), with(1, of(4, 6, 5, 21)), high, false)
		}
	}
	// What the client knows is heard, though it isn't done.
	wantReady(t, full(), 20, call(8, 9, 1000, 11), with(3, of(8, 9, 11, 21, to(12, 13)...)), high, false)
	wantReady(t, full(), 20, call(8, 9, api.MaxSeq, api.MaxSeq-api.Window-1), with(3, of(8, 9, api.MaxSeq-api.Window-1, 21)), high, false)
}

func TestReadyRefused(t *testing.T) {
	for _, client := range []int{2, 4, 6, 8, 1, 0} { // whether there is a session or not
		for _, id := range []int{1, 6, 7, 9, 0} {
			for _, seq := range noSeqs {
				for _, acked := range []int{0, seq - 1, seq} {
					wantReadyRefused(t, full(), 20, call(client, id, seq, acked), api.ErrRange)
					wantReadyRefused(t, nil, 0, call(client, id, seq, acked), api.ErrRange)
				}
			}
			for _, seq := range []int{1, 6, 10, api.MaxSeq} {
				for _, acked := range []int{-1, seq, seq + 1, api.MaxSeq, math.MinInt, math.MaxInt} {
					wantReadyRefused(t, full(), 20, call(client, id, seq, acked), api.ErrRange)
				}
				wantReadyRefused(t, full(), api.MaxIndex, call(client, id, seq, 0), api.ErrRange)
				wantReadyRefused(t, nil, api.MaxIndex, call(client, id, seq, 0), api.ErrRange)
			}
		}
	}
}

func TestReadyLooksAtNothingElse(t *testing.T) {
	for _, kind := range []int{0, api.Join, api.Leave, 4, -1, math.MaxInt} {
		for _, o := range []api.Op{{}, {Kind: 99, A: "A", B: noTexts[2], N: -1}, {Kind: api.Set, A: "a", B: "b", N: 1}} {
			c := call(4, 6, 6, 5)
			c.Kind, c.Op = kind, o
			wantReady(t, full(), 20, c, with(1, of(4, 6, 5, 21)), api.Reply{}, true)
		}
	}
}

// P5.6

func TestKeep(t *testing.T) {
	for _, r := range goodReplies() {
		for seq := 1; seq <= api.Window; seq++ {
			l := []api.Session{of(3, 1, 0, 1)}
			wantKeep(t, l, 1, 3, seq, r, []api.Session{of(3, 1, 0, 1, api.Kept{Seq: seq, Reply: r})})
		}
		for seq := 6; seq <= 5+api.Window; seq++ {
			wantKeep(t, full(), 20, 4, seq, r, with(1, of(4, 6, 5, 14, api.Kept{Seq: seq, Reply: r})))
			wantKeep(t, full(), api.MaxIndex, 4, seq, r, with(1, of(4, 6, 5, 14, api.Kept{Seq: seq, Reply: r})))
		}
	}
}

func TestKeepInOrder(t *testing.T) {
	for seq := 8; seq <= 11; seq++ { // each of four behind the three others
		var rest []int
		for _, n := range []int{8, 9, 10, 11} {
			if n != seq {
				rest = append(rest, n)
			}
		}
		l := []api.Session{of(1, 1, 0, 1), of(3, 1, 7, 5, to(rest...)...), of(9, 1, 0, 1)}
		want := []api.Session{of(1, 1, 0, 1), of(3, 1, 7, 5, to(8, 9, 10, 11)...), of(9, 1, 0, 1)}
		wantKeep(t, l, 9, 3, seq, to(seq)[0].Reply, want)
	}
	wantKeep(t, full(), 20, 2, 2, to(2)[0].Reply, with(0, of(2, 1, 0, 11, to(1, 2, 3)...)))
	wantKeep(t, full(), 20, 2, 4, to(4)[0].Reply, with(0, of(2, 1, 0, 11, to(1, 3, 4)...)))
	wantKeep(t, full(), 20, 6, 3, to(3)[0].Reply, with(2, of(6, 7, 2, 20, to(3, 4)...)))
}

func TestKeepAtTheLastSeqs(t *testing.T) {
	r := api.Reply{N: 1}
	for _, c := range []struct{ acked, seq int }{
		{api.MaxSeq - 1, api.MaxSeq}, {api.MaxSeq - api.Window, api.MaxSeq},
		{api.MaxSeq, api.MaxSeq + 1}, {api.MaxSeq, api.MaxSeq + api.Window}, // sessions that may be
	} {
		wantKeep(t, []api.Session{of(3, 1, c.acked, 1)}, 1, 3, c.seq, r, []api.Session{of(3, 1, c.acked, 1, kept(c.seq, api.OK, 1, ""))})
	}
	for _, seq := range []int{api.MaxSeq - 1, api.MaxSeq, api.MaxSeq + api.Window + 1} {
		wantKeepRefused(t, []api.Session{of(3, 1, api.MaxSeq, 1)}, 1, 3, seq, r, api.ErrRange)
	}
}

func TestKeepAway(t *testing.T) {
	for _, client := range append([]int{1, 3, 5, 7, 9}, noClients...) {
		for _, seq := range append([]int{1, 6, 10}, noSeqs...) {
			wantKeepRefused(t, full(), 20, client, seq, api.Reply{}, api.ErrAway)
			wantKeepRefused(t, nil, 0, client, seq, api.Reply{}, api.ErrAway)
		}
		for _, r := range noReplies() {
			wantKeepRefused(t, full(), 20, client, 1, r, api.ErrAway)
		}
	}
}

func TestKeepTwice(t *testing.T) {
	for _, x := range full() {
		for _, k := range x.Replies {
			wantKeepRefused(t, full(), 20, x.Client, k.Seq, k.Reply, api.ErrTwice)
			for _, r := range append(goodReplies(), noReplies()...) {
				wantKeepRefused(t, full(), 20, x.Client, k.Seq, r, api.ErrTwice)
			}
		}
	}
}

func TestKeepWhatMayNotBe(t *testing.T) {
	for _, x := range full() {
		for _, seq := range append([]int{x.Acked, x.Acked - 1, x.Acked + api.Window + 1, 1000}, noSeqs...) {
			wantKeepRefused(t, full(), 20, x.Client, seq, api.Reply{N: 1}, api.ErrRange)
			wantKeepRefused(t, full(), 20, x.Client, seq, api.Reply{Code: -1}, api.ErrRange)
		}
	}
	for _, r := range noReplies() {
		for seq := 6; seq <= 5+api.Window; seq++ {
			wantKeepRefused(t, full(), 20, 4, seq, r, api.ErrRange)
		}
	}
}

// All of it, against a model that keeps what it knows of each client by its number, in no order.

type known struct {
	id, acked, last int
	replies         map[int]api.Reply
}

type model map[int]*known

func (m model) sessions() []api.Session {
	var l []api.Session
	for client := 1; client <= api.MaxClient; client++ {
		k := m[client]
		if k == nil {
			continue
		}
		x := of(client, k.id, k.acked, k.last)
		for seq := k.acked + 1; seq <= k.acked+api.Window; seq++ {
			if r, there := k.replies[seq]; there {
				x.Replies = append(x.Replies, api.Kept{Seq: seq, Reply: r})
			}
		}
		l = append(l, x)
	}
	return l
}

func (m model) fresh(index int) {
	for client, k := range m {
		if index-k.last >= api.MaxIdle {
			delete(m, client)
		}
	}
}

func (m model) join(entry, client int) api.Reply {
	if k := m[client]; k != nil {
		k.last = entry
		return api.Reply{Code: api.ErrTwice, N: k.id}
	}
	if len(m) >= api.MaxSessions {
		return api.Reply{Code: api.ErrFull}
	}
	m[client] = &known{id: entry, last: entry, replies: map[int]api.Reply{}}
	return api.Reply{N: entry}
}

func (m model) leave(client int) api.Reply {
	if m[client] == nil {
		return api.Reply{Code: api.ErrAway}
	}
	delete(m, client)
	return api.Reply{}
}

func (m model) ready(entry int, c api.Command) (api.Reply, bool) {
	k := m[c.Client]
	if k == nil || k.id != c.Session {
		return api.Reply{Code: api.ErrAway}, false
	}
	k.last = entry
	if c.Acked > k.acked {
		k.acked = c.Acked
	}
	if c.Seq <= k.acked {
		return api.Reply{Code: api.ErrOld}, false
	}
	if r, there := k.replies[c.Seq]; there {
		return r, false
	}
	if c.Seq-k.acked > api.Window {
		return api.Reply{Code: api.ErrRange}, false
	}
	return api.Reply{}, true
}

func (m model) keep(client, seq int, r api.Reply) api.Errno {
	k := m[client]
	if k == nil {
		return api.ErrAway
	}
	if _, there := k.replies[seq]; there && seq > k.acked {
		return api.ErrTwice
	}
	if seq <= k.acked || seq-k.acked > api.Window || len(r.Text) > api.MaxValue {
		return api.ErrRange
	}
	k.replies[seq] = r
	return api.OK
}

// drawCall: mostly of the client's own session, and of calls that it may be at.
func (m model) drawCall(d *die, client, entry int) api.Command {
	id, acked := d.roll(entry+1), 0
	if k := m[client]; k != nil && d.roll(8) > 0 {
		id, acked = k.id, k.acked
	}
	seq := min(api.MaxSeq, 1+max(0, acked-2+d.roll(8)))
	return call(client, id, seq, max(0, min(seq-1, acked-1+d.roll(4))))
}

// deed that is drawn: what came of it, by the program and by the model.
func (m model) deed(d *die, l []api.Session, index int) (next []api.Session, got, want string) {
	client := 1 + d.roll(api.MaxClient-2)
	switch d.roll(10) {
	case 0, 1:
		all, r, e := session.Join(l, index, client)
		return all, fmt.Sprint("join ", tell(r), e), fmt.Sprint("join ", tell(m.join(index+1, client)), api.OK)
	case 2:
		all, r, e := session.Leave(l, index, client)
		return all, fmt.Sprint("leave ", tell(r), e), fmt.Sprint("leave ", tell(m.leave(client)), api.OK)
	case 3:
		all, e := session.Fresh(l, index)
		m.fresh(index)
		return all, fmt.Sprint("fresh ", e), fmt.Sprint("fresh ", api.OK)
	case 4, 5:
		c := m.drawCall(d, client, index+1)
		r := api.Reply{Code: api.Errno(d.roll(16)), N: d.roll(100), Text: strings.Repeat("k", d.roll(api.MaxValue+2))}
		all, e := session.Keep(l, index, client, c.Seq, r)
		if e != api.OK { // with an error nothing is answered; on goes what was there
			all = l
		}
		return all, fmt.Sprint("keep ", e), fmt.Sprint("keep ", m.keep(client, c.Seq, r))
	}
	c := m.drawCall(d, client, index+1)
	all, r, todo, e := session.Ready(l, index, c)
	reply, do := m.ready(index+1, c)
	return all, fmt.Sprint("ready ", tell(r), todo, e), fmt.Sprint("ready ", tell(reply), do, api.OK)
}

func TestDrawnDeeds(t *testing.T) {
	d := die(11)
	for range 400 {
		m := model{}
		index := []int{0, 20, 1000, api.MaxIndex - 2000}[d.roll(4)]
		if index > 0 { // one that is near its last call
			m[1+d.roll(api.MaxClient)] = &known{id: index - 3, acked: api.MaxSeq - d.roll(9), last: index, replies: map[int]api.Reply{}}
		}
		l := m.sessions()
		for range 150 {
			before := show(l)
			next, got, want := m.deed(&d, l, index)
			if show(next) != show(m.sessions()) || got != want {
				t.Fatalf("%s at %d is %s, %s; want %s, %s", before, index, show(next), got, show(m.sessions()), want)
			}
			if show(l) != before {
				t.Fatalf("%s at %d was handed in, and is %s", before, index, show(l))
			}
			index += 1 + d.roll(12)
			wantCheck(t, next, index, api.OK)
			l = next
		}
	}
}

// What holds everywhere

// span of memory: where it begins, and how many bytes it has.
type span struct{ from, size uintptr }

func (a span) meets(b span) bool {
	return a.size > 0 && b.size > 0 && a.from < b.from+b.size && b.from < a.from+a.size
}

func textSpan(s string) span {
	return span{uintptr(unsafe.Pointer(unsafe.StringData(s))), uintptr(len(s))}
}

// spans of sessions: the list, its replies (with all their spare room) and their texts.
func spans(l []api.Session) []span {
	all := []span{{uintptr(unsafe.Pointer(unsafe.SliceData(l))), uintptr(cap(l)) * unsafe.Sizeof(api.Session{})}}
	for _, x := range l[:cap(l)] {
		all = append(all, span{uintptr(unsafe.Pointer(unsafe.SliceData(x.Replies))), uintptr(cap(x.Replies)) * unsafe.Sizeof(api.Kept{})})
		for _, k := range x.Replies[:cap(x.Replies)] {
			all = append(all, textSpan(k.Reply.Text))
		}
	}
	return all
}

// roomy sessions, after the entry 20: the list and the replies have spare room, with something in it, and all replies
// lie in one list, their texts in one text.
func roomy() []api.Session {
	text := "abcdefghijkl"
	var replies []api.Kept
	for i, seq := range []int{1, 2, 3, 77, 6, 8, 78, 79, 80} {
		replies = append(replies, kept(seq, api.OK, i, text[i:i+3]))
	}
	l := []api.Session{
		of(2, 1, 0, 11, replies[0:3:4]...),
		of(4, 6, 5, 14, replies[4:6:8]...),
		of(6, 7, 2, 20, replies[8:8:9]...),
		of(99, 98, 97, 96),
	}
	return l[:3]
}

// deeds: each call that answers sessions, in each of its ways, and how many it answers of roomy ones.
var deeds = []struct {
	name string
	many int
	do   func(l []api.Session, r api.Reply) ([]api.Session, api.Reply)
}{
	{"Copy", 3, func(l []api.Session, _ api.Reply) ([]api.Session, api.Reply) { return session.Copy(l), api.Reply{} }},
	{"Fresh: all", 3, fresh(20)},
	{"Fresh: but the first one", 2, fresh(51)},
	{"Fresh: none", 0, fresh(60)},
	{"Join: ahead of all", 4, join(1)},
	{"Join: between", 4, join(5)},
	{"Join: behind all", 4, join(7)},
	{"Join: twice", 3, join(4)},
	{"Leave: the first one", 2, leave(2)},
	{"Leave: the last one", 2, leave(6)},
	{"Leave: away", 3, leave(9)},
	{"Ready: away", 3, ready(call(4, 7, 6, 5))},
	{"Ready: to be done", 3, ready(call(4, 6, 7, 5))},
	{"Ready: known", 3, ready(call(2, 1, 4, 2))},
	{"Ready: all known", 3, ready(call(4, 6, 9, 8))},
	{"Ready: old", 3, ready(call(4, 6, 5, 4))},
	{"Ready: kept", 3, ready(call(2, 1, 2, 0))},
	{"Ready: kept, and known below", 3, ready(call(2, 1, 3, 2))},
	{"Ready: too high", 3, ready(call(2, 1, 9, 1))},
	{"Keep: behind all", 3, keep(4, 9)},
	{"Keep: between", 3, keep(4, 7)},
	{"Keep: the first one", 3, keep(6, 3)},
	{"Keep: refused", 0, keep(4, 8)},
}

type deed = func(l []api.Session, r api.Reply) ([]api.Session, api.Reply)

func fresh(index int) deed {
	return func(l []api.Session, _ api.Reply) ([]api.Session, api.Reply) {
		all, _ := session.Fresh(l, index)
		return all, api.Reply{}
	}
}

func join(client int) deed {
	return func(l []api.Session, _ api.Reply) ([]api.Session, api.Reply) {
		all, r, _ := session.Join(l, 20, client)
		return all, r
	}
}

func leave(client int) deed {
	return func(l []api.Session, _ api.Reply) ([]api.Session, api.Reply) {
		all, r, _ := session.Leave(l, 20, client)
		return all, r
	}
}

func ready(c api.Command) deed {
	return func(l []api.Session, _ api.Reply) ([]api.Session, api.Reply) {
		all, r, _, _ := session.Ready(l, 20, c)
		return all, r
	}
}

func keep(client, seq int) deed {
	return func(l []api.Session, r api.Reply) ([]api.Session, api.Reply) {
		all, _ := session.Keep(l, 20, client, seq, r)
		return all, api.Reply{}
	}
}

// whole: sessions with all that lies in their spare room.
func whole(l []api.Session) string {
	all := slices.Clone(l[:cap(l)])
	for i, x := range all {
		all[i].Replies = x.Replies[:cap(x.Replies)]
	}
	return show(all)
}

func TestWhatIsHandedInStays(t *testing.T) {
	want := whole(roomy())
	for _, c := range deeds {
		l := roomy()
		c.do(l, api.Reply{N: 5, Text: "new"})
		session.Check(l, 20)
		if got := whole(l); got != want {
			t.Errorf("%s leaves %s of %s", c.name, got, want)
		}
	}
}

func TestAnswersAreNewMemory(t *testing.T) {
	for _, c := range deeds {
		l := roomy()
		r := api.Reply{N: 5, Text: strings.Clone("new")}
		first, reply := c.do(l, r)
		second, other := c.do(l, r)
		if len(first) != c.many {
			t.Errorf("%s answers %s", c.name, show(first))
		}
		others := append(append(spans(l), spans(second)...), textSpan(r.Text), textSpan(other.Text))
		own := append(spans(first), textSpan(reply.Text))
		for i, a := range own {
			for _, b := range others {
				if a.meets(b) {
					t.Errorf("%s: an answer shares memory with what was handed in, or with another answer", c.name)
				}
			}
			for _, b := range own[:i] {
				if a.meets(b) {
					t.Errorf("%s: two parts of an answer share memory", c.name)
				}
			}
		}
	}
}
