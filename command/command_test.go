package command_test

import (
	"encoding/binary"
	"fmt"
	"math"
	"strings"
	"testing"
	"unsafe"

	"tackroom/api"
	"tackroom/command"
)

// die: numbers that look drawn, the same each time.
type die uint64

func (d *die) roll(most int) int {
	*d = *d*6364136223846793005 + 1442695040888963407
	return int(uint64(*d>>33) % uint64(most))
}

// show a command; its texts may be bytes of any kind.
func show(c api.Command) string { return fmt.Sprintf("%.300q", fmt.Sprintf("%+v", c)) }

// plain: operations of each kind that may be.
var plain = []api.Op{
	{Kind: api.Try, A: "a"},
	{Kind: api.Line, A: "ab"},
	{Kind: api.Free, A: "abcdef"},
	{Kind: api.Who, A: "z"},
	{Kind: api.Set, A: "key", B: "value", N: 7},
	{Kind: api.Get, A: "zzzzzz"},
}

// names that may be: of each length, and of all letters.
var names = []string{"a", "z", "ab", "key", "lmno", "pqrst", "aaaaaa", "abcdef", "ghijkl", "uvwxyz", "zzzzzz"}

// noNames: too short, too long, and the bytes next to a and z among others.
var noNames = []string{
	"", "abcdefg", strings.Repeat("a", 1000), "A", "Z", "`", "{", "aA", "Ab", "abcdeF", "a b", " a", "a ", "a1", "0",
	"a\x00", "\x00", "a\n", "é", "aé", "\xff", "a\xe1", "a-b", "ab_",
}

// values that may be: none, the longest ones, and bytes of any kind.
var values = []string{
	"", "x", " ", "\x00", "\xff", "\x00\xff\x80\n", "Value 1", strings.Repeat("v", api.MaxValue-1),
	strings.Repeat("v", api.MaxValue), strings.Repeat("\x00", api.MaxValue), strings.Repeat("é", api.MaxValue/2),
}

// noValues: too long, in bytes.
var noValues = []string{
	strings.Repeat("v", api.MaxValue+1), strings.Repeat("\x00", api.MaxValue+1), strings.Repeat("v", 4000),
	strings.Repeat("é", api.MaxValue/2+1), // in runes it would do
}

// outside: the numbers next to the bounds first, then such as look like others in fewer bits.
func outside(least, most int) []int {
	return []int{
		least - 1, most + 1, -1 << 31, -1 << 32, 1 << 32, 1<<32 + 1, 1<<32 + 2, 1<<40 + 3, math.MinInt, math.MinInt + 1,
		math.MaxInt - 1, math.MaxInt,
	}
}

func call(session, seq, acked int, o api.Op) api.Command {
	return api.Command{Kind: api.Call, Client: 3, Session: session, Seq: seq, Acked: acked, Op: o}
}

// mayBe: commands that are as they must be, and their bytes.
var mayBe = []struct {
	c     api.Command
	bytes string
}{
	{api.Command{Kind: api.Join, Client: 1}, "\x01\x01"},
	{api.Command{Kind: api.Join, Client: 3}, "\x01\x03"},
	{api.Command{Kind: api.Join, Client: api.MaxClient}, "\x01\x09"},
	{api.Command{Kind: api.Leave, Client: 1}, "\x03\x01"},
	{api.Command{Kind: api.Leave, Client: api.MaxClient}, "\x03\x09"},
	{call(1, 1, 0, plain[0]), "\x02\x03\x01\x01\x00\x01\x00\x01a\x00"},
	{call(127, 128, 127, plain[1]), "\x02\x03\x7f\x80\x01\x7f\x02\x00\x02ab\x00"},
	{call(128, 127, 126, plain[2]), "\x02\x03\x80\x01\x7f\x7e\x03\x00\x06abcdef\x00"},
	{call(300, 5, 4, plain[3]), "\x02\x03\xac\x02\x05\x04\x04\x00\x01z\x00"},
	{call(4, 3, 2, plain[4]), "\x02\x03\x04\x03\x02\x05\x07\x03key\x05value"},
	{call(9, 8, 0, plain[5]), "\x02\x03\x09\x08\x00\x06\x00\x06zzzzzz\x00"},
	{call(2, 3, 1, api.Op{Kind: api.Set, A: "a", N: 1}), "\x02\x03\x02\x03\x01\x05\x01\x01a\x00"},
	{call(2, 3, 1, api.Op{Kind: api.Set, A: "a", B: "\x00\xff", N: 300}), "\x02\x03\x02\x03\x01\x05\xac\x02\x01a\x02\x00\xff"},
	{
		api.Command{Kind: api.Call, Client: api.MaxClient, Session: api.MaxIndex, Seq: api.MaxSeq, Acked: api.MaxSeq - 1,
			Op: api.Op{Kind: api.Set, A: "abcdef", B: strings.Repeat("v", api.MaxValue), N: api.MaxFence}},
		"\x02\x09\x80\x80\x80\x80\x04\x80\x80\x40\xff\xff\x3f\x05\x80\x80\x80\x80\x04\x06abcdef\x0cvvvvvvvvvvvv",
	},
	{
		api.Command{Kind: api.Call, Client: 1, Session: api.MaxIndex - 1, Seq: api.MaxSeq - 1, Op: plain[0]},
		"\x02\x01\xff\xff\xff\xff\x03\xff\xff\x3f\x00\x01\x00\x01a\x00",
	},
}

func wantCheckOp(t *testing.T, o api.Op, want api.Errno) {
	t.Helper()
	if e := command.CheckOp(o); e != want {
		t.Errorf("CheckOp({%d %.20q %.20q %d}) = %d, want %d", o.Kind, o.A, o.B, o.N, e, want)
	}
}

// wantRefused: by Check, by Encode and, if the command can be written at all, by Decode, with nothing told but the error.
func wantRefused(t *testing.T, c api.Command, want api.Errno) {
	t.Helper()
	if e := command.Check(c); e != want {
		t.Errorf("Check(%s) = %d, want %d", show(c), e, want)
	}
	if s, e := command.Encode(c); s != "" || e != want {
		t.Errorf("Encode(%s) = %q, %d; want nothing and %d", show(c), s, e, want)
	}
	if s, ok := write(c); ok {
		wantDecode(t, s, api.Command{}, want)
	}
}

// wantAllowed: by Check, by Encode and by Decode.
func wantAllowed(t *testing.T, c api.Command) {
	t.Helper()
	if e := command.Check(c); e != api.OK {
		t.Errorf("Check(%s) = %d, want 0", show(c), e)
	}
	want, _ := write(c)
	if s, e := command.Encode(c); s != want || e != api.OK {
		t.Errorf("Encode(%s) = %q, %d; want %q, 0", show(c), s, e, want)
	}
	wantDecode(t, want, c, api.OK)
}

func wantDecode(t *testing.T, s string, want api.Command, wantErr api.Errno) {
	t.Helper()
	if c, e := command.Decode(s); c != want || e != wantErr {
		t.Errorf("Decode(%.80q) of %d bytes = %s, %d; want %s, %d", s, len(s), show(c), e, show(want), wantErr)
	}
}

// write a command, by the library's varints, whether it may be or not; false: it has what no bytes tell.
func write(c api.Command) (string, bool) {
	if c.Kind < 0 || c.Kind > 255 || c.Client < 0 || c.Client > 255 {
		return "", false
	}
	head := []byte{byte(c.Kind), byte(c.Client)}
	if c.Kind != api.Call {
		return string(head), c == api.Command{Kind: c.Kind, Client: c.Client}
	}
	s := head
	for _, n := range []int{c.Session, c.Seq, c.Acked, c.Op.Kind, c.Op.N} {
		if n < 0 || n > api.MaxNumber {
			return "", false
		}
		s = binary.AppendUvarint(s, uint64(n))
	}
	for _, text := range []string{c.Op.A, c.Op.B} {
		s = append(binary.AppendUvarint(s, uint64(len(text))), text...)
	}
	return string(s), len(s) <= api.MaxBytes
}

// P4.1

func TestCheckOp(t *testing.T) {
	for _, o := range plain {
		wantCheckOp(t, o, api.OK)
		for _, name := range names {
			o.A = name
			wantCheckOp(t, o, api.OK)
		}
	}
	for _, value := range values {
		for _, fence := range []int{1, 2, 1000, api.MaxFence - 1, api.MaxFence} {
			wantCheckOp(t, api.Op{Kind: api.Set, A: "a", B: value, N: fence}, api.OK)
		}
	}
}

func TestCheckOpKind(t *testing.T) {
	for _, kind := range append(outside(api.Try, api.Get), -1, 8, 100, 256+api.Set) {
		wantCheckOp(t, api.Op{Kind: kind, A: "a"}, api.ErrKind)
		wantCheckOp(t, api.Op{Kind: kind, A: "a", B: "x", N: 1}, api.ErrKind)
		wantCheckOp(t, api.Op{Kind: kind}, api.ErrKind)
	}
}

func TestCheckOpForm(t *testing.T) {
	for _, o := range plain {
		for _, name := range noNames {
			bad := o
			bad.A = name
			wantCheckOp(t, bad, api.ErrForm)
		}
		for _, value := range append(values, noValues...) {
			if o.Kind != api.Set && value != "" {
				bad := o
				bad.B = value
				wantCheckOp(t, bad, api.ErrForm)
			}
		}
	}
}

func TestCheckOpSize(t *testing.T) {
	for _, value := range noValues {
		wantCheckOp(t, api.Op{Kind: api.Set, A: "a", B: value, N: 1}, api.ErrSize)
	}
}

func TestCheckOpRange(t *testing.T) {
	for _, o := range plain {
		no := outside(0, 0)
		if o.Kind == api.Set {
			no = append(outside(1, api.MaxFence), -1)
		}
		for _, n := range no {
			o.N = n
			wantCheckOp(t, o, api.ErrRange)
		}
	}
}

// fault: what may be wrong with a command, and the error that tells it.
type fault struct {
	spoil func(c *api.Command)
	e     api.Errno
}

// opFaults in the order in which the errors are named.
var opFaults = []fault{
	{func(c *api.Command) { c.Op.Kind = 7 }, api.ErrKind},
	{func(c *api.Command) { c.Op.A = "A" }, api.ErrForm},
	{func(c *api.Command) { c.Op.B = noValues[0] }, api.ErrSize},
	{func(c *api.Command) { c.Op.N = api.MaxFence + 1 }, api.ErrRange},
}

// callFaults: likewise.
var callFaults = append([]fault{
	{func(c *api.Command) { c.Client = 10 }, api.ErrRange},
	{func(c *api.Command) { c.Session = 0 }, api.ErrRange},
	{func(c *api.Command) { c.Acked = c.Seq }, api.ErrRange},
	{func(c *api.Command) { c.Seq = api.MaxSeq + 1 }, api.ErrRange},
}, opFaults...)

// eachChoice of faults, and what is named first of them.
func eachChoice(c api.Command, l []fault, do func(c api.Command, first api.Errno)) {
	for choice := 1; choice < 1<<len(l); choice++ {
		spoilt, first := c, api.OK
		for i, f := range l {
			if choice>>i&1 == 1 {
				f.spoil(&spoilt)
				if first == api.OK {
					first = f.e
				}
			}
		}
		do(spoilt, first)
	}
}

func TestCheckOpSeveralAtOnce(t *testing.T) {
	eachChoice(call(4, 3, 2, plain[4]), opFaults, func(c api.Command, first api.Errno) { wantCheckOp(t, c.Op, first) })
	for _, o := range plain {
		if o.Kind != api.Set {
			o.B, o.N = noValues[0], 1
			wantCheckOp(t, o, api.ErrForm)
			o.B = "x"
			wantCheckOp(t, o, api.ErrForm)
			o.A = ""
			wantCheckOp(t, o, api.ErrForm)
		}
	}
}

// P4.2

func TestCheck(t *testing.T) {
	for _, c := range mayBe {
		wantAllowed(t, c.c)
	}
	for client := 1; client <= api.MaxClient; client++ {
		wantAllowed(t, api.Command{Kind: api.Join, Client: client})
		wantAllowed(t, api.Command{Kind: api.Leave, Client: client})
		for _, o := range plain {
			wantAllowed(t, api.Command{Kind: api.Call, Client: client, Session: 1, Seq: 1, Op: o})
		}
	}
}

func TestCheckNumbersOfCalls(t *testing.T) {
	for _, session := range []int{1, 2, 1000, api.MaxIndex - 1, api.MaxIndex} {
		for _, seq := range []int{1, 2, 3, 128, 1000, api.MaxSeq - 1, api.MaxSeq} {
			for _, acked := range []int{0, seq / 2, seq - 1} {
				wantAllowed(t, call(session, seq, acked, plain[0]))
			}
			for _, acked := range outside(0, seq-1) {
				wantRefused(t, call(session, seq, acked, plain[0]), api.ErrRange)
			}
		}
	}
	for _, session := range append(outside(1, api.MaxIndex), -1) {
		wantRefused(t, call(session, 3, 2, plain[0]), api.ErrRange)
	}
	for _, seq := range append(outside(1, api.MaxSeq), -1) {
		wantRefused(t, call(1, seq, 0, plain[0]), api.ErrRange)
		wantRefused(t, call(1, seq, seq-1, plain[0]), api.ErrRange)
	}
}

func TestCheckKind(t *testing.T) {
	for _, kind := range append(outside(api.Join, api.Leave), -1, 5, 100, 255, 256+api.Join) {
		wantRefused(t, api.Command{Kind: kind, Client: 3}, api.ErrKind)
		wantRefused(t, api.Command{Kind: kind}, api.ErrKind)
		c := call(4, 3, 2, plain[4])
		c.Kind = kind
		wantRefused(t, c, api.ErrKind)
	}
}

func TestCheckClient(t *testing.T) {
	for _, client := range append(outside(1, api.MaxClient), -1, 100, 255, 256+1) {
		wantRefused(t, api.Command{Kind: api.Join, Client: client}, api.ErrRange)
		wantRefused(t, api.Command{Kind: api.Leave, Client: client}, api.ErrRange)
		// something else is not 0 as well: the client is named first
		wantRefused(t, api.Command{Kind: api.Join, Client: client, Seq: 1}, api.ErrRange)
		wantRefused(t, api.Command{Kind: api.Leave, Client: client, Op: plain[0]}, api.ErrRange)
		c := call(4, 3, 2, plain[4])
		c.Client = client
		wantRefused(t, c, api.ErrRange)
	}
}

func TestCheckNothingElse(t *testing.T) {
	for _, kind := range []int{api.Join, api.Leave} {
		for _, n := range []int{1, -1, 1 << 32, math.MinInt, math.MaxInt} {
			for _, c := range []api.Command{
				{Session: n}, {Seq: n}, {Acked: n}, {Op: api.Op{Kind: n}}, {Op: api.Op{N: n}}, {Session: n, Op: api.Op{Kind: n, A: "A"}},
			} {
				c.Kind, c.Client = kind, 3
				wantRefused(t, c, api.ErrForm)
			}
		}
		for _, c := range []api.Command{
			{Op: api.Op{A: "a"}}, {Op: api.Op{B: "x"}}, {Op: api.Op{A: "\x00"}}, {Op: api.Op{B: "\x00"}}, {Op: api.Op{B: noValues[0]}},
			{Op: plain[0]}, {Op: plain[4]}, {Session: 4, Seq: 3, Acked: 2, Op: plain[4]},
		} {
			c.Kind, c.Client = kind, 3
			wantRefused(t, c, api.ErrForm)
		}
	}
}

func TestCheckOperations(t *testing.T) {
	for _, o := range plain {
		for _, name := range append(names, noNames...) {
			for _, value := range append(values, noValues...) {
				for _, n := range []int{0, 1, 2, api.MaxFence, api.MaxFence + 1, -1} {
					for _, kind := range []int{0, o.Kind, 7} {
						o := api.Op{Kind: kind, A: name, B: value, N: n}
						if e := command.CheckOp(o); e != api.OK {
							wantRefused(t, call(4, 3, 2, o), e)
						} else {
							wantAllowed(t, call(4, 3, 2, o))
						}
					}
				}
			}
		}
	}
}

func TestCheckSeveralAtOnce(t *testing.T) {
	for _, acked := range []int{0, 1, 2} {
		c := call(4, 3, acked, plain[4])
		eachChoice(c, callFaults, func(c api.Command, first api.Errno) { wantRefused(t, c, first) })
	}
	wantRefused(t, call(1, 1, 0, api.Op{}), api.ErrKind)
	wantRefused(t, api.Command{}, api.ErrKind)
	wantRefused(t, api.Command{Kind: api.Call}, api.ErrRange)
	wantRefused(t, api.Command{Kind: api.Call, Client: 1}, api.ErrRange)
}

// P4.3

func TestEncode(t *testing.T) {
	for _, c := range mayBe {
		if s, e := command.Encode(c.c); s != c.bytes || e != api.OK {
			t.Errorf("Encode(%s) = %q, %d; want %q, 0", show(c.c), s, e, c.bytes)
		}
	}
}

// P4.4

func TestDecode(t *testing.T) {
	for _, c := range mayBe {
		wantDecode(t, c.bytes, c.c, api.OK)
	}
}

func TestDecodeSize(t *testing.T) {
	full := strings.Repeat("x", api.MaxBytes)
	for _, c := range mayBe {
		room := api.MaxBytes - len(c.bytes)
		wantDecode(t, c.bytes+full[:room], api.Command{}, api.ErrForm)
		wantDecode(t, c.bytes+full[:room+1], api.Command{}, api.ErrSize)
		wantDecode(t, c.bytes+full+full, api.Command{}, api.ErrSize)
	}
	// whatever else is wrong
	for _, fill := range []string{"\x00", "\x02", "\x04", "\xff"} {
		wantDecode(t, strings.Repeat(fill, api.MaxBytes+1), api.Command{}, api.ErrSize)
		wantDecode(t, strings.Repeat(fill, 1<<20), api.Command{}, api.ErrSize)
	}
	// a Call of just MaxBytes, whose value is too long, and one byte more
	head, length := "\x02\x03\x04\x03\x02\x05\x07\x01a", "\xfd\x26"
	wantDecode(t, head+length+full[:4989], api.Command{}, api.ErrSize)
	wantDecode(t, head+length+full[:4988], api.Command{}, api.ErrShort)
	wantDecode(t, "\x02\x03\x04\x03\x02\x06\x00\x01a"+length+full[:4989], api.Command{}, api.ErrForm)
	wantDecode(t, "\x02\x03\x04\x03\x02\x06\x00\x01a"+length+full[:4990], api.Command{}, api.ErrSize)
}

func TestDecodeShort(t *testing.T) {
	wantDecode(t, "", api.Command{}, api.ErrShort)
	for b := range 256 {
		wantDecode(t, string([]byte{byte(b)}), api.Command{}, api.ErrShort)
	}
	for _, c := range mayBe {
		for i := range len(c.bytes) {
			wantDecode(t, c.bytes[:i], api.Command{}, api.ErrShort)
		}
	}
	// A Call that ends is short, whatever Check would refuse of what is there.
	for _, s := range []string{"\x02\x00", "\x02\xff\x00\x00", "\x02\x03\x00\x00\x00\x00\x00\x00", "\x02\x03\x01\x01\x01\x07\x01\x01A\x01"} {
		wantDecode(t, s, api.Command{}, api.ErrShort)
	}
}

func TestDecodeHeads(t *testing.T) {
	for kind := range 256 {
		for client := range 256 {
			s, want, e := string([]byte{byte(kind), byte(client)}), api.Command{}, api.OK
			switch {
			case kind == api.Call:
				e = api.ErrShort
			case kind != api.Join && kind != api.Leave:
				e = api.ErrKind
			case client == 0 || client > api.MaxClient:
				e = api.ErrRange
			default:
				want = api.Command{Kind: kind, Client: client}
			}
			wantDecode(t, s, want, e)
			// what is behind it goes ahead of what Check refuses
			if kind != api.Call {
				wantDecode(t, s+"\x00", api.Command{}, api.ErrForm)
				wantDecode(t, s+"\x01\x01\x00\x01\x00\x01a\x00", api.Command{}, api.ErrForm)
				wantDecode(t, s+"\x80", api.Command{}, api.ErrForm)
			}
		}
	}
}

func TestDecodeMoreBytes(t *testing.T) {
	for _, c := range mayBe {
		for _, tail := range []string{"\x00", "x", "\x80", "\xff\xff", c.bytes} {
			wantDecode(t, c.bytes+tail, api.Command{}, api.ErrForm)
		}
	}
	// Check would refuse these as well: what is behind them is named first.
	eachChoice(call(4, 3, 2, plain[4]), callFaults, func(c api.Command, _ api.Errno) {
		if s, ok := write(c); ok {
			wantDecode(t, s+"\x00", api.Command{}, api.ErrForm)
		}
	})
}

// parts of a Call: what is written behind its head.
var parts = []string{"\x04", "\x83\x01", "\x02", "\x05", "\x07", "\x03key", "\x05value"}

// with another part at a place.
func with(at int, part string) string {
	return "\x02\x03" + strings.Join(parts[:at], "") + part + strings.Join(parts[at+1:], "")
}

func TestDecodeEachPart(t *testing.T) {
	wantDecode(t, with(0, parts[0]), call(4, 131, 2, plain[4]), api.OK)
	for at := range parts {
		for _, part := range []string{
			"\x80\x00", "\x85\x00", "\x83\x81\x00", "\x80\x80\x80\x80\x80\x80\x01", strings.Repeat("\xff", 9) + "\x01",
			"\x81\x80\x80\x80\x80\x20", "\xff\xff\xff\xff\xff\x7f",
		} {
			wantDecode(t, with(at, part), api.Command{}, api.ErrForm)
			// nothing but that is behind it, or the bytes end within what is
			ahead := "\x02\x03" + strings.Join(parts[:at], "") + part
			wantDecode(t, ahead, api.Command{}, api.ErrForm)
			wantDecode(t, ahead+"\x80", api.Command{}, api.ErrForm)
		}
		for _, part := range []string{"", "\x80", "\xff\xff", strings.Repeat("\x80", 6), strings.Repeat("\x80", 20)} {
			wantDecode(t, "\x02\x03"+strings.Join(parts[:at], "")+part, api.Command{}, api.ErrShort)
		}
	}
	for at := 5; at < len(parts); at++ {
		ahead := "\x02\x03" + strings.Join(parts[:at], "")
		for _, length := range []string{"\x89\x27", "\xff\xff\x7f", "\x80\x80\x80\x80\x80\x20"} {
			wantDecode(t, ahead+length, api.Command{}, api.ErrSize)
			wantDecode(t, ahead+length+strings.Repeat("x", 4000), api.Command{}, api.ErrSize)
		}
		for _, length := range []string{"\x01", "\x7f", "\x88\x27"} {
			wantDecode(t, ahead+length, api.Command{}, api.ErrShort)
		}
	}
}

// TestDecodeWhatIsWrongFirst: of two parts that are wrong the first one is told; and both ahead of what Check refuses.
func TestDecodeWhatIsWrongFirst(t *testing.T) {
	wrong := []struct {
		part string
		e    api.Errno
	}{
		{"\x80\x00", api.ErrForm}, {"\x89\x27", api.ErrSize},
	}
	for at := range parts {
		for _, first := range wrong {
			if first.e == api.ErrSize && at < 5 {
				continue // a length alone is too great
			}
			for behind := at + 1; behind <= len(parts); behind++ {
				for _, second := range wrong {
					l := append([]string{"\x02\x00"}, parts...)
					l[1+at] = first.part
					if behind < len(parts) {
						l[1+behind] = second.part
					}
					wantDecode(t, strings.Join(l, ""), api.Command{}, first.e)
				}
			}
		}
	}
	// the Session, the Seq, the Op's Kind and its name would be refused
	wantDecode(t, "\x02\x03\x00\x00\x00\x00\x00\x01A\x80\x00", api.Command{}, api.ErrForm)
	wantDecode(t, "\x02\x03\x00\x00\x00\x00\x00\x01A\x01", api.Command{}, api.ErrShort)
	wantDecode(t, "\x02\x03\x00\x00\x00\x00\x00\x01A\x89\x27", api.Command{}, api.ErrSize)
	wantDecode(t, "\x02\x03\x00\x00\x00\x00\x00\x01A\x00\x00", api.Command{}, api.ErrForm)
	wantDecode(t, "\x02\x03\x00\x00\x00\x00\x00\x01A\x00", api.Command{}, api.ErrRange)
}

// All of it, at drawn commands and bytes.

func (d *die) command() api.Command {
	c := api.Command{Kind: 1 + d.roll(3), Client: 1 + d.roll(api.MaxClient)}
	if c.Kind != api.Call {
		return c
	}
	c.Session, c.Seq = 1+d.roll(api.MaxIndex)>>d.roll(30), 1+d.roll(api.MaxSeq)>>d.roll(20)
	c.Acked = d.roll(c.Seq)
	c.Op = api.Op{Kind: 1 + d.roll(6), A: names[d.roll(len(names))]}
	if c.Op.Kind == api.Set {
		c.Op.B, c.Op.N = values[d.roll(len(values))], 1+d.roll(api.MaxFence)>>d.roll(30)
	}
	return c
}

func TestDecodeUndoesEncode(t *testing.T) {
	d := die(8)
	for range 20000 {
		wantAllowed(t, d.command())
	}
}

// TestEncodeUndoesDecode: no two rows of bytes are one command.
func TestEncodeUndoesDecode(t *testing.T) {
	d := die(9)
	edges := "\x00\x01\x02\x03\x05\x06\x07\x09\x7f\x80\xffazA"
	read := 0
	for range 100000 {
		s, _ := command.Encode(d.command())
		at, edge := d.roll(len(s)), d.roll(len(edges))
		end := min(len(s), at+d.roll(3))
		s = s[:at] + edges[edge:edge+d.roll(2)] + s[end:]
		c, e := command.Decode(s)
		if e != api.OK {
			if c != (api.Command{}) {
				t.Fatalf("Decode(%q) = %s, %d; want nothing but the error", s, show(c), e)
			}
			continue
		}
		read++
		if again, e := command.Encode(c); again != s || e != api.OK {
			t.Fatalf("Decode(%q) = %s, which is %q, %d", s, show(c), again, e)
		}
	}
	if read < 10000 {
		t.Errorf("only %d of the drawn bytes were read", read)
	}
}

// What holds everywhere

func sharesMemory(a, b string) bool {
	if a == "" || b == "" {
		return false
	}
	from, to := uintptr(unsafe.Pointer(unsafe.StringData(a))), uintptr(unsafe.Pointer(unsafe.StringData(b)))
	return from < to+uintptr(len(b)) && to < from+uintptr(len(a))
}

func TestAnswersAreNewMemory(t *testing.T) {
	for _, c := range mayBe {
		s := strings.Clone(c.bytes)
		first, _ := command.Decode(s)
		second, _ := command.Decode(s)
		texts := []string{first.Op.A, first.Op.B, second.Op.A, second.Op.B, s}
		for _, in := range []api.Command{first, second} {
			s, _ := command.Encode(in)
			texts = append(texts, s)
		}
		for i, a := range texts {
			for _, b := range texts[:i] {
				if sharesMemory(a, b) {
					t.Errorf("%s: an answer shares memory with what was handed in, or with another answer", show(c.c))
				}
			}
		}
	}
}

func TestWhatIsHandedInStays(t *testing.T) {
	for _, c := range mayBe {
		in, bytes := c.c, []byte(c.bytes)
		s := unsafe.String(unsafe.SliceData(bytes), len(bytes)) // so that a write into it would not end the test
		command.Check(in)
		command.CheckOp(in.Op)
		command.Encode(in)
		command.Decode(s)
		if in != c.c || string(bytes) != c.bytes {
			t.Errorf("%s is left of %s, and %q of %q", show(in), show(c.c), bytes, c.bytes)
		}
	}
}
