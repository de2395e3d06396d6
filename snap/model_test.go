package snap_test

import (
	"encoding/binary"
	"strings"
	"testing"

	"tackroom/api"
	"tackroom/machine"
	"tackroom/snap"
)

// All of it, at drawn states and bytes, against a model: it reads by the library's own means, and whatever is wrong
// ends it on the spot.

// model of Decode.
type model struct{ rest []byte }

// refusal ends the model.
type refusal api.Errno

func need(holds bool, e api.Errno) {
	if !holds {
		panic(refusal(e))
	}
}

func (m *model) number() int {
	end := 0
	for need(end < len(m.rest), api.ErrShort); m.rest[end] >= 128; need(end < len(m.rest), api.ErrShort) {
		end++
	}
	n, size := binary.Uvarint(m.rest)
	need(size == end+1 && size <= 6 && n <= api.MaxNumber, api.ErrForm)
	need(size == len(binary.AppendUvarint(nil, n)), api.ErrForm)
	m.rest = m.rest[size:]
	return int(n)
}

func (m *model) text() string {
	n := m.number()
	need(n <= api.MaxBytes, api.ErrSize)
	need(n <= len(m.rest), api.ErrShort)
	s := string(m.rest[:n])
	m.rest = m.rest[n:]
	return s
}

func (m *model) each(most int, do func()) {
	n := m.number()
	need(n <= most, api.ErrSize)
	for range n {
		do()
	}
}

func (m *model) state() (s api.State) {
	s.Index = m.number()
	m.each(5, func() {
		x := api.Lock{}
		x.Name = m.text()
		x.Holder = m.number()
		x.Fence = m.number()
		m.each(3, func() { x.Line = append(x.Line, m.number()) })
		s.Locks = append(s.Locks, x)
	})
	m.each(5, func() {
		x := api.Pair{}
		x.Name = m.text()
		x.Value = m.text()
		x.Version = m.number()
		s.Pairs = append(s.Pairs, x)
	})
	m.each(4, func() {
		x := api.Session{}
		x.Client = m.number()
		x.Id = m.number()
		x.Acked = m.number()
		x.Last = m.number()
		m.each(4, func() {
			k := api.Kept{}
			k.Seq = m.number()
			k.Reply.Code = api.Errno(m.number())
			k.Reply.N = m.number()
			k.Reply.Text = m.text()
			x.Replies = append(x.Replies, k)
		})
		s.Sessions = append(s.Sessions, x)
	})
	return s
}

// decode as the model does.
func decode(b string) (s api.State, e api.Errno) {
	defer func() {
		if r, refused := recover().(refusal); refused {
			s, e = api.State{}, api.Errno(r)
		}
	}()
	need(len(b) <= api.MaxBytes, api.ErrSize)
	need(len(b) >= 4, api.ErrShort)
	need(b == sealed(b[:len(b)-4]), api.ErrSum)
	m := model{[]byte(b[:len(b)-4])}
	s = m.state()
	need(len(m.rest) == 0, api.ErrForm)
	e = machine.Check(s)
	need(e == api.OK, e)
	return s, api.OK
}

// names in order, so that some of them, one behind another, may be together.
var names = []string{"a", "aa", "ab", "abcdef", "b", "key", "z", "zzzzzz"}

// some names, at most five of them.
func (d *die) names() []string {
	var l []string
	for _, name := range names {
		if d.roll(2) == 0 && len(l) < 5 {
			l = append(l, name)
		}
	}
	return l
}

// number from 0 to most, of any length.
func (d *die) number(most int) int { return d.roll(most+1) >> d.roll(31) }

func (d *die) text() string {
	b := make([]byte, d.roll(api.MaxValue+1))
	for i := range b {
		b[i] = byte(d.roll(256))
	}
	return string(b)
}

func (d *die) lock(name string) api.Lock {
	x := api.Lock{Name: name, Holder: d.roll(api.MaxClient + 1), Fence: 1 + d.number(api.MaxFence-1)}
	for i := range d.roll(api.MaxWaiters+1) * min(1, x.Holder) {
		x.Line = append(x.Line, 1+(x.Holder+i)%api.MaxClient)
	}
	return x
}

func (d *die) session(client, index int) api.Session {
	x := api.Session{Client: client, Id: 1 + d.number(index-1), Acked: d.number(api.MaxSeq)}
	x.Last = x.Id + d.number(index-x.Id)
	for i := range api.Window {
		if d.roll(2) == 0 {
			x.Replies = append(x.Replies, kept(x.Acked+1+i, api.Errno(d.roll(16)), d.number(api.MaxFence), d.text()))
		}
	}
	return x
}

// state that may be.
func (d *die) state() api.State {
	s := api.State{Index: d.number(api.MaxIndex)}
	for _, name := range d.names() {
		s.Locks = append(s.Locks, d.lock(name))
	}
	for _, name := range d.names() {
		s.Pairs = append(s.Pairs, pairOf(name, d.text(), 1+d.number(api.MaxFence-1)))
	}
	for client := 1; client <= api.MaxClient && s.Index > 0; client++ {
		if d.roll(3) == 0 && len(s.Sessions) < api.MaxSessions {
			s.Sessions = append(s.Sessions, d.session(client, s.Index))
		}
	}
	return s
}

// spoil the bytes of a state: one part or two are others, or are not there, or stand twice.
func (d *die) spoil(s api.State) string {
	all := parts(s)
	others := []string{
		"\x00", "\x01", "\x03", "\x04", "\x05", "\x06", "\x80", "\x80\x00", "\xac\x02", "\x89\x27", "\x01A", "\x02zz",
		"\x80\x80\x80\x80\x80\x20",
	}
	for range 1 + d.roll(2) {
		x := &all[d.roll(len(all))]
		switch d.roll(8) {
		case 0:
			x.bytes = ""
		case 1:
			x.bytes += x.bytes
		case 2:
			x.bytes = all[d.roll(len(all))].bytes
		case 3:
			x.bytes = strings.ToUpper(x.bytes)
		default:
			x.bytes = others[d.roll(len(others))]
		}
	}
	return join(all)
}

func TestDrawnStates(t *testing.T) {
	d := die(71)
	for range 5000 {
		s := d.state()
		b := sealed(join(parts(s)))
		wantEncode(t, s, b)
		wantDecode(t, b, s)
	}
}

func TestDrawnBytes(t *testing.T) {
	d := die(72)
	seen := map[api.Errno]int{}
	for range 30000 {
		b := d.spoil(d.state())
		switch d.roll(20) {
		case 0:
			b += "seal"
		case 1:
			b += strings.Repeat("\x00", api.MaxBytes-d.roll(500))
			fallthrough
		default:
			b = sealed(b)
		}
		want, wantE := decode(b)
		got, e := snap.Decode(b)
		if show(got) != show(want) || e != wantE {
			t.Fatalf("Decode(%q) = %s, %d; want %s, %d", b, show(got), e, show(want), wantE)
		}
		seen[e]++
		if e != api.OK {
			continue
		}
		// no two rows of bytes are one state
		if again, e := snap.Encode(got); again != b || e != api.OK {
			t.Fatalf("Decode(%q) = %s, which is %q, %d", b, show(got), again, e)
		}
	}
	for _, e := range []api.Errno{api.OK, api.ErrSize, api.ErrRange, api.ErrForm, api.ErrShort, api.ErrOrder, api.ErrSum} {
		if seen[e] < 100 {
			t.Errorf("%d was told of %d drawn bytes alone", e, seen[e])
		}
	}
}
