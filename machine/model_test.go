package machine_test

import (
	"slices"
	"testing"

	"tackroom/api"
	"tackroom/machine"
)

// All of it, against a model: maps in no order; a lock's queue is one list, its holder ahead.

type queue struct {
	fence int
	line  []int
}

type value struct {
	text    string
	version int
}

type known struct {
	id, acked, last int
	replies         map[int]api.Reply
}

type model struct {
	index   int
	queues  map[string]*queue
	values  map[string]*value
	clients map[int]*known
}

func newModel(index int) *model {
	return &model{index, map[string]*queue{}, map[string]*value{}, map[int]*known{}}
}

var modelNames = []string{"a", "aa", "b", "c", "d", "e", "zzzzzz"} // in order, and more than there is room for

func (m *model) state() api.State {
	s := api.State{Index: m.index}
	for _, name := range modelNames {
		if q := m.queues[name]; q != nil && len(q.line) > 0 {
			s.Locks = append(s.Locks, lockOf(name, q.line[0], q.fence, q.line[1:]...))
		} else if q != nil {
			s.Locks = append(s.Locks, lockOf(name, 0, q.fence))
		}
		if v := m.values[name]; v != nil {
			s.Pairs = append(s.Pairs, pairOf(name, v.text, v.version))
		}
	}
	for client := 1; client <= api.MaxClient; client++ {
		k := m.clients[client]
		if k == nil {
			continue
		}
		x := sessionOf(client, k.id, k.acked, k.last)
		for seq := k.acked + 1; seq <= k.acked+api.Window; seq++ {
			if r, there := k.replies[seq]; there {
				x.Replies = append(x.Replies, api.Kept{Seq: seq, Reply: r})
			}
		}
		s.Sessions = append(s.Sessions, x)
	}
	return s
}

func (m *model) apply(c api.Command) api.Reply {
	for client := 1; client <= api.MaxClient; client++ {
		if k := m.clients[client]; k != nil && m.index-k.last >= api.MaxIdle {
			m.drop(client)
		}
	}
	m.index++
	switch c.Kind {
	case api.Join:
		return m.join(c.Client)
	case api.Leave:
		return m.drop(c.Client)
	}
	return m.call(c)
}

func (m *model) join(client int) api.Reply {
	if k := m.clients[client]; k != nil {
		k.last = m.index
		return api.Reply{Code: api.ErrTwice, N: k.id}
	}
	if len(m.clients) == api.MaxSessions {
		return api.Reply{Code: api.ErrFull}
	}
	m.clients[client] = &known{id: m.index, last: m.index, replies: map[int]api.Reply{}}
	return api.Reply{N: m.index}
}

func (m *model) drop(client int) api.Reply {
	if m.clients[client] == nil {
		return api.Reply{Code: api.ErrAway}
	}
	delete(m.clients, client)
	for name := range m.queues {
		m.free(name, client)
	}
	return api.Reply{}
}

func (m *model) call(c api.Command) api.Reply {
	k := m.clients[c.Client]
	if k == nil || k.id != c.Session {
		return api.Reply{Code: api.ErrAway}
	}
	k.last, k.acked = m.index, max(k.acked, c.Acked)
	if c.Seq <= k.acked {
		return api.Reply{Code: api.ErrOld}
	}
	if r, there := k.replies[c.Seq]; there {
		return r
	}
	if c.Seq-k.acked > api.Window {
		return api.Reply{Code: api.ErrRange}
	}
	k.replies[c.Seq] = m.operate(c.Client, c.Op)
	return k.replies[c.Seq]
}

func (m *model) operate(client int, o api.Op) api.Reply {
	q, v := m.queues[o.A], m.values[o.A]
	switch o.Kind {
	case api.Try:
		return m.take(o.A, client, false)
	case api.Line:
		return m.take(o.A, client, true)
	case api.Free:
		return m.free(o.A, client)
	case api.Who:
		return api.Reply{N: m.holder(o.A)}
	case api.Get:
		if v == nil {
			return api.Reply{Code: api.ErrNone}
		}
		return api.Reply{N: v.version, Text: v.text}
	}
	if m.holder(o.A) != client || q.fence != o.N {
		return api.Reply{Code: api.ErrHeld, N: m.holder(o.A)}
	}
	if v == nil && len(m.values) == api.MaxPairs || v != nil && v.version == api.MaxFence {
		return api.Reply{Code: api.ErrFull}
	}
	if v == nil {
		v = &value{}
		m.values[o.A] = v
	}
	v.text = o.B
	v.version++
	return api.Reply{N: v.version}
}

func (m *model) holder(name string) int {
	if q := m.queues[name]; q != nil && len(q.line) > 0 {
		return q.line[0]
	}
	return 0
}

func (m *model) take(name string, client int, wait bool) api.Reply {
	q := m.queues[name]
	if q == nil && len(m.queues) == api.MaxLocks {
		return api.Reply{Code: api.ErrFull}
	}
	if q == nil {
		q = &queue{}
		m.queues[name] = q
	}
	at := slices.Index(q.line, client)
	switch {
	case len(q.line) == 0 && q.fence == api.MaxFence:
		return api.Reply{Code: api.ErrFull}
	case len(q.line) == 0:
		q.fence++
		q.line = []int{client}
		return api.Reply{N: q.fence}
	case at == 0:
		return api.Reply{N: q.fence}
	case wait && at < 0 && len(q.line) > api.MaxWaiters:
		return api.Reply{Code: api.ErrFull}
	case wait && at < 0:
		q.line = append(q.line, client)
	}
	return api.Reply{Code: api.ErrHeld, N: q.line[0]}
}

func (m *model) free(name string, client int) api.Reply {
	q := m.queues[name]
	if q == nil {
		return api.Reply{Code: api.ErrNone}
	}
	at := slices.Index(q.line, client)
	if at < 0 {
		return api.Reply{Code: api.ErrHeld, N: m.holder(name)}
	}
	q.line = slices.Delete(q.line, at, at+1)
	if at == 0 && q.fence == api.MaxFence {
		q.line = nil
	}
	if at == 0 && len(q.line) > 0 {
		q.fence++
	}
	return api.Reply{N: m.holder(name)}
}

// draw a command: mostly one that may come of the client's session as it is.
func (m *model) draw(d *die, client int) api.Command {
	k := m.clients[client]
	switch roll := d.roll(30); {
	case roll == 0 || k == nil && roll < 20:
		return api.Command{Kind: api.Join, Client: client}
	case roll == 1:
		return api.Command{Kind: api.Leave, Client: client}
	}
	id, acked := 1+d.roll(max(1, m.index)), 0
	if k != nil && d.roll(12) > 0 {
		id, acked = k.id, k.acked
	}
	seq := min(api.MaxSeq, 1+max(0, acked-1+d.roll(7)))
	acked = max(0, min(seq-1, acked-1+d.roll(4)))
	return api.Command{Kind: api.Call, Client: client, Session: id, Seq: seq, Acked: acked, Op: m.drawOp(d)}
}

func (m *model) drawOp(d *die) api.Op {
	o := api.Op{Kind: 1 + d.roll(6), A: modelNames[d.roll(len(modelNames))]}
	if o.Kind == api.Set {
		o.B, o.N = []string{"", "v", "\xff\x00", "vvvvvvvvvvvv"}[d.roll(4)], 1+d.roll(3)
		if q := m.queues[o.A]; q != nil && d.roll(6) > 0 {
			o.N = q.fence
		}
	}
	return o
}

// begin: a model at an index; some of its locks and values are near their ends.
func begin(d *die) *model {
	m := newModel([]int{0, 0, 20, 1000, api.MaxIndex - 500}[d.roll(5)])
	for _, name := range []string{"b", "d"} {
		if d.roll(3) == 0 {
			m.queues[name] = &queue{fence: api.MaxFence - d.roll(5)}
			m.values[name] = &value{"w", api.MaxFence - d.roll(4)}
		}
	}
	if m.index > 0 && d.roll(2) == 0 { // one that is near its last call
		m.clients[1+d.roll(api.MaxClient)] = &known{id: m.index - 3, acked: api.MaxSeq - d.roll(9), last: m.index, replies: map[int]api.Reply{}}
	}
	return m
}

func TestDrawnEntries(t *testing.T) {
	d := die(17)
	codes := map[api.Errno]int{}
	idle := 0
	for range 150 {
		m := begin(&d)
		s := m.state()
		var speak []int // the others say nothing for some time
		for i := range 400 {
			if i%50 == 0 {
				speak = nil
				for range 1 + d.roll(6) {
					speak = append(speak, 1+d.roll(api.MaxClient))
				}
			}
			c := m.draw(&d, speak[d.roll(len(speak))])
			before, sessions := show(s), len(m.clients)
			next, r, e := machine.Apply(s, entry(c))
			want := m.apply(c)
			if show(next) != show(m.state()) || r != want || e != api.OK {
				t.Fatalf("%v on %s is\n%s, %s, %d; want\n%s, %s, 0", c, before, show(next), tell(r), e, show(m.state()), tell(want))
			}
			if show(s) != before || machine.Check(next) != api.OK {
				t.Fatalf("%v on %s leaves %s, and makes %s", c, before, show(s), show(next))
			}
			s = next
			codes[r.Code]++
			if c.Kind == api.Call && len(m.clients) < sessions {
				idle++
			}
		}
	}
	// The draw is worth something only if all came up.
	for _, code := range []api.Errno{api.OK, api.ErrRange, api.ErrNone, api.ErrTwice, api.ErrFull, api.ErrHeld, api.ErrAway, api.ErrOld} {
		if codes[code] < 50 {
			t.Errorf("the Code %d came %d times", code, codes[code])
		}
	}
	if idle < 50 {
		t.Errorf("clients were idle %d times", idle)
	}
}
