package cluster_test

import (
	"fmt"
	"slices"
	"testing"

	"tackroom/api"
	"tackroom/cluster"
	"tackroom/command"
	"tackroom/customer"
	"tackroom/machine"
	"tackroom/snap"
)

// All of it, with drawn acts, against a model: entries by their indexes; what a replica has applied is a number alone,
// as all go the same way.

type node struct {
	base, applied, last int
	entries             map[int]string
}

type model struct {
	nodes     [api.Replicas]node
	clients   []api.Customer
	mails     []api.Mail
	committed []string
	states    []api.State // behind so many of those that are committed
	replied   []api.Mail  // to each of them
	leader    int
	codes     []api.Errno
	seen      map[string]int
}

func newModel(clients int, seen map[string]int) *model {
	m := &model{states: make([]api.State, 1), seen: seen}
	for i := range m.nodes {
		m.nodes[i].entries = map[int]string{}
	}
	for id := range clients {
		m.clients = append(m.clients, api.Customer{Id: id + 1, Next: 1})
	}
	return m
}

// should: the entry that is right at an index.
func (m *model) should(index int) (string, bool) {
	if index <= len(m.committed) {
		return m.committed[index-1], true
	}
	s, there := m.nodes[m.leader].entries[index]
	return s, there
}

func (m *model) right(n node) int {
	upto := n.base
	for {
		want, known := m.should(upto + 1)
		got, there := n.entries[upto+1]
		if !known || !there || got != want {
			return upto
		}
		upto++
	}
}

func (m *model) commit() {
	for i, n := range m.nodes {
		for i != m.leader && len(m.committed) < m.right(n) {
			s, _ := m.should(len(m.committed) + 1)
			c, _ := command.Decode(s)
			state, reply, _ := machine.Apply(m.states[len(m.committed)], s)
			m.committed = append(m.committed, s)
			m.states = append(m.states, state)
			m.replied = append(m.replied, api.Mail{Client: c.Client, Seq: c.Seq, Reply: reply})
		}
	}
}

func (m *model) put(entry string) {
	n := &m.nodes[m.leader]
	n.last++
	n.entries[n.last] = entry
}

func (m *model) ofClient(a api.Act) api.Errno {
	if a.C < 0 || a.C >= len(m.clients) {
		return api.ErrNone
	}
	c := &m.clients[a.C]
	switch a.Kind {
	case api.Start:
		after, e := customer.Start(*c, a.Op)
		if e == api.OK {
			*c = after
		}
		return e
	case api.Enter:
		m.put(joins(c.Id)[0])
		return api.OK
	}
	entry, e := customer.Request(*c, a.K)
	if e == api.OK {
		m.put(entry)
	}
	return e
}

func (m *model) ship(n *node, many int) {
	leader, behind := m.nodes[m.leader], m.right(*n)
	if behind < leader.base {
		m.seen["installs"]++
		n.base, n.applied, n.last = leader.base, leader.base, max(n.last, leader.base)
		for index := range n.entries {
			if index <= n.base {
				delete(n.entries, index)
			}
		}
		if n.last > n.base {
			m.seen["entries stay"]++
		}
		if m.right(*n) > len(m.committed) {
			m.seen["an Install commits"]++
		}
		return
	}
	for index := behind + 1; index <= leader.last && many > 0; index++ {
		if n.entries[index] != leader.entries[index] {
			for ; n.last >= index; n.last-- {
				delete(n.entries, n.last)
				m.seen["others go"]++
			}
			n.last = index
			n.entries[index] = leader.entries[index]
		}
		many--
	}
}

func (m *model) apply(at, many int) {
	n := &m.nodes[at]
	if n.applied < len(m.committed) && m.right(*n) < len(m.committed) && many > 0 {
		m.seen["less is right"]++
	}
	for n.applied < min(len(m.committed), m.right(*n)) && many > 0 {
		if at == m.leader && len(m.mails) < api.MaxFlying {
			m.mails = append(m.mails, m.replied[n.applied])
		} else if at == m.leader {
			m.seen["no room"]++
		}
		n.applied++
		many--
	}
}

func (m *model) ofReplica(a api.Act) api.Errno {
	if a.R < 0 || a.R >= api.Replicas {
		return api.ErrNone
	}
	n := &m.nodes[a.R]
	switch {
	case a.Kind == api.Ship && a.R == m.leader, (a.Kind == api.Ship || a.Kind == api.Apply) && a.K < 0:
		return api.ErrRange
	case a.Kind == api.Compact && n.applied == n.base:
		return api.ErrOld
	case a.Kind == api.Lead && m.right(*n) < len(m.committed):
		return api.ErrState
	}
	was := len(m.committed)
	switch a.Kind {
	case api.Ship:
		m.ship(n, a.K)
		m.commit()
	case api.Apply:
		m.apply(a.R, a.K)
	case api.Compact:
		for ; n.base < n.applied; n.base++ {
			delete(n.entries, n.base+1)
		}
	case api.Crash:
		n.applied = n.base
	case api.Lead:
		m.leader = a.R
		m.commit()
		if len(m.committed) > was {
			m.seen["a Lead commits"]++
		}
	}
	return api.OK
}

func (m *model) ofMail(a api.Act) api.Errno {
	switch {
	case a.K < 0 || a.K >= len(m.mails):
		return api.ErrNone
	case a.Kind == api.Copy && len(m.mails) == api.MaxFlying:
		return api.ErrFull
	case a.Kind == api.Copy:
		m.mails = append(m.mails, m.mails[a.K])
		return api.OK
	}
	x := m.mails[a.K]
	m.mails = append(slices.Clone(m.mails[:a.K]), m.mails[a.K+1:]...)
	if a.Kind == api.Drop {
		return api.OK
	}
	after, e := customer.Hear(m.clients[x.Client-1], x)
	if e == api.OK {
		m.clients[x.Client-1] = after
	}
	return e
}

var kindNames = []string{"none", "Enter", "Start", "Send", "Ship", "Apply", "Compact", "Crash", "Lead", "Deliver", "Drop", "Copy"}

func (m *model) do(a api.Act) {
	e := api.ErrKind
	switch {
	case a.Kind >= api.Enter && a.Kind <= api.Send:
		e = m.ofClient(a)
	case a.Kind >= api.Ship && a.Kind <= api.Lead:
		e = m.ofReplica(a)
	case a.Kind >= api.Deliver && a.Kind <= api.Copy:
		e = m.ofMail(a)
	}
	m.codes = append(m.codes, e)
	m.seen[fmt.Sprint(kindNames[min(a.Kind, 12)%12], " ", int(e))]++
}

func (m *model) outcome() api.Outcome {
	o := api.Outcome{Customers: m.clients, Mails: m.mails, Committed: m.committed, Leader: m.leader, Codes: m.codes}
	for _, n := range m.nodes {
		r := api.Replica{Log: api.Log{Base: n.base}, State: m.states[n.applied]}
		for index := n.base + 1; index <= n.last; index++ {
			r.Log.Entries = append(r.Log.Entries, n.entries[index])
		}
		if n.base > 0 {
			r.Snap, _ = snap.Encode(m.states[n.base])
		}
		o.Replicas = append(o.Replicas, r)
	}
	return o
}

// die: numbers that look drawn, the same each time.
type die uint64

func (d *die) roll(most int) int {
	*d = *d*6364136223846793005 + 1442695040888963407
	return int(uint64(*d>>33) % uint64(most))
}

func (d *die) op() api.Op {
	o := op(d.roll(7), []string{"a", "b", "c", "d"}[d.roll(4)])
	if o.Kind == api.Set {
		o.B, o.N = []string{"v", "wx", ""}[d.roll(3)], 1+d.roll(3)
	}
	return o
}

// moods of the draw: kinds of acts, those that come more often more often. All of them; many replicas that lead; many
// mails on their way; few kinds of entries, that stand at the same index in more than one log.
var moods = [][]int{
	{1, 2, 2, 2, 3, 3, 3, 3, 3, 4, 4, 4, 5, 5, 5, 9, 9, 9, 9, 9, 6, 7, 8, 10, 11, 0},
	{1, 2, 3, 3, 3, 4, 4, 5, 5, 6, 6, 7, 8, 8, 9, 12},
	{1, 1, 1, 2, 3, 3, 3, 4, 4, 5, 5, 5, 9, 11, 11, 11, 11, 7},
	{1, 1, 1, 1, 1, 1, 1, 4, 4, 5, 5, 6, 6, 8, 8, 8},
}

func (d *die) act(mood, clients int) api.Act {
	kinds := moods[mood]
	a := api.Act{Kind: kinds[d.roll(len(kinds))], C: d.roll(clients), R: d.roll(api.Replicas), K: d.roll(4), Op: d.op()}
	switch a.Kind {
	case api.Ship, api.Apply:
		a.K = d.roll(5)
		if d.roll(3) == 0 {
			a.K = d.roll(api.MaxActs)
		}
	case api.Deliver, api.Drop, api.Copy:
		a.K = d.roll(3) * d.roll(3)
	}
	switch d.roll(60) {
	case 0:
		a.C = d.roll(13) - 2
	case 1:
		a.R = d.roll(7) - 2
	case 2:
		a.K = d.roll(90) - 30
	}
	return a
}

// script that looks drawn. Without sessions there would be nothing but Joins, so most of them begin with some.
func (d *die) script(mood, clients, many int) []api.Act {
	var l []api.Act
	if d.roll(4) > 0 && mood < 3 {
		l = joined([]int{0, 1, 2, 3}[:min(clients, 1+d.roll(4))]...)
	}
	for range many {
		l = append(l, d.act(mood, clients))
	}
	return l
}

func wantOutcome(t *testing.T, clients int, l []api.Act, m *model) {
	t.Helper()
	got, e := cluster.Run(clients, l)
	if want := m.outcome(); show(got) != show(want) || e != api.OK {
		t.Fatalf("Run of %d, %v =\n%s, %d; want\n%s", clients, l, show(got), e, show(want))
	}
}

func TestDrawnScripts(t *testing.T) {
	d := die(110)
	seen := map[string]int{}
	for i := range 3000 {
		mood := i % len(moods)
		clients := 1 + d.roll([]int{api.MaxClient, 4, 4, 2}[mood])
		m, l := newModel(clients, seen), d.script(mood, clients, 20+d.roll(180))
		for _, a := range l {
			m.do(a)
		}
		wantOutcome(t, clients, l, m)
	}
	// The draw is worth something only if all came up.
	for _, x := range []string{
		"none 3", "Enter 0", "Enter 6", "Start 0", "Start 3", "Start 6", "Start 8", "Start 11", "Send 0", "Send 6", "Ship 0", "Ship 2", "Ship 6",
		"Apply 0", "Apply 2", "Apply 6", "Compact 0", "Compact 6", "Compact 12", "Crash 0", "Crash 6", "Lead 0", "Lead 6", "Lead 9",
		"Deliver 0", "Deliver 6", "Deliver 12", "Drop 0", "Drop 6", "Copy 0", "Copy 6", "Copy 8",
		"installs", "entries stay", "an Install commits", "a Lead commits", "others go", "less is right", "no room",
	} {
		if seen[x] < 5 {
			t.Errorf("%s came %d times: %v", x, seen[x], seen)
		}
	}
}

// TestDrawnScriptsActByAct: what is there behind each of the acts.
func TestDrawnScriptsActByAct(t *testing.T) {
	d := die(111)
	for i := range 12 {
		clients := 1 + d.roll(4)
		m, l := newModel(clients, map[string]int{}), d.script(i%len(moods), clients, 90)
		for many, a := range l {
			m.do(a)
			wantOutcome(t, clients, l[:many+1], m)
		}
	}
}

// What comes of it.

// TestAllGoTheSameWay: whoever leads, crashes, or is told a snapshot.
func TestAllGoTheSameWay(t *testing.T) {
	d := die(112)
	for i := range 60 {
		l, committed := d.script(i%len(moods), 3, 170), []string(nil)
		for many := 0; many < len(l); many += 20 {
			o := run(t, 3, l[:many])
			if len(o.Committed) < len(committed) || !slices.Equal(o.Committed[:len(committed)], committed) {
				t.Fatalf("%q are committed, but then %q", committed, o.Committed)
			}
			committed = o.Committed
			for at, r := range o.Replicas {
				wantReplica(t, fmt.Sprint("the replica ", at), r, r.Log.Base, r.State.Index, r.Log.Entries, committed)
			}
		}
	}
}

// TestEachCallIsDoneOnce: a client has a lock, and sets its value again and again, while acts are drawn; then what still
// waits is asked till it is answered.
func TestEachCallIsDoneOnce(t *testing.T) {
	d := die(113)
	again := 0
	for range 60 {
		l := with(joined(0), start(0, op(api.Try, "a")), send(0, 0), ship(1, 9), apply(0, 9), deliver(0))
		for range 200 {
			a := d.act(d.roll(2), 1)
			a.Op = setOp("a", "x", 1)
			l = append(l, a)
		}
		l, o := settle(t, l)
		sets := o.Customers[0].Next - 2
		if len(o.Customers[0].Waits) > 0 || o.Customers[0].Session != 1 || sets < 4 {
			t.Fatalf("%d calls: the client is %v", sets, o.Customers[0])
		}
		for at, r := range o.Replicas {
			if !slices.Equal(r.State.Pairs, []api.Pair{{Name: "a", Value: "x", Version: sets}}) {
				t.Fatalf("%d calls: of the replica %d the pairs are %v, behind %v", sets, at, r.State.Pairs, l)
			}
		}
		again += calls(t, o.Committed) - sets - 1
	}
	if again < 60 {
		t.Errorf("calls were asked again %d times alone", again)
	}
}

// settle: nothing is lost any more till nothing waits, and all replicas have applied all.
func settle(t *testing.T, l []api.Act) ([]api.Act, api.Outcome) {
	t.Helper()
	o := run(t, 1, l)
	others := []int{(o.Leader + 1) % api.Replicas, (o.Leader + 2) % api.Replicas}
	hear := slices.Repeat(acts(deliver(0)), api.MaxFlying)
	l = append(l, hear...)
	for range api.Window + 1 {
		l = append(l, send(0, 0), ship(others[0], 400), ship(others[0], 400), apply(o.Leader, 400))
		l = append(l, hear...)
		hear = hear[:1] // from then on there are no mails but the one
	}
	l = append(l, ship(others[1], 400), ship(others[1], 400), apply(others[0], 400), apply(others[1], 400))
	return l, run(t, 1, l)
}

// calls: how many of the entries are calls.
func calls(t *testing.T, entries []string) int {
	t.Helper()
	n := 0
	for _, s := range entries {
		if c, e := command.Decode(s); e != api.OK {
			t.Errorf("%q is committed", s)
		} else if c.Kind == api.Call {
			n++
		}
	}
	return n
}
