package replica_test

import (
	"fmt"
	"maps"
	"slices"
	"testing"

	"tackroom/api"
	"tackroom/command"
	"tackroom/machine"
	"tackroom/replica"
)

// All of it, with drawn calls, against a model: what ever was told, by its index, and states that are made anew from a
// beginning each time they are asked for.

// die: numbers that look drawn, the same each time.
type die uint64

func (d *die) roll(most int) int {
	*d = *d*6364136223846793005 + 1442695040888963407
	return int(uint64(*d>>33) % uint64(most))
}

type model struct {
	start   api.State // what the snapshot tells
	entries map[int]string
	last    int
	applied int
}

// state after an index.
func (m *model) state(index int) api.State {
	var l []string
	for i := m.start.Index + 1; i <= index; i++ {
		l = append(l, m.entries[i])
	}
	return run(m.start, l)
}

func (m *model) replica() api.Replica {
	r := api.Replica{Log: api.Log{Base: m.start.Index}, State: m.state(m.applied)}
	for i := m.start.Index + 1; i <= m.last; i++ {
		r.Log.Entries = append(r.Log.Entries, m.entries[i])
	}
	if m.start.Index > 0 {
		r.Snap = bytesOf(m.start)
	}
	return r
}

func (m *model) hear(behind int, more []string) api.Errno {
	if behind > m.last {
		return api.ErrGap
	}
	for i, s := range more {
		index := behind + 1 + i
		if index <= m.start.Index || index <= m.last && m.entries[index] == s {
			continue
		}
		if index <= m.applied {
			return api.ErrState
		}
		m.entries[index], m.last = s, index
	}
	return api.OK
}

func (m *model) apply(upto int) []api.Mail {
	var l []api.Mail
	for m.applied < min(upto, m.last) {
		m.applied++
		l = append(l, m.mail(m.applied))
	}
	return l
}

func (m *model) mail(index int) api.Mail {
	_, reply, e := machine.Apply(m.state(index-1), m.entries[index])
	c, wrong := command.Decode(m.entries[index])
	if e != api.OK || wrong != api.OK {
		panic(fmt.Sprint("an entry is refused: ", e, wrong))
	}
	return api.Mail{Client: c.Client, Seq: c.Seq, Reply: reply}
}

func (m *model) compact() api.Errno {
	if m.applied == m.start.Index {
		return api.ErrOld
	}
	m.start = m.state(m.applied)
	return api.OK
}

func (m *model) install(s api.State) api.Errno {
	if s.Index <= m.applied {
		return api.ErrOld
	}
	m.start, m.applied, m.last = s, s.Index, max(m.last, s.Index)
	return api.OK
}

// entries that look drawn: of few clients and calls, so that some stand there and some don't.
func (d *die) entries(many int) []string {
	var l []string
	for range many {
		l = append(l, story[d.roll(len(story))].entry)
	}
	return l
}

// told is what is heard: often what stands there, or a part of it, and more; now and then there is a gap.
func (m *model) told(d *die) (int, []string) {
	behind := max(0, m.last-d.roll(8)) + d.roll(8)/7
	more := d.entries(d.roll(6))
	if d.roll(4) > 0 {
		var stand []string
		for i := behind + 1; i <= m.last && d.roll(8) > 0; i++ {
			stand = append(stand, m.entries[i])
		}
		more = slices.Concat(stand, more)
	}
	return behind, more
}

// deal: a drawn call, what it answers, and what it should tell beside the replica.
type deal struct {
	what  string
	r     api.Replica
	mails []api.Mail
	e     api.Errno
	want  []api.Mail
	code  api.Errno
}

func drawHear(d *die, m *model, r api.Replica) deal {
	x := deal{what: "Hear"}
	behind, more := m.told(d)
	heard := *m
	heard.entries = maps.Clone(m.entries)
	if x.code = heard.hear(behind, more); x.code == api.OK {
		*m = heard
	}
	x.r, x.e = replica.Hear(r, behind, more)
	return x
}

func drawApply(d *die, m *model, r api.Replica) deal {
	x := deal{what: "Apply"}
	upto := max(0, m.applied-2+d.roll(9))
	x.want = m.apply(upto)
	x.r, x.mails, x.e = replica.Apply(r, upto)
	return x
}

func drawInstall(d *die, m *model, r api.Replica, kept api.State) deal {
	x := deal{what: "Install"}
	if d.roll(2) == 0 {
		kept = run(r.State, d.entries(d.roll(9)))
	}
	x.code = m.install(kept)
	x.r, x.e = replica.Install(r, bytesOf(kept))
	return x
}

func draw(d *die, m *model, r api.Replica, kept api.State) deal {
	switch d.roll(7) {
	case 0, 1:
		return drawHear(d, m, r)
	case 2, 3:
		return drawApply(d, m, r)
	case 4:
		return drawInstall(d, m, r, kept)
	case 5:
		x := deal{what: "Compact", code: m.compact()}
		x.r, x.e = replica.Compact(r)
		return x
	}
	x := deal{what: "Restart"}
	m.applied = m.start.Index
	x.r, x.e = replica.Restart(r)
	return x
}

func TestDrawnCalls(t *testing.T) {
	d := die(90)
	seen := map[string]int{}
	for range 300 {
		m := &model{entries: map[int]string{}}
		r, kept := api.Replica{}, api.State{}
		for range 40 {
			x := draw(&d, m, r, kept)
			after := m.replica()
			right := same(x.r, after)
			if x.code != api.OK {
				right = same(x.r, api.Replica{})
			}
			if !right || x.e != x.code || !slices.Equal(x.mails, x.want) {
				t.Fatalf("%s of %s =\n%s; want\n%s", x.what, show(r), tell(x.r, x.mails, x.e), tell(after, x.want, x.code))
			}
			if x.code == api.OK {
				r = x.r
			}
			wantCheck(t, r, api.OK)
			if d.roll(5) == 0 {
				kept = r.State
			}
			seen[fmt.Sprint(x.what, " ", int(x.code))]++
		}
	}
	// The draw is worth something only if all came up.
	for _, x := range []string{"Hear 0", "Hear 9", "Hear 13", "Apply 0", "Compact 0", "Compact 12", "Install 0", "Install 12", "Restart 0"} {
		if seen[x] < 50 {
			t.Errorf("%s came %d times: %v", x, seen[x], seen)
		}
	}
}
