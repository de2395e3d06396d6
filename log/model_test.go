package log_test

import (
	"slices"
	"testing"

	"tackroom/api"
	"tackroom/command"
	"tackroom/log"
)

// All of it, at drawn logs and entries, against a model: entries by their indexes, put and taken one by one.

// die: numbers that look drawn, the same each time.
type die uint64

func (d *die) roll(most int) int {
	*d = *d*6364136223846793005 + 1442695040888963407
	return int(uint64(*d>>33) % uint64(most))
}

type model struct {
	base int
	at   map[int]string
}

func newModel(l api.Log) model {
	m := model{l.Base, map[int]string{}}
	for i, s := range l.Entries {
		m.at[l.Base+1+i] = s
	}
	return m
}

func (m model) last() int {
	index := m.base
	for m.has(index + 1) {
		index++
	}
	return index
}

func (m model) has(index int) bool {
	_, ok := m.at[index]
	return ok
}

func (m model) log() api.Log { return api.Log{Base: m.base, Entries: m.behind(m.base, len(m.at))} }

func (m model) behind(index, many int) []string {
	var l []string
	for k := index + 1; len(l) < many && m.has(k); k++ {
		l = append(l, m.at[k])
	}
	return l
}

func (m model) put(behind int, more []string) api.Errno {
	if behind > m.last() {
		return api.ErrGap
	}
	for i, s := range more {
		if _, e := command.Decode(s); e != api.OK && behind+1+i > m.base {
			return e
		}
	}
	if behind+len(more) > m.base+api.MaxEntries {
		return api.ErrFull
	}
	for i, s := range more {
		index := behind + 1 + i
		if index <= m.base || m.at[index] == s {
			continue
		}
		for k := index; m.has(k); k++ {
			delete(m.at, k)
		}
		m.at[index] = s
	}
	return api.OK
}

func (m *model) cut(index int) api.Errno {
	if index < m.base || index > m.last() {
		return api.ErrRange
	}
	if index > maxBase {
		return api.ErrFull
	}
	for ; m.base < index; m.base++ {
		delete(m.at, m.base+1)
	}
	return api.OK
}

// entries: of few kinds, so that often they stand there; now and then one is wrong.
func (d *die) entries(many int) []string {
	var l []string
	for range many {
		s := kinds[d.roll(2)]
		if d.roll(60) == 0 {
			s = refused[d.roll(len(refused))].entry
		}
		l = append(l, s)
	}
	return l
}

// near an index, or far from it; never below 0.
func (d *die) near(index int) int { return max(0, index+d.roll(9)-6) }

func step(t *testing.T, d *die, l api.Log, seen map[api.Errno]int) api.Log {
	t.Helper()
	m, before := newModel(l), log.Copy(l)
	from, more := d.near(log.Last(l)), d.entries(d.roll(9))
	if d.roll(3) == 0 {
		from = d.near(l.Base)
	}
	if from > api.MaxIndex {
		return l
	}
	next, e := log.Put(l, from, more)
	want := m.put(from, more)
	seen[want]++
	if e != want || e == api.OK && !same(next, m.log()) || e != api.OK && !same(next, api.Log{}) {
		t.Fatalf("Put(%s, %d, %q) = %s, %d; want %s, %d", show(l), from, more, show(next), e, show(m.log()), want)
	}
	if !same(l, before) {
		t.Fatalf("Put(%s, %d, %q) leaves %s", show(before), from, more, show(l))
	}
	if e == api.OK {
		l = next
	}
	if d.roll(8) == 0 {
		l = stepCut(t, d, l)
	}
	stepRead(t, d, l)
	return l
}

func stepCut(t *testing.T, d *die, l api.Log) api.Log {
	t.Helper()
	m := newModel(l)
	index := d.near(l.Base + 4)
	next, e := log.Cut(l, index)
	if want := m.cut(index); e != want || e == api.OK && !same(next, m.log()) {
		t.Fatalf("Cut(%s, %d) = %s, %d; want %s, %d", show(l), index, show(next), e, show(m.log()), want)
	}
	if e == api.OK {
		return next
	}
	return l
}

func stepRead(t *testing.T, d *die, l api.Log) {
	t.Helper()
	m := newModel(l)
	if log.Check(l) != api.OK || log.Last(l) != m.last() {
		t.Fatalf("Check(%s) = %d, Last %d; want 0, %d", show(l), log.Check(l), log.Last(l), m.last())
	}
	index, many := d.near(m.last()), d.roll(6)
	want, code := m.at[index], api.OK
	if !m.has(index) {
		code = api.ErrNone
	}
	if s, e := log.At(l, index); s != want || e != code {
		t.Fatalf("At(%s, %d) = %q, %d; want %q, %d", show(l), index, s, e, want, code)
	}
	index = max(index, l.Base)
	if got, e := log.Behind(l, index, many); e != api.OK || !slices.Equal(got, m.behind(index, many)) {
		t.Fatalf("Behind(%s, %d, %d) = %q, %d; want %q, 0", show(l), index, many, got, e, m.behind(index, many))
	}
}

func TestAgainstAModel(t *testing.T) {
	d, seen := die(80), map[api.Errno]int{}
	for _, start := range []api.Log{
		{}, {Base: 3}, {Base: 1000}, {Base: maxBase - 20}, {Base: maxBase}, logOf(0, d.plain(393)...), logOf(50, d.plain(398)...),
		logOf(maxBase-20, d.plain(393)...), logOf(maxBase, d.plain(399)...),
	} {
		rounds := 100
		if len(start.Entries) > 0 {
			rounds = 10 // great logs take their time
		}
		for range rounds {
			l := start
			for range 30 {
				l = step(t, &d, l, seen)
			}
		}
	}
	for _, e := range []api.Errno{api.OK, api.ErrGap, api.ErrFull, api.ErrShort, api.ErrForm, api.ErrKind, api.ErrRange, api.ErrSize} {
		if seen[e] < 10 {
			t.Errorf("only %d of the drawn calls are answered with %d", seen[e], e)
		}
	}
}

// plain entries: none of them is wrong.
func (d *die) plain(many int) []string {
	var l []string
	for range many {
		l = append(l, kinds[d.roll(2)])
	}
	return l
}
