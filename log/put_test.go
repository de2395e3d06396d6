package log_test

import (
	"slices"
	"testing"

	"tackroom/api"
	"tackroom/log"
)

// P8.3

func wantPut(t *testing.T, l api.Log, behind int, more []string, want ...string) {
	t.Helper()
	got, e := log.Put(l, behind, more)
	if w := logOf(l.Base, want...); !same(got, w) || e != api.OK {
		t.Errorf("Put(%s, %d, %s) = %s, %d; want %s, 0", show(l), behind, show(logOf(behind, more...)), show(got), e, show(w))
	}
}

func wantNotPut(t *testing.T, l api.Log, behind int, more []string, want api.Errno) {
	t.Helper()
	if got, e := log.Put(l, behind, more); !same(got, api.Log{}) || e != want {
		t.Errorf("Put(%s, %d, %s) = %s, %d; want nothing and %d", show(l), behind, show(logOf(behind, more...)), show(got), e, want)
	}
}

// bases: 0, greater ones, and the greatest one.
var bases = []int{0, 1, 5, 1000, maxBase}

func TestPutAtTheEnd(t *testing.T) {
	for _, base := range bases {
		wantPut(t, logOf(base), base, []string{join}, join)
		wantPut(t, logOf(base), base, kinds, kinds...)
		wantPut(t, logOf(base, join), base+1, []string{join}, join, join)
		wantPut(t, logOf(base, join, try), base+2, []string{set, leave}, join, try, set, leave)
		wantPut(t, logOf(base), base, numbered(400), numbered(400)...)
		wantPut(t, logOf(base, numbered(399)...), base+399, numberedFrom(400, 1), numbered(400)...)
	}
}

func TestPutNothing(t *testing.T) {
	for _, l := range mayBe() {
		last := l.Base + len(l.Entries)
		for _, behind := range []int{0, l.Base / 2, l.Base, (l.Base + last) / 2, last} {
			wantPut(t, l, behind, nil, l.Entries...)
			wantPut(t, l, behind, []string{}, l.Entries...)
		}
		wantNotPut(t, l, last+1, nil, gapAt(last+1))
	}
}

// gapAt: what is told of an index above Last: whether it may be an index at all goes ahead.
func gapAt(index int) api.Errno {
	if index > api.MaxIndex {
		return api.ErrRange
	}
	return api.ErrGap
}

// TestPutWhatStandsThere: what is behind those stays, too.
func TestPutWhatStandsThere(t *testing.T) {
	for _, base := range bases {
		l := logOf(base, kinds...)
		for from := range len(kinds) + 1 {
			for to := from; to <= len(kinds); to++ {
				wantPut(t, l, base+from, kinds[from:to], kinds...)
			}
			wantPut(t, l, base+from, append(slices.Clone(kinds[from:]), set), append(slices.Clone(kinds), set)...)
		}
		full := logOf(base, numbered(400)...)
		wantPut(t, full, base, numbered(400), numbered(400)...)
		wantPut(t, full, base, numbered(1), numbered(400)...)
		wantPut(t, full, base+399, numberedFrom(400, 1), numbered(400)...)
		wantPut(t, full, base+400, nil, numbered(400)...)
	}
}

// TestPutAnother: from the first one on that does not stand there all are gone.
func TestPutAnother(t *testing.T) {
	old := numbered(6)
	for _, base := range bases {
		l := logOf(base, old...)
		for from := range 7 {
			for stay := from; stay < 6; stay++ {
				for _, end := range [][]string{{join}, {join, join, join}, {join, old[1], old[2]}, numberedFrom(100, 20)} {
					more := slices.Concat(old[from:stay], end)
					wantPut(t, l, base+from, more, slices.Concat(old[:stay], end)...)
				}
				// behind the other one they are as they were: they stand there as they are told, and no further
				if stay+2 < 6 {
					more := slices.Concat(old[from:stay], []string{join}, old[stay+1:stay+2])
					wantPut(t, l, base+from, more, slices.Concat(old[:stay], []string{join}, old[stay+1:stay+2])...)
				}
			}
		}
	}
	wantPut(t, logOf(0, join, try, set), 0, []string{leave}, leave)
	wantPut(t, logOf(0, join, try, set), 2, []string{leave}, join, try, leave)
	// at another index they are others
	wantPut(t, logOf(0, old...), 1, old[:2], old[0], old[0], old[1])
	wantPut(t, logOf(0, old...), 0, old[1:3], old[1], old[2])
	// of two that are alike in much, too
	wantPut(t, logOf(0, try, set), 0, []string{free}, free)
	wantPut(t, logOf(0, "\x01\x03", set), 0, []string{"\x01\x04"}, "\x01\x04")
}

// TestPutPassedOver: those up to Base, whatever they are.
func TestPutPassedOver(t *testing.T) {
	old := numbered(4)
	for _, base := range bases[1:] {
		l := logOf(base, old...)
		for _, under := range []int{1, 2, 5, 30, 399, 400} {
			if under > base {
				continue
			}
			junk := make([]string, under)
			for i := range junk {
				junk[i] = refused[i%len(refused)].entry
			}
			behind := base - under
			wantPut(t, l, behind, junk[:1], old...)
			wantPut(t, l, behind, junk, old...)
			wantPut(t, logOf(base), behind, junk)
			if under == 400 {
				continue // more would be more than MaxEntries
			}
			wantPut(t, l, behind, append(junk, old[0]), old...)
			wantPut(t, l, behind, append(junk, join), join)
			wantPut(t, logOf(base), behind, append(junk, join), join)
			wantPut(t, l, behind, numbered(under), old...) // such as would do, too
			// the first one behind Base is looked at
			for _, x := range refused {
				wantNotPut(t, l, behind, append(junk, x.entry), x.e)
			}
			if under < 395 {
				wantPut(t, l, behind, slices.Concat(junk, old[:2], []string{join, set, get}), old[0], old[1], join, set, get)
				wantPut(t, l, behind, slices.Concat(junk, old, []string{join}), append(slices.Clone(old), join)...)
			}
		}
	}
	wantPut(t, logOf(1000, old...), 0, numbered(400), old...)
	wantPut(t, logOf(maxBase, old...), 0, numbered(400), old...)
	wantPut(t, logOf(400, old...), 0, numbered(400), old...)
	wantPut(t, logOf(399, old...), 0, append(numbered(399), join), join)
}

func TestPutRange(t *testing.T) {
	for _, l := range mayBe() {
		for _, behind := range append([]int{-1, -2, -400, api.MaxIndex + 1, api.MaxIndex + 400}, outside...) {
			for _, more := range [][]string{nil, {join}, {""}, numbered(401)} {
				wantNotPut(t, l, behind, more, api.ErrRange)
			}
		}
	}
	// the greatest index that may be has nothing behind it but that there is no room
	l := logOf(maxBase, numbered(400)...)
	wantPut(t, l, api.MaxIndex, nil, l.Entries...)
	wantNotPut(t, l, api.MaxIndex, []string{join}, api.ErrFull)
	wantNotPut(t, logOf(0), api.MaxIndex, nil, api.ErrGap)
}

// TestPutSize: so many are refused, also if they all would be passed over or stand there.
func TestPutSize(t *testing.T) {
	for _, l := range mayBe() {
		last := l.Base + len(l.Entries)
		for _, behind := range []int{0, l.Base / 2, l.Base, last, api.MaxIndex} {
			wantNotPut(t, l, behind, numbered(401), api.ErrSize)
			wantNotPut(t, l, behind, make([]string, 401), api.ErrSize)
			wantNotPut(t, l, behind, make([]string, 5000), api.ErrSize)
		}
	}
}

func TestPutGap(t *testing.T) {
	for _, l := range mayBe() {
		last := l.Base + len(l.Entries)
		for _, behind := range []int{last + 1, last + 2, last + 399, last + 400, last + 401, api.MaxIndex} {
			if behind > api.MaxIndex || behind == last {
				continue
			}
			for _, more := range [][]string{nil, {join}, {""}, numbered(400), make([]string, 400)} {
				wantNotPut(t, l, behind, more, api.ErrGap)
			}
		}
	}
}

func TestPutWhatDecodeRefuses(t *testing.T) {
	for _, base := range bases {
		l := logOf(base, kinds...)
		for from := range len(kinds) + 1 {
			for _, x := range refused {
				wantNotPut(t, l, base+from, []string{x.entry}, x.e)
				// behind one that is another one, and behind all that stand there
				wantNotPut(t, l, base+from, []string{set, x.entry, set}, x.e)
				wantNotPut(t, l, base+from, append(slices.Clone(kinds[from:]), x.entry), x.e)
				for _, y := range refused {
					wantNotPut(t, l, base+from, []string{join, x.entry, y.entry}, x.e)
				}
			}
		}
	}
}

func TestPutFull(t *testing.T) {
	for _, base := range bases {
		for _, had := range []int{0, 1, 200, 399, 400} {
			l := logOf(base, numbered(had)...)
			room := 400 - had
			wantPut(t, l, base+had, numberedFrom(had+1, room), numbered(400)...)
			if had > 0 {
				wantNotPut(t, l, base+had, numberedFrom(had+1, room+1), api.ErrFull)
				wantNotPut(t, l, base+had, numberedFrom(had+1, 400), api.ErrFull)
				// the first of them stand there
				wantNotPut(t, l, base+1, numberedFrom(2, 400), api.ErrFull)
				// none of them does, so what stood there goes; as many come
				wantPut(t, l, base+1, numberedFrom(2000, 399), append(numbered(1), numberedFrom(2000, 399)...)...)
				wantNotPut(t, l, base+1, numberedFrom(2000, 400), api.ErrFull)
			}
			// all of them go: as many as may be come
			wantPut(t, l, base, numberedFrom(2000, 400), numberedFrom(2000, 400)...)
			// what Decode refuses goes ahead, wherever it stands
			if had > 0 {
				for _, x := range refused {
					wantNotPut(t, l, base+had, replaced(numbered(400), 399, x.entry), x.e)
				}
			}
		}
	}
	// those that are passed over need no room
	wantPut(t, logOf(10, numbered(395)...), 5, append(make([]string, 5), numbered(395)...), numbered(395)...)
	wantPut(t, logOf(10, numbered(5)...), 9, append(make([]string, 1), numberedFrom(500, 399)...), numberedFrom(500, 399)...)
}

// TestPutWhatIsWrongFirst: whatever is wrong at once.
func TestPutWhatIsWrongFirst(t *testing.T) {
	old := numbered(390)
	logs := []wrongLog{
		{logOf(50, old...), api.OK}, {logOf(-1, old...), api.ErrRange}, {logOf(50, numbered(401)...), api.ErrSize},
		{logOf(50, replaced(old, 389, "\x00\x00")...), api.ErrKind}, {logOf(-1, make([]string, 500)...), api.ErrRange},
	}
	behinds := []struct {
		behind     int
		bound, gap api.Errno
		room       int
	}{
		{440, api.OK, api.OK, 10}, {435, api.OK, api.OK, 15}, {-1, api.ErrRange, api.OK, 0},
		{api.MaxIndex + 1, api.ErrRange, api.ErrGap, 0}, {441, api.OK, api.ErrGap, 0}, {api.MaxIndex, api.OK, api.ErrGap, 0},
	}
	mores := []struct {
		more         []string
		size, decode api.Errno
	}{
		{nil, api.OK, api.OK}, {numbered(10), api.OK, api.OK}, {numbered(15), api.OK, api.OK}, {numbered(16), api.OK, api.OK},
		{numbered(400), api.OK, api.OK}, {numbered(401), api.ErrSize, api.OK}, {make([]string, 401), api.ErrSize, api.ErrShort},
		{[]string{join, "\x00\x00", ""}, api.OK, api.ErrKind}, {replaced(numbered(400), 399, "\x01\x00"), api.OK, api.ErrRange},
		{make([]string, 400), api.OK, api.ErrShort},
	}
	for _, l := range logs {
		for _, b := range behinds {
			for _, m := range mores {
				full := api.OK
				if len(m.more) > b.room {
					full = api.ErrFull
				}
				if e := first(l.e, b.bound, m.size, b.gap, m.decode, full); e != api.OK {
					wantNotPut(t, l.l, b.behind, m.more, e)
				} else if _, e := log.Put(l.l, b.behind, m.more); e != api.OK {
					t.Errorf("Put(%s, %d, %d entries): %d; want 0", show(l.l), b.behind, len(m.more), e)
				}
			}
		}
	}
}

// first of some that is an error.
func first(l ...api.Errno) api.Errno {
	for _, e := range l {
		if e != api.OK {
			return e
		}
	}
	return api.OK
}

// TestPutTwice: what was put and is told once more changes nothing, nor does a part of it.
func TestPutTwice(t *testing.T) {
	for _, base := range bases {
		l, _ := log.Put(logOf(base, numbered(9)...), base+4, kinds)
		for many := range len(kinds) + 1 {
			wantPut(t, l, base+4, kinds[:many], l.Entries...)
		}
	}
}
