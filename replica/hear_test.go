package replica_test

import (
	"fmt"
	"slices"
	"strings"
	"testing"

	"tackroom/api"
	"tackroom/replica"
)

// P9.2

func hearing(r api.Replica, behind int, more []string) string {
	return fmt.Sprintf("Hear of %s, %d, %.900s", show(r), behind, fmt.Sprintf("%.40q", more))
}

// wantHeard: what then stands in the log; all else is as it was.
func wantHeard(t *testing.T, r api.Replica, behind int, more []string, entries ...string) {
	t.Helper()
	after := r
	after.Log.Entries = entries
	got, e := replica.Hear(r, behind, more)
	want(t, hearing(r, behind, more), got, e, after)
}

func wantNotHeard(t *testing.T, r api.Replica, behind int, more []string, want api.Errno) {
	t.Helper()
	got, e := replica.Hear(r, behind, more)
	wantNothing(t, hearing(r, behind, more), got, e, want)
}

// other entry than any of the story.
var other = join(9)

func TestHearAtTheEnd(t *testing.T) {
	wantHeard(t, api.Replica{}, 0, told(), told()...)
	for _, r := range mayBe() {
		last := r.Log.Base + len(r.Log.Entries)
		wantHeard(t, r, last, nil, r.Log.Entries...)
		if len(r.Log.Entries) < 390 {
			wantHeard(t, r, last, []string{other, leave(1), other}, append(slices.Clone(r.Log.Entries), other, leave(1), other)...)
		}
	}
}

func TestHearWhatStandsThere(t *testing.T) {
	for _, r := range mayBe() {
		base, all := r.Log.Base, r.Log.Entries
		for from := 0; from <= len(all); from += 1 + len(all)/20 {
			for _, to := range []int{from, (from + len(all)) / 2, len(all)} {
				wantHeard(t, r, base+from, all[from:to], all...)
			}
		}
	}
}

// TestHearAnother: behind what is applied from the first other one on all goes; up to there nothing may.
func TestHearAnother(t *testing.T) {
	all := told()
	for base := range len(all) {
		for applied := base; applied <= len(all); applied++ {
			r := teller(base, applied)
			for from := base; from < len(all); from++ {
				for at := from; at < len(all); at++ {
					for _, end := range [][]string{{other}, {other, other}, slices.Concat([]string{other}, all[at+1:]), slices.Repeat([]string{other}, 30)} {
						more := slices.Concat(all[from:at], end)
						if at < applied {
							wantNotHeard(t, r, from, more, api.ErrState)
						} else {
							wantHeard(t, r, from, more, slices.Concat(all[base:at], end)...)
						}
					}
				}
			}
		}
	}
}

// TestHearAnotherAtTheEdge: the entry of the State's Index, and the next one.
func TestHearAnotherAtTheEdge(t *testing.T) {
	r := grown(api.State{Index: 5}, calls(4), 2)
	c := calls(4)
	wantNotHeard(t, r, 5, []string{other}, api.ErrState)
	wantNotHeard(t, r, 6, []string{other}, api.ErrState)
	wantHeard(t, r, 7, []string{other}, c[0], c[1], other)
	wantHeard(t, r, 8, []string{other}, c[0], c[1], c[2], other)
	wantNotHeard(t, r, 5, []string{c[0], other, c[2], c[3]}, api.ErrState)
	wantHeard(t, r, 5, []string{c[0], c[1], other}, c[0], c[1], other)
	wantNotHeard(t, grown(api.State{}, c[:1], 1), 0, []string{other}, api.ErrState)
	wantHeard(t, grown(api.State{}, c[:1], 0), 0, []string{other}, other)
}

// TestHearAnotherOfFullLogs: the last one may be another one only if it is not applied.
func TestHearAnotherOfFullLogs(t *testing.T) {
	c := calls(400)
	for _, base := range []int{0, 1, 1000, maxBase} {
		wantHeard(t, grown(api.State{Index: base}, c, 399), base+399, []string{other}, append(c[:399:399], other)...)
		wantNotHeard(t, grown(api.State{Index: base}, c, 400), base+399, []string{other}, api.ErrState)
		wantNotHeard(t, grown(api.State{Index: base}, c, 1), base, []string{other}, api.ErrState)
	}
}

// TestHearBelowTheBase: what is passed over is not looked at.
func TestHearBelowTheBase(t *testing.T) {
	all := told()
	r := teller(6, 9)
	wantHeard(t, r, 0, []string{other, "", "\x00"}, all[6:]...)
	wantHeard(t, r, 0, slices.Repeat([]string{""}, 6), all[6:]...)
	wantHeard(t, r, 4, []string{"", other, all[6]}, all[6:]...)
	wantNotHeard(t, r, 4, []string{"", other, other}, api.ErrState)
	wantNotHeard(t, r, 4, []string{"", other, all[6], all[7], other}, api.ErrState)
	wantHeard(t, r, 4, []string{"", other, all[6], all[7], all[8], other}, all[6], all[7], all[8], other)
	wantHeard(t, teller(6, 6), 4, []string{"", other, other}, other)
}

// badEntries: what is no entry, and what is told of it.
var badEntries = []struct {
	s string
	e api.Errno
}{
	{"", api.ErrShort},
	{"\x01\x03\x00", api.ErrForm},
	{"\x00\x03", api.ErrKind},
	{"\x01\x00", api.ErrRange},
	{strings.Repeat("\x01", api.MaxBytes+1), api.ErrSize},
}

func TestHearRefusesWhatPutRefuses(t *testing.T) {
	for _, r := range mayBe() {
		last := r.Log.Base + len(r.Log.Entries)
		for _, n := range append([]int{api.MaxIndex + 1}, outside...) {
			wantNotHeard(t, r, n, nil, api.ErrRange)
			wantNotHeard(t, r, n, make([]string, 401), api.ErrRange)
		}
		for _, n := range []int{0, r.Log.Base, last, api.MaxIndex} {
			wantNotHeard(t, r, n, calls(401), api.ErrSize)
			wantNotHeard(t, r, n, make([]string, 401), api.ErrSize)
		}
		for _, n := range []int{last + 1, last + 2, last + 400, api.MaxIndex} {
			if n > last && n <= api.MaxIndex {
				wantNotHeard(t, r, n, nil, api.ErrGap)
				wantNotHeard(t, r, n, []string{other}, api.ErrGap)
				wantNotHeard(t, r, n, []string{""}, api.ErrGap)
			}
		}
		for _, x := range badEntries {
			wantNotHeard(t, r, last, []string{x.s}, x.e)
			wantNotHeard(t, r, r.Log.Base, []string{other, x.s, ""}, x.e)
		}
		room := api.MaxEntries - len(r.Log.Entries)
		if room < 400 {
			wantNotHeard(t, r, last, slices.Repeat([]string{other}, room+1), api.ErrFull)
		}
	}
}

// TestHearRefusesThatAheadOfAnother: what Put refuses is told, though an entry that is applied would be another one.
func TestHearRefusesThatAheadOfAnother(t *testing.T) {
	r := teller(3, 8)
	wantNotHeard(t, r, 5, []string{other}, api.ErrState)
	for _, x := range badEntries {
		wantNotHeard(t, r, 5, []string{other, x.s}, x.e)
	}
	wantNotHeard(t, r, 5, slices.Repeat([]string{other}, 398), api.ErrState)
	wantNotHeard(t, r, 5, slices.Repeat([]string{other}, 399), api.ErrFull)
	wantNotHeard(t, r, 5, slices.Repeat([]string{other}, 400), api.ErrFull)
	wantNotHeard(t, r, 5, slices.Repeat([]string{other}, 401), api.ErrSize)
}
