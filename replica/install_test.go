package replica_test

import (
	"encoding/binary"
	"fmt"
	"hash/adler32"
	"strings"
	"testing"

	"tackroom/api"
	"tackroom/replica"
)

// P9.4

func wantCompact(t *testing.T, r, after api.Replica) {
	t.Helper()
	got, e := replica.Compact(r)
	want(t, "Compact of "+show(r), got, e, after)
}

func wantNotCompact(t *testing.T, r api.Replica, want api.Errno) {
	t.Helper()
	got, e := replica.Compact(r)
	wantNothing(t, "Compact of "+show(r), got, e, want)
}

func TestCompact(t *testing.T) {
	r := api.Replica{Log: api.Log{Entries: []string{join(1), join(2)}}, State: api.State{Index: 1}}
	wantCompact(t, r, api.Replica{Log: api.Log{Base: 1, Entries: []string{join(2)}}, Snap: "\x01\x00\x00\x00\x00\x08\x00\x02", State: api.State{Index: 1}})
	for base := range len(story) + 1 {
		for applied := base + 1; applied <= len(story); applied++ {
			wantCompact(t, teller(base, applied), teller(applied, applied))
		}
	}
	for _, base := range []int{20, 1000, maxBase - 400, maxBase - 15} {
		for applied := 1; applied <= len(story); applied++ {
			s := run(busy(base), told()[:applied])
			wantCompact(t, grown(busy(base), told(), applied), grown(s, told()[applied:], 0))
		}
	}
	for _, applied := range []int{1, 200, 399, 400} {
		wantCompact(t, grown(api.State{}, calls(400), applied), grown(api.State{Index: applied}, calls(400)[applied:], 0))
	}
}

// TestCompactOfOddReplicas: what is applied is kept, whatever the entries tell.
func TestCompactOfOddReplicas(t *testing.T) {
	wantCompact(t, api.Replica{Log: api.Log{Entries: calls(30)}, State: busy(20)},
		api.Replica{Log: api.Log{Base: 20, Entries: calls(30)[20:]}, Snap: bytesOf(busy(20)), State: busy(20)})
	wantCompact(t, api.Replica{Log: api.Log{Base: 20, Entries: calls(30)}, Snap: bytesOf(api.State{Index: 20}), State: busy(50)},
		api.Replica{Log: api.Log{Base: 50}, Snap: bytesOf(busy(50)), State: busy(50)})
}

func TestCompactOld(t *testing.T) {
	wantNotCompact(t, api.Replica{}, api.ErrOld)
	for base := range len(story) + 1 {
		wantNotCompact(t, teller(base, base), api.ErrOld)
	}
	for _, base := range []int{20, 1000, maxBase - 1, maxBase} {
		wantNotCompact(t, grown(busy(base), nil, 0), api.ErrOld)
		wantNotCompact(t, grown(busy(base), told(), 0), api.ErrOld)
	}
	wantNotCompact(t, api.Replica{Log: api.Log{Base: 20}, Snap: bytesOf(api.State{Index: 20}), State: busy(20)}, api.ErrOld)
}

func TestCompactFull(t *testing.T) {
	for _, base := range []int{maxBase - 4, maxBase - 1, maxBase} {
		for applied := 1; applied <= len(story); applied++ {
			r := grown(busy(base), told(), applied)
			if base+applied > maxBase {
				wantNotCompact(t, r, api.ErrFull)
			} else {
				wantCompact(t, r, grown(run(busy(base), told()[:applied]), told()[applied:], 0))
			}
		}
	}
	wantNotCompact(t, grown(busy(maxBase), calls(400), 400), api.ErrFull)
}

// P9.5

func wantInstall(t *testing.T, r api.Replica, s api.State, entries ...string) {
	t.Helper()
	got, e := replica.Install(r, bytesOf(s))
	want(t, fmt.Sprintf("Install to %s of %s", show(r), showState(s)), got, e,
		api.Replica{Log: api.Log{Base: s.Index, Entries: entries}, Snap: bytesOf(s), State: s})
}

func wantNotInstalled(t *testing.T, r api.Replica, s string, want api.Errno) {
	t.Helper()
	got, e := replica.Install(r, s)
	wantNothing(t, fmt.Sprintf("Install to %s of %.100q", show(r), s), got, e, want)
}

// sealed bytes, by the library's own sum.
func sealed(body string) string {
	return string(binary.BigEndian.AppendUint32([]byte(body), adler32.Checksum([]byte(body))))
}

// TestInstall: within the log, at its end, and far behind it; what the entries up to there tell does not matter.
func TestInstall(t *testing.T) {
	wantInstall(t, api.Replica{}, api.State{Index: 1})
	wantInstall(t, api.Replica{}, busy(20))
	wantInstall(t, api.Replica{}, busy(maxBase))
	for _, r := range mayBe() {
		last := r.Log.Base + len(r.Log.Entries)
		for _, index := range []int{r.State.Index + 1, r.State.Index + 2, last - 1, last, last + 1, last + 2, last + 500, maxBase} {
			if index <= r.State.Index || index > maxBase {
				continue
			}
			left := r.Log.Entries[min(index-r.Log.Base, len(r.Log.Entries)):]
			wantInstall(t, r, api.State{Index: index}, left...)
			if index >= 20 {
				wantInstall(t, r, busy(index), left...)
			}
		}
	}
}

// TestInstallWhatAnotherOneKeeps: then both are alike.
func TestInstallWhatAnotherOneKeeps(t *testing.T) {
	for base := range len(story) + 1 {
		for applied := base; applied <= len(story); applied++ {
			for to := applied + 1; to <= len(story); to++ {
				got, e := replica.Install(teller(base, applied), teller(to, to).Snap)
				want(t, fmt.Sprint("Install of ", to, " to ", base, " and ", applied), got, e, teller(to, to))
			}
		}
	}
}

func TestInstallRefusesWhatDecodeRefuses(t *testing.T) {
	good := bytesOf(busy(500))
	long := strings.Repeat("x", api.MaxBytes+1)
	for _, r := range mayBe() {
		for _, x := range []struct {
			s string
			e api.Errno
		}{
			{"", api.ErrShort}, {"a", api.ErrShort}, {"abc", api.ErrShort},
			{"abcd", api.ErrSum}, {good + "\x00", api.ErrSum}, {good[1:], api.ErrSum}, {good[:len(good)-1], api.ErrSum},
			{long, api.ErrSize}, {sealed(long), api.ErrSize},
			{sealed(""), api.ErrShort}, {sealed("\x01\x00\x00"), api.ErrShort},
			{sealed("\x81\x00\x00\x00\x00"), api.ErrForm}, {sealed("\x01\x00\x00\x00\x00"), api.ErrForm},
			{sealed("\x01\x06"), api.ErrSize}, {sealed("\x01\x00\x06"), api.ErrSize}, {sealed("\x01\x00\x00\x05"), api.ErrSize},
			{sealed("\x01\x01\x01A\x00\x01\x00\x00\x00"), api.ErrForm}, {sealed("\x01\x01\x01a\x00\x00\x00\x00\x00"), api.ErrRange},
			{sealed("\x81\x80\x80\x80\x04\x00\x00\x00"), api.ErrRange}, // one above MaxIndex
		} {
			wantNotInstalled(t, r, x.s, x.e)
		}
	}
}

func TestInstallOld(t *testing.T) {
	wantNotInstalled(t, api.Replica{}, bytesOf(api.State{}), api.ErrOld)
	for _, r := range mayBe() {
		for _, index := range []int{0, 1, r.Log.Base - 1, r.Log.Base, r.State.Index - 1, r.State.Index} {
			if index >= 0 && index <= r.State.Index {
				wantNotInstalled(t, r, bytesOf(api.State{Index: index}), api.ErrOld)
			}
		}
		wantNotInstalled(t, r, bytesOf(r.State), api.ErrOld)
	}
	// Not all that stands in a log is applied.
	wantNotInstalled(t, teller(2, 6), bytesOf(api.State{Index: 6}), api.ErrOld)
	wantInstall(t, teller(2, 6), api.State{Index: 7}, told()[7:]...)
}

func TestInstallFull(t *testing.T) {
	for _, r := range mayBe() {
		for _, index := range []int{maxBase + 1, maxBase + 2, maxBase + 20, api.MaxIndex - 1, api.MaxIndex} {
			if index > r.State.Index {
				wantNotInstalled(t, r, bytesOf(api.State{Index: index}), api.ErrFull)
				wantNotInstalled(t, r, bytesOf(busy(index)), api.ErrFull)
			} else { // what is old is told ahead of that
				wantNotInstalled(t, r, bytesOf(api.State{Index: index}), api.ErrOld)
			}
		}
	}
	wantInstall(t, grown(busy(maxBase-1), told(), 0), busy(maxBase), told()[1:]...)
}

// P9.6

func wantRestart(t *testing.T, r api.Replica, s api.State) {
	t.Helper()
	after := r
	after.State = s
	got, e := replica.Restart(r)
	want(t, "Restart of "+show(r), got, e, after)
}

func TestRestart(t *testing.T) {
	wantRestart(t, api.Replica{}, api.State{})
	for base := range len(story) + 1 {
		for applied := base; applied <= len(story); applied++ {
			wantRestart(t, teller(base, applied), run(api.State{}, told()[:base]))
		}
	}
	for _, base := range []int{20, 1000, maxBase} {
		for _, applied := range []int{0, 1, 15} {
			wantRestart(t, grown(busy(base), told(), applied), busy(base))
		}
		wantRestart(t, grown(busy(base), calls(400), 400), busy(base))
	}
}

// TestRestartOfOddReplicas: what the snapshot tells, not what was applied.
func TestRestartOfOddReplicas(t *testing.T) {
	all := odd()
	wantRestart(t, all[0], api.State{})
	wantRestart(t, all[1], api.State{})
	wantRestart(t, all[2], api.State{Index: 20})
	wantRestart(t, all[3], busy(20))
	wantRestart(t, all[4], api.State{Index: 20})
	wantRestart(t, all[5], busy(maxBase))
}

// TestRestartAndApply: what was applied once comes to the same again, the mails too.
func TestRestartAndApply(t *testing.T) {
	for base := range len(story) + 1 {
		r, e := replica.Restart(teller(base, len(story)))
		if e != api.OK {
			t.Fatalf("Restart is refused: %d", e)
		}
		wantApplied(t, r, len(story), run(api.State{}, told()), mails(base, len(story))...)
	}
}
