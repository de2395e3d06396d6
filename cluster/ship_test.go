package cluster_test

import (
	"fmt"
	"math"
	"slices"
	"testing"

	"tackroom/api"
)

// P11.4

// wantEntries of a replica, behind its base, and all that are committed.
func wantEntries(t *testing.T, l []api.Act, at int, entries, committed []string) {
	t.Helper()
	o := done(t, 9, l)
	wantList(t, fmt.Sprint("the replica ", at, " behind ", l), o.Replicas[at].Log.Entries, entries)
	wantList(t, fmt.Sprint("committed by ", l), o.Committed, committed)
}

// TestShipInParts: up to so many entries, from where the replica is on.
func TestShipInParts(t *testing.T) {
	all := joins(1, 2, 3, 4, 5, 6)
	for a := range 8 {
		for b := range 8 {
			for _, r := range []int{1, 2} {
				has := all[:min(a+b, 6)]
				wantEntries(t, with(entering(0, 1, 2, 3, 4, 5), ship(r, a), ship(r, b)), r, has, has)
				wantEntries(t, with(entering(0, 1, 2, 3, 4, 5), ship(r, a), ship(r, b)), 3-r, nil, has)
			}
		}
	}
	for _, many := range []int{6, 7, 400, 401, 1 << 32, math.MaxInt} {
		wantEntries(t, with(entering(0, 1, 2, 3, 4, 5), ship(1, many)), 1, all, all)
		wantEntries(t, with(entering(0, 1, 2, 3, 4, 5), ship(1, 2), ship(1, many)), 1, all, all)
	}
}

func TestShipOfNothing(t *testing.T) {
	for many := range 4 {
		for _, r := range []int{1, 2} {
			wantSame(t, 1, nil, ship(r, many))
			wantSame(t, 9, with(entering(0, 1), ship(r, 2)), ship(r, many))
			wantSame(t, 9, with(entering(0, 1), lead(r)), ship(0, 0))
			wantSame(t, 9, with(entering(0, 1), lead(r)), ship(0, many)) // what the leader has not may stay
			wantSame(t, 9, with(entering(0, 1), lead(r)), ship(3-r, many))
		}
	}
}

// TestShipOverOthers: from the first one that is another one on what stood there goes, if it is told at all.
func TestShipOverOthers(t *testing.T) {
	all := joins(1, 4, 3, 5)
	wantEntries(t, apart, 0, joins(1, 2, 3), nil)
	wantEntries(t, with(apart, ship(0, 0)), 0, joins(1, 2, 3), all[:1])
	wantEntries(t, with(apart, ship(0, 1)), 0, joins(1, 4), all[:2])
	wantEntries(t, with(apart, ship(0, 2)), 0, joins(1, 4, 3), all[:3])
	wantEntries(t, with(apart, ship(0, 3)), 0, all, all)
	wantEntries(t, with(apart, ship(0, 9)), 0, all, all)
	wantEntries(t, with(apart, lead(0), ship(1, 1)), 1, joins(1, 2), joins(1, 2))
	wantEntries(t, with(apart, lead(0), ship(1, 2)), 1, joins(1, 2, 3), joins(1, 2, 3))
}

// TestShipTheLeadersEntries: whoever leads.
func TestShipTheLeadersEntries(t *testing.T) {
	l := with(entering(0, 1), lead(2), enter(4), lead(1), enter(7))
	wantEntries(t, with(l, ship(0, 9)), 0, joins(8), joins(8))
	wantEntries(t, with(l, ship(2, 9)), 2, joins(8), joins(8))
	wantEntries(t, with(l, lead(2), ship(0, 9)), 0, joins(5), joins(5))
	wantEntries(t, with(l, lead(0), ship(2, 1)), 2, joins(1), joins(1))
}

func TestShipRange(t *testing.T) {
	for _, l := range [][]api.Act{nil, entering(0, 1), apart, cut, with(cut, lead(1))} {
		leader := done(t, 9, l).Leader
		for r := range api.Replicas {
			for _, many := range []int{-1, -2, -400, -1 << 32, math.MinInt} {
				wantCode(t, 9, l, ship(r, many), api.ErrRange)
			}
		}
		for _, many := range []int{0, 1, 9, math.MaxInt} {
			wantCode(t, 9, l, ship(leader, many), api.ErrRange)
		}
	}
}

// TestShipInstalls: if the leader has cut off what the replica lacks; none of its entries is told then.
func TestShipInstalls(t *testing.T) {
	all := joins(1, 2, 3, 4, 5)
	for _, many := range []int{0, 1, 9, math.MaxInt} {
		o := done(t, 9, with(cut, ship(2, many)))
		wantReplica(t, "the replica 2", o.Replicas[2], 3, 3, nil, all)
		wantList(t, "committed", o.Committed, all[:3])
		if o.Replicas[2].Snap != o.Replicas[0].Snap {
			t.Errorf("the snapshots are %q and %q", o.Replicas[2].Snap, o.Replicas[0].Snap)
		}
		o = done(t, 9, with(cut, ship(2, many), ship(2, 1)))
		wantReplica(t, "the replica 2", o.Replicas[2], 3, 3, all[3:4], all)
		wantList(t, "committed", o.Committed, all[:4])
	}
	o := done(t, 9, with(cut, ship(2, 0), ship(2, 9)))
	wantReplica(t, "the replica 2", o.Replicas[2], 3, 3, all[3:], all)
}

// TestShipAtTheBase: who has all that the leader cut off needs no snapshot; one entry less, and it does.
func TestShipAtTheBase(t *testing.T) {
	all := joins(1, 2, 3, 4, 5)
	for has := range 6 {
		l := slices.Concat(entering(0, 1, 2), acts(ship(1, 9), ship(2, has), apply(0, 9), compact(0)), entering(3, 4), acts(ship(2, 1)))
		o := done(t, 9, l)
		if has < 3 {
			wantReplica(t, "the replica 2", o.Replicas[2], 3, 3, nil, all)
		} else {
			wantReplica(t, "the replica 2", o.Replicas[2], 0, 0, all[:4], all)
		}
	}
}

// TestShipInstallsOverOthers: where a replica's entries are others, a snapshot is installed, though it has as many.
func TestShipInstallsOverOthers(t *testing.T) {
	for _, own := range [][]int{{1}, {1, 2}, {1, 2, 2}, {8, 7, 6, 5, 4}, {0, 1, 8, 3, 4}} {
		l := slices.Concat(acts(lead(2)), entering(own...), acts(lead(0)), cut, acts(ship(2, 1)))
		o := done(t, 9, l)
		if r := o.Replicas[2]; r.Log.Base != 3 || r.State.Index != 3 || len(r.Log.Entries) != max(0, len(own)-3) {
			t.Errorf("the replica 2 with %v: %s", own, showReplica(r))
		}
	}
}

// TestShipInstallsWhatItHasApplied: a replica that has applied something is told more.
func TestShipInstallsWhatItHasApplied(t *testing.T) {
	all := joins(1, 2, 3, 4, 5)
	l := slices.Concat(entering(0, 1, 2), acts(ship(1, 9), ship(2, 2), apply(2, 2), compact(2), apply(0, 9), compact(0), ship(2, 9)))
	wantReplica(t, "the replica 2", done(t, 9, l).Replicas[2], 3, 3, nil, all)
	l = slices.Concat(entering(0, 1, 2), acts(ship(1, 9), ship(2, 2), apply(2, 1), apply(0, 9), compact(0), ship(2, 9)))
	wantReplica(t, "the replica 2", done(t, 9, l).Replicas[2], 3, 3, nil, all)
}

// TestInstallCommits: entries that stood behind one that was another one, and stay behind the snapshot, are right then.
func TestInstallCommits(t *testing.T) {
	// The replica 2 has led, and has the entries of 1, 9, 3, 4, 5 and 9; the leader those of 1, 2, 3, 4, 5 and 6.
	l := slices.Concat(acts(lead(2)), entering(0, 8, 2, 3, 4, 8), acts(lead(0)), entering(0, 1, 2), acts(ship(1, 9)), entering(3, 4, 5))
	all := joins(1, 2, 3, 4, 5, 6)
	wantCommitted(t, l, all[:3]...)
	for n := 1; n <= 3; n++ {
		cut := with(l, apply(0, n), compact(0))
		wantCommitted(t, cut, all[:3]...)
		o := done(t, 9, with(cut, ship(2, 0)))
		if n == 1 { // it lacks nothing that is cut off
			wantReplica(t, "the replica 2", o.Replicas[2], 0, 0, joins(1, 9, 3, 4, 5, 9), all)
			wantList(t, "committed", o.Committed, all[:3])
		} else {
			wantReplica(t, "the replica 2", o.Replicas[2], n, n, joins(1, 9, 3, 4, 5, 9)[n:], all)
			wantList(t, "committed", o.Committed, all[:5])
		}
	}
}

// P11.4 to P11.6

// TestNoSuchReplica: that is told ahead of what else is wrong.
func TestNoSuchReplica(t *testing.T) {
	for _, l := range [][]api.Act{nil, entering(0, 1), apart, cut} {
		for _, r := range append([]int{api.Replicas, api.Replicas + 1}, outside...) {
			for _, many := range []int{0, 1, -1, math.MinInt, math.MaxInt} {
				wantCode(t, 9, l, ship(r, many), api.ErrNone)
				wantCode(t, 9, l, apply(r, many), api.ErrNone)
			}
			wantCode(t, 9, l, compact(r), api.ErrNone)
			wantCode(t, 9, l, crash(r), api.ErrNone)
			wantCode(t, 9, l, lead(r), api.ErrNone)
		}
	}
}
