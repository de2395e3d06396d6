package cluster_test

import (
	"fmt"
	"slices"
	"testing"

	"tackroom/api"
)

// P11.2

func wantCommitted(t *testing.T, l []api.Act, want ...string) {
	t.Helper()
	wantList(t, fmt.Sprint("committed by ", l), done(t, 9, l).Committed, want)
}

// with more acts at the end.
func with(l []api.Act, more ...api.Act) []api.Act { return append(slices.Clone(l), more...) }

// apart: the replica 0 has led, and has entries of the clients 1, 2 and 3; the replica 1 leads, and has those of 1, 4, 3
// and 5. Nothing is committed.
var apart = slices.Concat(entering(0, 1, 2), acts(lead(1)), entering(0, 3, 2, 4))

// TestNothingIsCommittedByTheLeaderAlone, nor by acts that do not say so.
func TestNothingIsCommittedByTheLeaderAlone(t *testing.T) {
	wantCommitted(t, entering(0, 1, 2))
	wantCommitted(t, with(entering(0, 1, 2), lead(0), apply(0, 9), crash(0), crash(1)))
	wantCommitted(t, with(entering(0, 1, 2), ship(1, 0), ship(2, 0), lead(0)))
	wantCommitted(t, apart)
	wantCommitted(t, with(apart, apply(0, 9), apply(1, 9), apply(2, 9), crash(0), crash(1), crash(2), enter(5)))
}

// TestCommitWhatAnotherHas: as far as the one that has most.
func TestCommitWhatAnotherHas(t *testing.T) {
	for a := range 7 {
		for b := range 7 {
			l, all := with(entering(0, 1, 2, 3, 4), ship(1, a), ship(2, b)), joins(1, 2, 3, 4, 5, 6)
			a, b := min(a, 5), min(b, 5)
			wantCommitted(t, l, all[:max(a, b)]...)
			wantCommitted(t, with(l, enter(5)), all[:max(a, b)]...)
			wantCommitted(t, with(l, enter(5), ship(1, 1)), all[:max(a+1, b)]...)
		}
	}
}

// TestCommitByIndex: entries that are the same stand at indexes of their own.
func TestCommitByIndex(t *testing.T) {
	l := with(entering(0, 0, 0, 0), ship(1, 2))
	wantCommitted(t, l, joins(1, 1)...)
	wantCommitted(t, with(l, ship(2, 1)), joins(1, 1)...)
	wantCommitted(t, with(l, ship(1, 1)), joins(1, 1, 1)...)
}

// TestCommitWhatWasThere: another one has it from when it led; a Lead and a Ship say that it is committed, also if the
// Ship is one of no entries, and to a third one. What is refused does not say so.
func TestCommitWhatWasThere(t *testing.T) {
	for _, a := range []api.Act{lead(1), ship(0, 0), ship(2, 0)} {
		wantCommitted(t, with(apart, a), joins(1)...)
		wantCommitted(t, with(apart, a, enter(5), crash(1)), joins(1)...)
	}
	for _, x := range []struct {
		a api.Act
		e api.Errno
	}{
		{ship(1, 9), api.ErrRange}, {ship(0, -1), api.ErrRange}, {ship(3, 9), api.ErrNone}, {ship(-1, 9), api.ErrNone},
		{lead(3), api.ErrNone}, {lead(-1), api.ErrNone}, {compact(1), api.ErrOld}, {api.Act{}, api.ErrKind}, {api.Act{Kind: 12}, api.ErrKind},
	} {
		wantCode(t, 9, apart, x.a, x.e)
	}
}

// TestRightUpToTheFirstOther: what is behind it is not looked at, though it is the same again.
func TestRightUpToTheFirstOther(t *testing.T) {
	all := joins(1, 4, 3, 5)
	wantCommitted(t, with(apart, ship(0, 1)), all[:2]...)
	wantCommitted(t, with(apart, ship(0, 2)), all[:3]...)
	wantCommitted(t, with(apart, ship(0, 9)), all...)
	wantCommitted(t, with(apart, ship(2, 1)), all[:1]...)
	wantCommitted(t, with(apart, ship(2, 2)), all[:2]...)
	wantCommitted(t, with(apart, ship(2, 4)), all...)
	// The replica 0 leads again: what the two others have of it is that one entry.
	wantCommitted(t, with(apart, lead(0)), joins(1)...)
	wantCommitted(t, with(apart, lead(0), ship(1, 1)), joins(1, 2)...)
	wantCommitted(t, with(apart, lead(0), ship(2, 3)), joins(1, 2, 3)...)
	wantCommitted(t, with(apart, lead(2)))
	wantCommitted(t, with(apart, lead(2), enter(0), ship(0, 0)), joins(1)...)
	wantCommitted(t, with(apart, lead(2), enter(3), ship(0, 0)))
}

// TestRightWhereTheLeaderHasLess: what it has not is not right, whoever has it.
func TestRightWhereTheLeaderHasLess(t *testing.T) {
	l := with(entering(0, 1, 2, 3), ship(1, 2), lead(1))
	wantCommitted(t, l, joins(1, 2)...)
	wantCommitted(t, with(l, ship(0, 0), ship(2, 9)), joins(1, 2)...)
	wantCommitted(t, with(l, enter(2)), joins(1, 2)...)
	wantCommitted(t, with(l, enter(2), ship(0, 0)), joins(1, 2, 3)...)
	wantCommitted(t, with(l, enter(2), enter(3), ship(2, 0)), joins(1, 2, 3, 4)...)
	wantCommitted(t, with(l, enter(3), enter(3), ship(2, 0)), joins(1, 2)...)
}

// TestCommittedStays: whoever leads, crashes, compacts or is told other entries.
func TestCommittedStays(t *testing.T) {
	l := with(entering(0, 1, 2), ship(1, 2))
	for _, more := range [][]api.Act{
		acts(lead(1), enter(8), crash(0), crash(1), crash(2)), acts(apply(0, 9), apply(1, 1), compact(0), compact(1), crash(0)),
		acts(lead(1), enter(8), lead(0)), acts(ship(2, 1)), acts(lead(1), apply(1, 9), compact(1), ship(2, 0)),
	} {
		for many := range len(more) + 1 {
			wantCommitted(t, with(l, more[:many]...), joins(1, 2)...)
		}
	}
}

// cut: the leader has applied and cut off three entries, which the replica 1 has, too; two more are its own alone.
var cut = slices.Concat(entering(0, 1, 2), acts(ship(1, 9), apply(0, 9), compact(0)), entering(3, 4))

// TestRightWithoutTheLeadersEntries: where it has cut them off, what is committed tells what is right.
func TestRightWithoutTheLeadersEntries(t *testing.T) {
	wantCommitted(t, cut, joins(1, 2, 3)...)
	wantCommitted(t, with(cut, ship(1, 1)), joins(1, 2, 3, 4)...)
	wantCommitted(t, with(cut, lead(1), enter(8), ship(2, 9)), joins(1, 2, 3, 9)...)
	wantCommitted(t, with(cut, lead(1), enter(3), ship(2, 0)), joins(1, 2, 3, 4)...)
	wantCode(t, 9, cut, lead(2), api.ErrState)
}

// TestRightBehindABase: of what is cut off nothing is asked.
func TestRightBehindABase(t *testing.T) {
	l := with(cut, apply(1, 2), compact(1))
	o := done(t, 9, with(l, ship(1, 1)))
	wantList(t, "committed", o.Committed, joins(1, 2, 3, 4))
	wantReplica(t, "the replica 1", o.Replicas[1], 2, 2, joins(3, 4), o.Committed)
	o = done(t, 9, with(l, lead(1), ship(2, 9), ship(2, 9)))
	wantReplica(t, "the replica 2", o.Replicas[2], 2, 2, joins(3), o.Committed)
}
