package cluster_test

import (
	"slices"
	"testing"

	"tackroom/api"
)

// P11.6

func wantLeader(t *testing.T, l []api.Act, want int) {
	t.Helper()
	wantNumber(t, "the leader", done(t, 9, l).Leader, want)
}

// TestLead: when nothing is committed anyone may, as often as it likes; it alone changes.
func TestLead(t *testing.T) {
	wantLeader(t, nil, 0)
	for a := range api.Replicas {
		for b := range api.Replicas {
			wantLeader(t, acts(lead(a), lead(b)), b)
			wantLeader(t, with(entering(0, 1), lead(a), enter(2), lead(b)), b)
		}
		was, o := done(t, 9, entering(0, 1)), done(t, 9, entering(0, 1), acts(lead(a)))
		o.Leader, o.Codes = 0, was.Codes
		if show(o) != show(was) {
			t.Errorf("Lead of %d does more: %s of %s", a, show(o), show(was))
		}
	}
}

// TestLeadOfOneThatLacks: who leads must have all that is committed.
func TestLeadOfOneThatLacks(t *testing.T) {
	for has := range 4 {
		for lacks := range has {
			l := with(entering(0, 1, 2), ship(1, has), ship(2, lacks))
			wantCode(t, 9, l, lead(2), api.ErrState)
			wantCode(t, 9, with(l, lead(1)), lead(2), api.ErrState)
			wantLeader(t, with(l, lead(1)), 1)
			wantLeader(t, with(l, lead(0)), 0)
			wantLeader(t, with(l, ship(2, has-lacks), lead(2)), 2)
			if has-lacks > 1 {
				wantCode(t, 9, with(l, ship(2, has-lacks-1)), lead(2), api.ErrState)
			}
		}
	}
}

// TestLeadOfOneThatHasOthers: one entry that is another one is enough, wherever it stands.
func TestLeadOfOneThatHasOthers(t *testing.T) {
	all := []int{0, 1, 2}
	for k := range all {
		own := slices.Clone(all)
		own[k] = 7
		l := slices.Concat(acts(lead(2)), entering(own...), entering(8), acts(lead(0)), entering(all...), acts(ship(1, k)))
		wantLeader(t, with(l, lead(2)), 2)
		wantCode(t, 9, with(l, ship(1, 1)), lead(2), api.ErrState)
		wantCode(t, 9, with(l, ship(1, 9)), lead(2), api.ErrState)
		wantLeader(t, with(l, ship(1, 9), ship(2, 9), lead(2)), 2)
	}
}

// TestLeadCommits: what another one has of it.
func TestLeadCommits(t *testing.T) {
	// The replica 1 has two entries more than the leader, the old one has them, too.
	l := with(entering(0, 1, 2, 3), ship(1, 2), lead(1), enter(2), enter(3), enter(4))
	wantCommitted(t, l, joins(1, 2)...)
	wantCommitted(t, with(l, lead(1)), joins(1, 2, 3, 4)...)
	wantCommitted(t, with(l, lead(0)), joins(1, 2, 3, 4)...)
	wantCode(t, 9, l, lead(2), api.ErrState)
	wantCommitted(t, with(l, lead(0), ship(2, 9), lead(2)), joins(1, 2, 3, 4)...)
	wantCommitted(t, with(l, lead(0), ship(2, 9), lead(1), ship(2, 9)), joins(1, 2, 3, 4, 5)...)
}

// TestLeadBehindABase: what is cut off is right; a leader without it tells its snapshot.
func TestLeadBehindABase(t *testing.T) {
	all := joins(1, 2, 3, 9)
	l := with(cut, ship(2, 9), lead(2), enter(8), ship(1, 9))
	o := done(t, 9, l)
	wantNumber(t, "the leader", o.Leader, 2)
	wantList(t, "committed", o.Committed, all)
	wantReplica(t, "the replica 1", o.Replicas[1], 0, 0, all, all)
	wantReplica(t, "the leader", o.Replicas[2], 3, 3, all[3:], all)
	o = done(t, 9, with(l, ship(0, 9), apply(2, 9), compact(2), crash(2), lead(0), lead(2), enter(7), ship(0, 1), apply(0, 9)))
	all = append(all, joins(8)...)
	wantReplica(t, "the replica 0", o.Replicas[0], 3, 5, all[3:], all)
	wantReplica(t, "the leader", o.Replicas[2], 4, 4, all[4:], all)
}
