package cluster_test

import (
	"math"
	"slices"
	"testing"

	"tackroom/api"
)

// P11.5

// sessionMails: what clients hear of their Joins, if those are the first entries.
func sessionMails(ids ...int) []api.Mail {
	var l []api.Mail
	for i, id := range ids {
		l = append(l, mail(id, 0, api.OK, i+1, ""))
	}
	return l
}

// TestApplyInParts: up to so many, of those that are committed.
func TestApplyInParts(t *testing.T) {
	all := joins(1, 2, 3, 4)
	for has := range 5 {
		l := with(entering(0, 1, 2, 3), ship(1, has))
		for a := range 6 {
			for b := range 6 {
				n := min(a+b, has)
				o := done(t, 9, l, acts(apply(0, a), apply(0, b)))
				wantReplica(t, "the leader", o.Replicas[0], 0, n, all, all)
				wantMails(t, "mails", o.Mails, sessionMails(1, 2, 3, 4)[:n]...)
				o = done(t, 9, l, acts(apply(1, a), apply(1, b)))
				wantReplica(t, "the replica 1", o.Replicas[1], 0, n, all[:has], all)
				wantMails(t, "mails", o.Mails)
			}
		}
	}
}

// TestApplyMany: MaxEntries, if it is more.
func TestApplyMany(t *testing.T) {
	l := with(slices.Repeat(entering(0), 390), ship(1, 390))
	all := slices.Repeat(joins(1), 390)
	for _, many := range []int{389, 390, api.MaxEntries, api.MaxEntries + 1, api.MaxIndex, api.MaxIndex + 1, 1 << 32, math.MaxInt - 1, math.MaxInt} {
		o := done(t, 1, l, acts(apply(0, many), apply(1, many)))
		wantReplica(t, "the leader", o.Replicas[0], 0, min(many, 390), all, all)
		wantReplica(t, "the replica 1", o.Replicas[1], 0, min(many, 390), all, all)
		o = done(t, 1, l, acts(apply(1, 5), apply(1, many)))
		wantReplica(t, "the replica 1", o.Replicas[1], 0, 390, all, all)
	}
}

// TestApplyNothing: nothing is committed, all is applied, or no entry is asked for.
func TestApplyNothing(t *testing.T) {
	for _, l := range [][]api.Act{nil, entering(0, 1), apart, with(cut, apply(1, 9)), with(cut, lead(1), apply(1, 9))} {
		for r := range api.Replicas {
			for _, many := range []int{0, 1, 9, 400, math.MaxInt} {
				wantSame(t, 9, l, apply(r, many))
			}
		}
	}
	for r := range 2 {
		wantSame(t, 9, with(entering(0, 1), ship(1, 9)), apply(r, 0))
		wantSame(t, 9, with(entering(0, 1), ship(1, 9), apply(r, 1)), apply(r, 0))
	}
}

// TestApplyWhatIsRight: as far as a replica has what is committed.
func TestApplyWhatIsRight(t *testing.T) {
	all := joins(1, 4, 3, 5)
	// The replica 0 has entries of 1, 2 and 3, the leader 1 those of 1, 4, 3 and 5, which are committed by the replica 2.
	l := with(apart, ship(2, 9))
	o := done(t, 9, with(l, apply(0, 9), apply(1, 9), apply(2, 9)))
	wantList(t, "committed", o.Committed, all)
	wantReplica(t, "the replica 0", o.Replicas[0], 0, 1, joins(1, 2, 3), all)
	wantReplica(t, "the leader", o.Replicas[1], 0, 4, all, all)
	wantReplica(t, "the replica 2", o.Replicas[2], 0, 4, all, all)
	o = done(t, 9, with(l, ship(0, 1), apply(0, 9)))
	wantReplica(t, "the replica 0", o.Replicas[0], 0, 2, all[:2], all)
	o = done(t, 9, with(l, ship(0, 1), apply(0, 1), ship(0, 1), apply(0, 1)))
	wantReplica(t, "the replica 0", o.Replicas[0], 0, 2, all[:3], all)
}

// TestApplyWhatIsCommitted: not what a replica has beyond, though it is right.
func TestApplyWhatIsCommitted(t *testing.T) {
	// The replica 0 has one more than is committed; by Enter it is the leader's, too, but no act says that it is committed.
	l := with(entering(0, 1, 2), ship(1, 2), lead(1), enter(2))
	o := done(t, 9, with(l, apply(0, 9), apply(1, 9)))
	wantReplica(t, "the replica 0", o.Replicas[0], 0, 2, joins(1, 2, 3), joins(1, 2))
	wantReplica(t, "the leader", o.Replicas[1], 0, 2, joins(1, 2, 3), joins(1, 2))
	o = done(t, 9, with(l, lead(1), apply(0, 9), apply(1, 9)))
	wantReplica(t, "the replica 0", o.Replicas[0], 0, 3, joins(1, 2, 3), joins(1, 2, 3))
	wantReplica(t, "the leader", o.Replicas[1], 0, 3, joins(1, 2, 3), joins(1, 2, 3))
}

// TestApplyBehindABase: from where the replica is.
func TestApplyBehindABase(t *testing.T) {
	all := joins(1, 2, 3, 4, 5)
	l := with(cut, ship(1, 9), ship(2, 0), ship(2, 1))
	o := done(t, 9, with(l, apply(0, 1), apply(2, 9)))
	wantReplica(t, "the leader", o.Replicas[0], 3, 4, all[3:], all)
	wantReplica(t, "the replica 2", o.Replicas[2], 3, 4, all[3:4], all)
	wantMails(t, "mails", o.Mails, sessionMails(1, 2, 3, 4)...)
}

func TestApplyRange(t *testing.T) {
	for _, l := range [][]api.Act{nil, with(entering(0, 1), ship(1, 1)), apart, cut} {
		for r := range api.Replicas {
			for _, many := range []int{-1, -2, -400, -1 << 32, math.MinInt, math.MinInt + 1} {
				wantCode(t, 9, l, apply(r, many), api.ErrRange)
			}
		}
	}
}

// TestMailsOfTheLeader: of nobody else, whoever that is, and behind all others.
func TestMailsOfTheLeader(t *testing.T) {
	l := with(entering(0, 1, 2), ship(1, 9), ship(2, 9))
	for leader := range api.Replicas {
		for r := range api.Replicas {
			o := done(t, 9, with(l, lead(leader), apply(r, 9)))
			if r == leader {
				wantMails(t, "mails", o.Mails, sessionMails(1, 2, 3)...)
			} else {
				wantMails(t, "mails", o.Mails)
			}
		}
	}
	all := sessionMails(1, 2, 3)
	o := done(t, 9, with(l, apply(0, 2), lead(1), apply(1, 9), crash(1), apply(1, 1)))
	wantMails(t, "mails", o.Mails, all[0], all[1], all[0], all[1], all[2], all[0])
}

// TestMailsOfCalls: each of them tells its client, its Seq and its reply.
func TestMailsOfCalls(t *testing.T) {
	l := with(joined(0, 1),
		start(0, op(api.Try, "a")), start(0, setOp("a", "x", 1)), start(0, op(api.Get, "a")), start(1, op(api.Try, "a")),
		send(0, 0), send(0, 1), send(1, 0), send(0, 2), enter(1), send(0, 1), ship(1, 9), apply(0, 9))
	wantMails(t, "mails", done(t, 9, l).Mails,
		mail(1, 1, api.OK, 1, ""), mail(1, 2, api.OK, 1, ""), mail(2, 1, api.ErrHeld, 1, ""), mail(1, 3, api.OK, 1, "x"),
		mail(2, 0, api.ErrTwice, 2, ""), mail(1, 2, api.OK, 1, ""))
}

// TestRoomForMails: those that there is no room for are lost, the last ones.
func TestRoomForMails(t *testing.T) {
	for _, many := range []int{59, 60, 61, 62, 90} {
		o := done(t, 1, slices.Repeat(entering(0), many), acts(ship(1, many), apply(0, many)))
		wantNumber(t, "mails", len(o.Mails), min(many, api.MaxFlying))
		wantReplica(t, "the leader", o.Replicas[0], 0, many, o.Committed, o.Committed)
	}
	l := with(slices.Repeat(entering(0), 58), enter(1), enter(2), enter(3), ship(1, 90), apply(0, 90))
	o := done(t, 9, l)
	wantMails(t, "the last ones", o.Mails[57:], mail(1, 0, api.ErrTwice, 1, ""), mail(2, 0, api.OK, 59, ""), mail(3, 0, api.OK, 60, ""))
	wantReplica(t, "the leader", o.Replicas[0], 0, 61, o.Committed, o.Committed)
	// Room for two more: what is behind all others is not told by a mail.
	l = with(l, drop(0), drop(0), enter(4), enter(0), enter(2), ship(1, 90), apply(0, 90))
	o = done(t, 9, l)
	wantNumber(t, "mails", len(o.Mails), api.MaxFlying)
	wantMails(t, "the last ones", o.Mails[57:], mail(3, 0, api.OK, 60, ""), mail(5, 0, api.ErrFull, 0, ""), mail(1, 0, api.ErrTwice, 1, ""))
	// No room at all.
	o = done(t, 9, with(l, enter(1), ship(1, 90), apply(0, 90)))
	wantMails(t, "the last ones", o.Mails[57:], mail(3, 0, api.OK, 60, ""), mail(5, 0, api.ErrFull, 0, ""), mail(1, 0, api.ErrTwice, 1, ""))
	wantReplica(t, "the leader", o.Replicas[0], 0, 65, o.Committed, o.Committed)
}

func TestCompact(t *testing.T) {
	all := joins(1, 2, 3)
	for r := range api.Replicas {
		for n := range 4 {
			l := with(entering(0, 1, 2), ship(1, 9), ship(2, 9), apply(r, n))
			if n == 0 {
				wantCode(t, 9, l, compact(r), api.ErrOld)
				continue
			}
			was, o := done(t, 9, l), done(t, 9, l, acts(compact(r)))
			wantReplica(t, "a replica", o.Replicas[r], n, n, all[n:], all)
			o.Replicas[r], o.Codes = was.Replicas[r], was.Codes
			if show(o) != show(was) {
				t.Errorf("Compact of %d does more: %s of %s", r, show(o), show(was))
			}
			wantCode(t, 9, with(l, compact(r)), compact(r), api.ErrOld)
		}
		wantCode(t, 9, nil, compact(r), api.ErrOld)
		wantCode(t, 9, apart, compact(r), api.ErrOld)
	}
}

// TestCrash: what was applied behind the snapshot is applied no more, and may be again; the log stays.
func TestCrash(t *testing.T) {
	all := joins(1, 2, 3)
	for r := range api.Replicas {
		for base := range 4 {
			for n := base; n <= 3; n++ {
				l := with(entering(0, 1, 2), ship(1, 9), ship(2, 9), apply(r, base))
				if base > 0 {
					l = with(l, compact(r))
				}
				l = with(l, apply(r, n-base))
				was, o := done(t, 9, l), done(t, 9, l, acts(crash(r)))
				wantReplica(t, "a replica", o.Replicas[r], base, base, all[base:], all)
				o.Replicas[r], o.Codes = was.Replicas[r], was.Codes
				if show(o) != show(was) {
					t.Errorf("Crash of %d does more: %s of %s", r, show(o), show(was))
				}
				o = done(t, 9, l, acts(crash(r), apply(r, 9)))
				wantReplica(t, "a replica", o.Replicas[r], base, 3, all[base:], all)
			}
		}
		wantSame(t, 9, nil, crash(r))
		wantSame(t, 9, apart, crash(r))
	}
}
