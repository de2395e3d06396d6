package replica_test

import (
	"fmt"
	"slices"
	"testing"

	"tackroom/api"
	"tackroom/machine"
	"tackroom/replica"
)

// P9.3

func wantApplied(t *testing.T, r api.Replica, upto int, state api.State, mails ...api.Mail) {
	t.Helper()
	after := r
	after.State = state
	got, l, e := replica.Apply(r, upto)
	want(t, fmt.Sprintf("Apply of %s, %d", show(r), upto), got, e, after)
	if !slices.Equal(l, mails) {
		t.Errorf("Apply of %s, %d: the mails are %.2000s; want %.2000s", show(r), upto, showMails(l), showMails(mails))
	}
}

func wantNotApplied(t *testing.T, r api.Replica, upto int, e api.Errno) {
	t.Helper()
	got, l, errno := replica.Apply(r, upto)
	wantNothing(t, fmt.Sprintf("Apply of %s, %d", show(r), upto), got, errno, e)
	if len(l) != 0 {
		t.Errorf("Apply of %s, %d is refused with mails: %s", show(r), upto, showMails(l))
	}
}

// mails of the story, those behind an index up to another one.
func mails(behind, upto int) []api.Mail {
	var l []api.Mail
	for _, x := range story[behind:upto] {
		l = append(l, x.mail)
	}
	return l
}

// TestTheExampleOfTheWhole: Try is asked twice, and done once.
func TestTheExampleOfTheWhole(t *testing.T) {
	r, _ := replica.Hear(api.Replica{}, 0, told()[:4])
	wantApplied(t, r, 3, api.State{
		Index:    3,
		Locks:    []api.Lock{{Name: "a", Holder: 1, Fence: 1}},
		Sessions: []api.Session{{Client: 1, Id: 1, Last: 3, Replies: []api.Kept{{Seq: 1, Reply: api.Reply{N: 1}}}}},
	}, mail(1, 0, api.OK, 1, ""), mail(1, 1, api.OK, 1, ""), mail(1, 1, api.OK, 1, ""))
	r, _, _ = replica.Apply(r, 3)
	wantApplied(t, r, 4, api.State{
		Index:    4,
		Locks:    []api.Lock{{Name: "a", Holder: 1, Fence: 1}},
		Pairs:    []api.Pair{{Name: "a", Value: "x", Version: 1}},
		Sessions: []api.Session{{Client: 1, Id: 1, Acked: 1, Last: 4, Replies: []api.Kept{{Seq: 2, Reply: api.Reply{N: 1}}}}},
	}, mail(1, 2, api.OK, 1, ""))
}

// TestApplyTheStory: from each index to each.
func TestApplyTheStory(t *testing.T) {
	all := told()
	for base := range len(all) + 1 {
		for from := base; from <= len(all); from++ {
			for upto := from; upto <= len(all); upto++ {
				wantApplied(t, teller(base, from), upto, run(api.State{}, all[:upto]), mails(from, upto)...)
			}
		}
	}
}

// TestApplyTheLastOne: an index above Last is as good as that.
func TestApplyTheLastOne(t *testing.T) {
	all := told()
	for from := range len(all) + 1 {
		for _, upto := range []int{len(all) + 1, len(all) + 2, 400, api.MaxIndex - 1, api.MaxIndex} {
			wantApplied(t, teller(from/2, from), upto, run(api.State{}, all), mails(from, len(all))...)
		}
	}
	for _, r := range mayBe() {
		s := run(r.State, r.Log.Entries[r.State.Index-r.Log.Base:])
		got, l, e := replica.Apply(r, api.MaxIndex)
		if showState(got.State) != showState(s) || len(l) != s.Index-r.State.Index || e != api.OK {
			t.Errorf("Apply of %s to the last one = %s, %d mails, %d", show(r), show(got), len(l), e)
		}
	}
}

// TestApplyNothing: what is applied already stays so.
func TestApplyNothing(t *testing.T) {
	for _, r := range mayBe() {
		for _, upto := range []int{0, 1, r.Log.Base - 1, r.Log.Base, r.State.Index - 1, r.State.Index} {
			if upto >= 0 && upto <= r.State.Index {
				wantApplied(t, r, upto, r.State)
			}
		}
	}
}

func TestApplyRange(t *testing.T) {
	for _, r := range mayBe() {
		for _, upto := range append([]int{-1, -2, api.MaxIndex + 1, api.MaxIndex + 2}, outside...) {
			wantNotApplied(t, r, upto, api.ErrRange)
		}
	}
}

// TestApplyUpToMaxIndex: there no entry may follow.
func TestApplyUpToMaxIndex(t *testing.T) {
	s := busy(maxBase)
	c := slices.Concat(calls(380), told(), calls(5))
	r := grown(s, c, 0)
	for _, many := range []int{1, 399, 400} {
		got, l, e := replica.Apply(r, maxBase+many)
		if showState(got.State) != showState(run(s, c[:many])) || len(l) != many || e != api.OK {
			t.Errorf("Apply of %s, %d = %s, %d mails, %d", show(r), maxBase+many, show(got), len(l), e)
		}
		wantCheck(t, got, api.OK)
	}
	wantApplied(t, grown(s, c, 400), api.MaxIndex, run(s, c))
}

// TestApplyGoesOnFromTheState: whatever the snapshot and the entries ahead tell.
func TestApplyGoesOnFromTheState(t *testing.T) {
	for _, r := range odd() {
		r.Log.Entries = append(r.Log.Entries[:r.State.Index-r.Log.Base:r.State.Index-r.Log.Base], call(6, 7, 3, 2, op(api.Try, "c")))
		if len(r.Log.Entries) > api.MaxEntries {
			continue
		}
		s, reply, _ := machine.Apply(r.State, r.Log.Entries[len(r.Log.Entries)-1])
		wantApplied(t, r, s.Index, s, api.Mail{Client: 6, Seq: 3, Reply: reply})
	}
}

// TestApplyOfIdleClients: a client that says nothing for MaxIdle entries has no session any more.
func TestApplyOfIdleClients(t *testing.T) {
	l := []string{join(1), call(1, 1, 1, 0, op(api.Try, "a"))}
	for range api.MaxIdle {
		l = append(l, join(2))
	}
	r := grown(api.State{}, append(l, call(1, 1, 2, 1, op(api.Who, "a")), call(2, 3, 1, 0, op(api.Who, "a"))), 2)
	got, m, e := replica.Apply(r, api.MaxIndex)
	if e != api.OK || len(m) != api.MaxIdle+2 || m[api.MaxIdle] != mail(1, 2, api.ErrAway, 0, "") || m[api.MaxIdle+1] != mail(2, 1, api.OK, 0, "") {
		t.Errorf("Apply of a client that is idle: %s, %s, %d", show(got), showMails(m), e)
	}
}

// TestApplyInParts: one by one or at once, it comes to the same.
func TestApplyInParts(t *testing.T) {
	for _, step := range []int{1, 2, 4, 7} {
		r, all := teller(0, 0), []api.Mail(nil)
		for upto := step; r.State.Index < len(story); upto += step {
			next, l, e := replica.Apply(r, upto)
			if e != api.OK {
				t.Fatalf("Apply of %s, %d is refused: %d", show(r), upto, e)
			}
			r, all = next, append(all, l...)
		}
		if !same(r, teller(0, len(story))) || !slices.Equal(all, mails(0, len(story))) {
			t.Errorf("by %d: %s, %s", step, show(r), showMails(all))
		}
	}
}
