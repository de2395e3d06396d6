package log_test

import (
	"math"
	"slices"
	"testing"

	"tackroom/api"
	"tackroom/log"
)

// P8.4

func wantBehind(t *testing.T, l api.Log, index, many int, want ...string) {
	t.Helper()
	if got, e := log.Behind(l, index, many); !slices.Equal(got, want) || e != api.OK {
		t.Errorf("Behind(%s, %d, %d) = %.200q, %d; want %.200q, 0", show(l), index, many, got, e, want)
	}
}

func wantNotBehind(t *testing.T, l api.Log, index, many int, want api.Errno) {
	t.Helper()
	if got, e := log.Behind(l, index, many); len(got) != 0 || e != want {
		t.Errorf("Behind(%s, %d, %d) = %.200q, %d; want nothing and %d", show(l), index, many, got, e, want)
	}
}

func TestBehind(t *testing.T) {
	for _, base := range bases {
		l := logOf(base, kinds...)
		for at := range len(kinds) + 1 {
			for many := range len(kinds) - at + 1 {
				wantBehind(t, l, base+at, many, kinds[at:at+many]...)
			}
			for _, more := range []int{len(kinds) - at + 1, 9, 400, 401, math.MaxInt - 1, math.MaxInt} {
				wantBehind(t, l, base+at, more, kinds[at:]...)
			}
		}
	}
	wantBehind(t, logOf(5, join, try, set), 6, 1, try)
}

func TestBehindOfAFullLog(t *testing.T) {
	for _, base := range bases {
		l := logOf(base, numbered(400)...)
		wantBehind(t, l, base, 400, numbered(400)...)
		wantBehind(t, l, base, 399, numbered(399)...)
		wantBehind(t, l, base+1, 400, numberedFrom(2, 399)...)
		wantBehind(t, l, base+399, 2, numberedFrom(400, 1)...)
	}
}

// TestBehindTheLastOne: there are none, at whatever index that is not below Base.
func TestBehindTheLastOne(t *testing.T) {
	for _, l := range mayBe() {
		last := l.Base + len(l.Entries)
		for _, index := range []int{last, last + 1, last + 2, last + 400, api.MaxIndex, api.MaxIndex + 1, math.MaxInt - 1, math.MaxInt} {
			if index < last {
				continue
			}
			for _, many := range []int{0, 1, 400, math.MaxInt} {
				wantBehind(t, l, index, many)
			}
		}
		wantBehind(t, l, l.Base, 0)
	}
}

func TestBehindRange(t *testing.T) {
	for _, l := range mayBe() {
		last := l.Base + len(l.Entries)
		for _, index := range []int{l.Base - 1, l.Base - 400, -1, math.MinInt, math.MinInt + 1} {
			if index >= l.Base {
				continue
			}
			for _, many := range []int{math.MinInt, -1, 0, 1, 400, math.MaxInt} {
				wantNotBehind(t, l, index, many, api.ErrRange)
			}
		}
		for _, index := range []int{l.Base, last, last + 1, api.MaxIndex + 1, math.MaxInt} {
			for _, many := range []int{-1, -2, -400, math.MinInt, math.MinInt + 1} {
				wantNotBehind(t, l, index, many, api.ErrRange)
			}
		}
	}
}

// P8.5

func wantCut(t *testing.T, l api.Log, index int, want ...string) {
	t.Helper()
	if got, e := log.Cut(l, index); !same(got, logOf(index, want...)) || e != api.OK {
		t.Errorf("Cut(%s, %d) = %s, %d; want %s, 0", show(l), index, show(got), e, show(logOf(index, want...)))
	}
}

func wantNotCut(t *testing.T, l api.Log, index int, want api.Errno) {
	t.Helper()
	if got, e := log.Cut(l, index); !same(got, api.Log{}) || e != want {
		t.Errorf("Cut(%s, %d) = %s, %d; want nothing and %d", show(l), index, show(got), e, want)
	}
}

func TestCut(t *testing.T) {
	for _, base := range []int{0, 1, 5, 1000, maxBase - 8, maxBase - 400} {
		l := logOf(base, kinds...)
		for at := range len(kinds) + 1 {
			wantCut(t, l, base+at, kinds[at:]...)
		}
	}
	wantCut(t, logOf(5, join, try, set), 6, try, set)
	for _, base := range []int{0, 1, 1000, maxBase - 400} {
		l := logOf(base, numbered(400)...)
		for _, at := range []int{0, 1, 200, 399, 400} {
			wantCut(t, l, base+at, numberedFrom(at+1, 400-at)...)
		}
	}
}

// TestCutAtTheBase: the log stays, also at the greatest Base that may be.
func TestCutAtTheBase(t *testing.T) {
	for _, l := range mayBe() {
		wantCut(t, l, l.Base, l.Entries...)
	}
}

func TestCutRange(t *testing.T) {
	for _, l := range mayBe() {
		last := l.Base + len(l.Entries)
		for _, index := range append([]int{l.Base - 1, l.Base - 2, -1, last + 1, last + 2, last + 400, api.MaxIndex + 1}, outside...) {
			wantNotCut(t, l, index, api.ErrRange) // above what may be a Base, too
		}
	}
}

func TestCutFull(t *testing.T) {
	few := logOf(maxBase-1, kinds...)
	wantCut(t, few, maxBase-1, kinds...)
	wantCut(t, few, maxBase, kinds[1:]...)
	for index := maxBase + 1; index <= maxBase+7; index++ {
		wantNotCut(t, few, index, api.ErrFull)
	}
	wantNotCut(t, few, maxBase+8, api.ErrRange)
	full := logOf(maxBase, numbered(400)...)
	for index := maxBase + 1; index <= api.MaxIndex; index++ {
		wantNotCut(t, full, index, api.ErrFull)
	}
	wantNotCut(t, full, api.MaxIndex+1, api.ErrRange)
	wantNotCut(t, logOf(maxBase), maxBase+1, api.ErrRange)
}

// TestCutKeepsTheIndexes: what is behind the new Base is found where it was.
func TestCutKeepsTheIndexes(t *testing.T) {
	for _, base := range []int{0, 7, maxBase - 8} {
		l := logOf(base, kinds...)
		for at := range len(kinds) + 1 {
			cut, _ := log.Cut(l, base+at)
			if log.Last(cut) != base+len(kinds) || log.Check(cut) != api.OK {
				t.Errorf("Cut(%s, %d) = %s", show(l), base+at, show(cut))
			}
			for i, entry := range kinds {
				if i < at {
					wantNotAt(t, cut, base+1+i, api.ErrNone)
				} else {
					wantAt(t, cut, base+1+i, entry)
				}
			}
		}
	}
}
