package snap_test

import (
	"slices"
	"strings"
	"testing"

	"tackroom/api"
	"tackroom/snap"
)

// P7.2

func wantDecode(t *testing.T, s string, want api.State) {
	t.Helper()
	if got, e := snap.Decode(s); show(got) != show(want) || e != api.OK {
		t.Errorf("Decode(%q) = %s, %d; want %s, 0", s, show(got), e, show(want))
	}
}

func wantNotDecoded(t *testing.T, s string, want api.Errno) {
	t.Helper()
	if got, e := snap.Decode(s); show(got) != show(api.State{}) || e != want {
		t.Errorf("Decode(%.600q) = %s, %d; want nothing and %d", s, show(got), e, want)
	}
}

// wantNotRead: bytes with a seal that is theirs.
func wantNotRead(t *testing.T, body string, want api.Errno) {
	t.Helper()
	wantNotDecoded(t, sealed(body), want)
}

func TestDecode(t *testing.T) {
	for _, x := range known {
		wantDecode(t, sealed(x.body), x.s)
	}
	for _, s := range mayBe() {
		wantDecode(t, sealed(join(parts(s))), s)
	}
	wantDecode(t, "\x00\x00\x00\x00\x00\x04\x00\x01", api.State{})
}

func TestDecodeUndoesEncode(t *testing.T) {
	for _, s := range mayBe() {
		b, _ := snap.Encode(s)
		wantDecode(t, b, s)
	}
}

func TestDecodeSize(t *testing.T) {
	fill := strings.Repeat("\x00", api.MaxBytes)
	for _, s := range mayBe() {
		body := join(parts(s))
		room := api.MaxBytes - 4 - len(body)
		wantNotRead(t, body+fill[:room-1], api.ErrForm)
		wantNotRead(t, body+fill[:room], api.ErrForm) // as many as may be
		wantNotRead(t, body+fill[:room+1], api.ErrSize)
		wantNotRead(t, body+fill+fill, api.ErrSize)
		// ahead of the seal's error
		wantNotDecoded(t, body+fill[:room]+"seal", api.ErrSum)
		wantNotDecoded(t, body+fill[:room+1]+"seal", api.ErrSize)
	}
	for _, b := range []string{"\x00", "\x01", "\x80", "\xff"} {
		wantNotDecoded(t, strings.Repeat(b, api.MaxBytes), api.ErrSum)
		wantNotDecoded(t, strings.Repeat(b, api.MaxBytes+1), api.ErrSize)
		wantNotDecoded(t, strings.Repeat(b, 1<<20), api.ErrSize)
	}
}

func TestDecodeFewerThanFour(t *testing.T) {
	bytes := []string{"\x00", "\x01", "a", "\x80", "\xff"}
	wantNotDecoded(t, "", api.ErrShort)
	for _, a := range bytes {
		wantNotDecoded(t, a, api.ErrShort)
		for _, b := range bytes {
			wantNotDecoded(t, a+b, api.ErrShort)
			for _, c := range bytes {
				wantNotDecoded(t, a+b+c, api.ErrShort)
				for _, d := range bytes {
					if s := a + b + c + d; s != sealed("") {
						wantNotDecoded(t, s, api.ErrSum)
					}
				}
			}
		}
	}
	wantNotDecoded(t, "\x00\x00\x00\x01", api.ErrShort) // the seal of nothing
}

func TestDecodeSum(t *testing.T) {
	for _, s := range mayBe() {
		whole := sealed(join(parts(s)))
		for i := range len(whole) {
			for _, change := range []byte{0x01, 0x80, 0xff} {
				wantNotDecoded(t, whole[:i]+string([]byte{whole[i] ^ change})+whole[i+1:], api.ErrSum)
			}
		}
		end := len(whole) - 4
		body, seal := whole[:end], whole[end:]
		wantNotDecoded(t, body+seal[2:]+seal[:2], api.ErrSum) // the two sums the other way round
		wantNotDecoded(t, body+seal[1:2]+seal[:1]+seal[3:]+seal[2:3], api.ErrSum)
		wantNotDecoded(t, seal+body, api.ErrSum)
		wantNotDecoded(t, body+seal+"\x00", api.ErrSum)
		wantNotDecoded(t, body+seal[:3], api.ErrSum)
		wantNotDecoded(t, whole+"seal", api.ErrSum)
	}
}

// TestDecodeSumFirst: whatever is wrong with the bytes ahead of a seal, if that is not theirs it is told.
func TestDecodeSumFirst(t *testing.T) {
	for _, body := range []string{
		"", "\x80", "\x80\x00", "\x00\x06", "\x00\x00\x00\x00\x00", "\x00\x01\x01A\x00\x00\x00\x00\x00", "\x00\x01\x89\x27",
		strings.Repeat("\xff", 100),
	} {
		wantNotDecoded(t, body+"seal", api.ErrSum)
		whole := []byte(sealed(body))
		whole[len(whole)-1]++
		wantNotDecoded(t, string(whole), api.ErrSum)
	}
}

// TestDecodeCutShort: sealed anew, so that the seal is right.
func TestDecodeCutShort(t *testing.T) {
	for _, s := range mayBe() {
		body := join(parts(s))
		for i := range len(body) {
			wantNotRead(t, body[:i], api.ErrShort)
		}
	}
	// what Check would refuse of what is there goes behind it
	for _, body := range []string{
		"\x81\x80\x80\x80\x04", "\x00\x01\x01A\x00\x00\x01", "\x00\x00\x02\x00\x00\x00", "\x00\x00\x00\x01\x00\x00\x00\x00\x01\x00\x10",
	} {
		wantNotRead(t, body, api.ErrShort)
	}
}

func TestDecodeMoreBytes(t *testing.T) {
	for _, s := range mayBe() {
		body := join(parts(s))
		for _, more := range []string{"\x00", "x", "\x80", "\xff\xff", sealed(body)[len(body):], body} {
			wantNotRead(t, body+more, api.ErrForm)
			wantNotDecoded(t, sealed(body)+more, api.ErrSum)
		}
	}
}

// wrongNumbers: such as are no numbers, and such as end too early if nothing is behind them.
var (
	wrongNumbers = []string{
		"\x80\x00", "\x85\x00", "\x83\x81\x00", "\x80\x80\x80\x80\x80\x80\x01", strings.Repeat("\xff", 9) + "\x01",
		"\x81\x80\x80\x80\x80\x20", "\xff\xff\xff\xff\xff\x7f",
	}
	shortNumbers = []string{"", "\x80", "\xff\xff", strings.Repeat("\x80", 6), strings.Repeat("\x80", 20)}
)

// eachPart of states: what is ahead of it, that itself, what is behind it.
func eachPart(do func(ahead string, x part, behind string)) {
	for _, s := range mayBe() {
		all := parts(s)
		for i, x := range all {
			do(join(all[:i]), x, join(all[i+1:]))
		}
	}
}

func TestDecodeWrongNumbers(t *testing.T) {
	eachPart(func(ahead string, x part, behind string) {
		for _, n := range wrongNumbers {
			wantNotRead(t, ahead+n, api.ErrForm)
			wantNotRead(t, ahead+n+behind, api.ErrForm)
			wantNotRead(t, ahead+n+"\x80", api.ErrForm)
			wantNotRead(t, ahead+n+behind+"\x00", api.ErrForm)
		}
		for _, n := range shortNumbers {
			wantNotRead(t, ahead+n, api.ErrShort)
		}
	})
}

func TestDecodeWrongTexts(t *testing.T) {
	eachPart(func(ahead string, x part, behind string) {
		if !x.text {
			return
		}
		for _, length := range []string{"\x89\x27", "\xff\xff\x7f", "\x80\x80\x80\x80\x80\x20"} {
			wantNotRead(t, ahead+length, api.ErrSize)
			wantNotRead(t, ahead+length+behind, api.ErrSize)
			wantNotRead(t, ahead+length+strings.Repeat("x", 4000), api.ErrSize)
		}
		for _, length := range []string{"\x01", "\x7f", "\x88\x27"} {
			wantNotRead(t, ahead+length, api.ErrShort)
		}
		wantNotRead(t, ahead+"\x88\x27"+behind, api.ErrShort)
	})
}

// TestDecodeTooMany: told behind the number itself, so ahead of all that is wrong from there on.
func TestDecodeTooMany(t *testing.T) {
	counts := 0
	eachPart(func(ahead string, x part, behind string) {
		if x.most == 0 {
			return
		}
		counts++
		for _, many := range []string{string([]byte{byte(x.most + 1)}), "\x7f", "\xac\x02", "\x80\x80\x80\x80\x80\x20"} {
			for _, rest := range []string{"", "\x80", "\x80\x00", "\x89\x27", "\x00", behind, behind + "\x00"} {
				wantNotRead(t, ahead+many+rest, api.ErrSize)
			}
		}
		// as many as may be are not too many, but there are none
		wantNotRead(t, ahead+string([]byte{byte(x.most)}), api.ErrShort)
	})
	if counts < 50 {
		t.Errorf("only %d lists", counts)
	}
}

// TestDecodeOneMore: full lists with one more, that could be read.
func TestDecodeOneMore(t *testing.T) {
	for _, more := range []func(s *api.State){
		func(s *api.State) { s.Locks = append(s.Locks, lockOf("zzzzzzz", 1, 1)) },
		func(s *api.State) { s.Pairs = append(s.Pairs, pairOf("zzzzzzz", "", 1)) },
		func(s *api.State) { s.Sessions = append(s.Sessions, sessionOf(10, 1, 0, 1)) },
		func(s *api.State) { s.Locks[0].Line = append(s.Locks[0].Line, 9) },
		func(s *api.State) { s.Locks[4].Line = append(s.Locks[4].Line, 9) },
		func(s *api.State) {
			s.Sessions[0].Replies = append(s.Sessions[0].Replies, kept(api.MaxSeq+5, api.OK, 0, ""))
		},
		func(s *api.State) {
			s.Sessions[3].Replies = append(s.Sessions[3].Replies, kept(api.MaxSeq+5, api.OK, 0, ""))
		},
	} {
		s := full()
		more(&s)
		wantNotRead(t, join(parts(s)), api.ErrSize)
		wantNotRead(t, join(parts(s))+"\x00", api.ErrSize)
	}
}

// tooMany: is a list of it longer than may be?
func tooMany(s api.State) bool {
	return len(s.Locks) > api.MaxLocks || len(s.Pairs) > api.MaxPairs || len(s.Sessions) > api.MaxSessions ||
		slices.ContainsFunc(s.Locks, func(x api.Lock) bool { return len(x.Line) > api.MaxWaiters }) ||
		slices.ContainsFunc(s.Sessions, func(x api.Session) bool { return len(x.Replies) > api.Window })
}

// TestDecodeWhatMayNotBe: bytes of states that may not be. What cannot be read goes ahead, and so do bytes that are left.
func TestDecodeWhatMayNotBe(t *testing.T) {
	seen := map[api.Errno]int{}
	eachWrong(func(s api.State, first api.Errno) {
		if !writable(s) {
			return
		}
		body := join(parts(s))
		if tooMany(s) {
			wantNotRead(t, body, api.ErrSize)
			return
		}
		seen[first]++
		if first == api.OK {
			wantDecode(t, sealed(body), s)
		} else {
			wantNotRead(t, body, first)
		}
		wantNotRead(t, body+"\x00", api.ErrForm)
		wantNotRead(t, body[:len(body)-1], api.ErrShort)
		wantNotDecoded(t, body+"seal", api.ErrSum)
	})
	for _, e := range []api.Errno{api.OK, api.ErrRange, api.ErrForm, api.ErrSize, api.ErrOrder} {
		if seen[e] == 0 {
			t.Errorf("no state of which %d is told", e)
		}
	}
}

// TestDecodeGreatNumbers: numbers up to MaxNumber are read, whatever Check says of them then.
func TestDecodeGreatNumbers(t *testing.T) {
	for _, s := range mayBe() {
		all := parts(s)
		for i, x := range all {
			if x.text || x.most > 0 {
				continue
			}
			for _, n := range []string{"\x81\x80\x80\x80\x10", "\x80\x80\x80\x80\x80\x20", "\xff\xff\xff\xff\xff\x1f"} {
				body := join(all[:i]) + n + join(all[i+1:])
				if _, e := snap.Decode(sealed(body)); e != api.ErrRange && e != api.ErrForm {
					t.Errorf("Decode of the part %d of %s, which is %q: %d", i, show(s), n, e)
				}
				wantNotRead(t, body+"\x00", api.ErrForm)
			}
		}
	}
}

// TestDecodeCodes: each error number, and more; in few bits some of them would look like others.
func TestDecodeCodes(t *testing.T) {
	for _, code := range []int{0, 1, 7, 15, 16, 17, 128, 256, 1 << 16, 1 << 32, 1<<32 + 1, api.MaxNumber} {
		s := api.State{Index: 1, Sessions: []api.Session{sessionOf(1, 1, 0, 1, kept(1, api.Errno(code), 0, ""))}}
		if body := join(parts(s)); code <= 15 {
			wantDecode(t, sealed(body), s)
		} else {
			wantNotRead(t, body, api.ErrForm)
		}
	}
}

// TestDecodeWhatIsWrongFirst: of two parts that are wrong the first one is told.
func TestDecodeWhatIsWrongFirst(t *testing.T) {
	type choice struct {
		bytes string
		e     api.Errno
	}
	choices := func(x part) []choice {
		l := []choice{{"\x80\x00", api.ErrForm}}
		if x.text {
			l = append(l, choice{"\x89\x27", api.ErrSize})
		}
		if x.most > 0 {
			l = append(l, choice{"\x06", api.ErrSize})
		}
		return l
	}
	all := parts(busy())
	for i, x := range all {
		for k := i + 1; k < len(all); k++ {
			for _, first := range choices(x) {
				for _, second := range choices(all[k]) {
					wantNotRead(t, join(all[:i])+first.bytes+join(all[i+1:k])+second.bytes+join(all[k+1:]), first.e)
				}
			}
		}
	}
}

// TestDecodeGreatSums: both of a seal's sums run over, time and again.
func TestDecodeGreatSums(t *testing.T) {
	for _, size := range []int{256, 257, 258, 1000, api.MaxBytes - 5, api.MaxBytes - 4} {
		wantNotRead(t, strings.Repeat("\xff", size), api.ErrShort) // a number without an end
	}
}
