package codec_test

import (
	"encoding/binary"
	"hash/adler32"
	"math"
	"strings"
	"testing"
	"unsafe"

	"tackroom/api"
	"tackroom/codec"
)

// numbers and their bytes: the least and the greatest one of each length, and some between.
var numbers = []struct {
	n     int
	bytes string
}{
	{0, "\x00"},
	{1, "\x01"},
	{5, "\x05"},
	{127, "\x7f"},
	{128, "\x80\x01"},
	{129, "\x81\x01"},
	{255, "\xff\x01"},
	{256, "\x80\x02"},
	{300, "\xac\x02"},
	{api.MaxBytes, "\x88\x27"},
	{1<<14 - 1, "\xff\x7f"},
	{1 << 14, "\x80\x80\x01"},
	{1<<21 - 1, "\xff\xff\x7f"},
	{1 << 21, "\x80\x80\x80\x01"},
	{1<<28 - 1, "\xff\xff\xff\x7f"},
	{1 << 28, "\x80\x80\x80\x80\x01"},
	{1<<35 - 1, "\xff\xff\xff\xff\x7f"},
	{1 << 35, "\x80\x80\x80\x80\x80\x01"},
	{api.MaxNumber - 1, "\xff\xff\xff\xff\xff\x1f"},
	{api.MaxNumber, "\x80\x80\x80\x80\x80\x20"},
}

// die: numbers that look drawn, the same each time.
type die uint64

func (d *die) roll(most int) int {
	*d = *d*6364136223846793005 + 1442695040888963407
	return int(uint64(*d>>33) % uint64(most))
}

func (d *die) text(length int) string {
	b := make([]byte, length)
	for i := range b {
		b[i] = byte(d.roll(256))
	}
	return string(b)
}

// everyByte: all 256 of them, in their order.
func everyByte() string {
	var b [256]byte
	for i := range b {
		b[i] = byte(i)
	}
	return string(b[:])
}

func sharesMemory(a, b string) bool {
	if a == "" || b == "" {
		return false
	}
	from, to := uintptr(unsafe.Pointer(unsafe.StringData(a))), uintptr(unsafe.Pointer(unsafe.StringData(b)))
	return from < to+uintptr(len(b)) && to < from+uintptr(len(a))
}

func wantNumber(t *testing.T, n int, want string, wantErr api.Errno) {
	t.Helper()
	if got, e := codec.Number(n); got != want || e != wantErr {
		t.Errorf("Number(%d) = %q, %d; want %q, %d", n, got, e, want, wantErr)
	}
}

func wantReadNumber(t *testing.T, s string, want int, wantRest string, wantErr api.Errno) {
	t.Helper()
	if got, rest, e := codec.ReadNumber(s); got != want || rest != wantRest || e != wantErr {
		t.Errorf("ReadNumber(%.40q) = %d, %.40q, %d; want %d, %.40q, %d", s, got, rest, e, want, wantRest, wantErr)
	}
}

func wantReadText(t *testing.T, s, want, wantRest string, wantErr api.Errno) {
	t.Helper()
	if got, rest, e := codec.ReadText(s); got != want || rest != wantRest || e != wantErr {
		t.Errorf("ReadText(%.40q) of %d bytes = %.40q, %.40q, %d; want %.40q, %.40q, %d",
			s, len(s), got, rest, e, want, wantRest, wantErr)
	}
}

// P1.1

func TestNumber(t *testing.T) {
	for _, c := range numbers {
		wantNumber(t, c.n, c.bytes, api.OK)
	}
}

func TestNumberOfEachBit(t *testing.T) {
	for bit := range 41 {
		for _, n := range []int{1<<bit - 1, 1 << bit, 1<<bit + 1} {
			if n <= api.MaxNumber {
				wantNumber(t, n, string(binary.AppendUvarint(nil, uint64(n))), api.OK)
			}
		}
	}
}

func TestNumberRefused(t *testing.T) {
	for _, n := range []int{-1, -2, -128, -api.MaxNumber, math.MinInt, api.MaxNumber + 1, 2 * api.MaxNumber, 1<<42 - 1, 1 << 42, math.MaxInt} {
		wantNumber(t, n, "", api.ErrRange)
	}
}

// P1.2

func TestText(t *testing.T) {
	for _, c := range []struct{ in, want string }{
		{"", "\x00"},
		{"a", "\x01a"},
		{"\x00", "\x01\x00"},
		{"\xff\x80", "\x02\xff\x80"},
		{"é", "\x02\xc3\xa9"},
		{"hello", "\x05hello"},
		{strings.Repeat("x", 127), "\x7f" + strings.Repeat("x", 127)},
		{strings.Repeat("x", 128), "\x80\x01" + strings.Repeat("x", 128)},
		{everyByte(), "\x80\x02" + everyByte()},
		{strings.Repeat("y", api.MaxBytes-1), "\x87\x27" + strings.Repeat("y", api.MaxBytes-1)},
		{strings.Repeat("y", api.MaxBytes), "\x88\x27" + strings.Repeat("y", api.MaxBytes)},
	} {
		if got, e := codec.Text(c.in); got != c.want || e != api.OK {
			t.Errorf("Text of %d bytes, %.40q = %.40q, %d; want %.40q, 0", len(c.in), c.in, got, e, c.want)
		}
	}
}

func TestTextRefused(t *testing.T) {
	for _, length := range []int{api.MaxBytes + 1, api.MaxBytes + 2, 2 * api.MaxBytes, 1 << 20} {
		if got, e := codec.Text(strings.Repeat("z", length)); got != "" || e != api.ErrSize {
			t.Errorf("Text of %d bytes = %.40q, %d; want \"\", %d", length, got, e, api.ErrSize)
		}
	}
}

// P1.3

func TestReadNumber(t *testing.T) {
	for _, c := range numbers {
		for _, rest := range []string{"", "x", "\x00", "\x80", "\xff\xff", everyByte()} {
			wantReadNumber(t, c.bytes+rest, c.n, rest, api.OK)
		}
	}
}

func TestReadNumberShort(t *testing.T) {
	wantReadNumber(t, "", 0, "", api.ErrShort)
	for length := 1; length <= 20; length++ {
		wantReadNumber(t, strings.Repeat("\x80", length), 0, "", api.ErrShort)
		wantReadNumber(t, strings.Repeat("\xff", length), 0, "", api.ErrShort)
	}
	for _, c := range numbers {
		wantReadNumber(t, c.bytes[:len(c.bytes)-1], 0, "", api.ErrShort)
	}
}

func TestReadNumberForm(t *testing.T) {
	for _, s := range []string{
		// more than six bytes
		"\x80\x80\x80\x80\x80\x80\x01",
		"\xff\xff\xff\xff\xff\xff\x7f",
		"\x81\x80\x80\x80\x80\x80\x00",
		"\x80\x80\x80\x80\x80\x80\x80\x80\x80\x01",
		strings.Repeat("\x80", 1000) + "\x01",
		// more than it needs
		"\x80\x00",
		"\xff\x00",
		"\x80\x80\x00",
		"\x81\x81\x00",
		"\x80\x80\x80\x80\x80\x00",
		"\xff\xff\xff\xff\xff\x00",
		// above MaxNumber
		"\x81\x80\x80\x80\x80\x20",
		"\x80\x81\x80\x80\x80\x20",
		"\x80\x80\x80\x80\x80\x21",
		"\xff\xff\xff\xff\xff\x7f",
	} {
		wantReadNumber(t, s, 0, "", api.ErrForm)
		wantReadNumber(t, s+"x", 0, "", api.ErrForm)
	}
}

// readNumber: P1.3 once more, by the library's varints.
func readNumber(s string) (int, string, api.Errno) {
	end := strings.IndexFunc(s, func(r rune) bool { return r < 128 })
	if end < 0 {
		return 0, "", api.ErrShort
	}
	n, size := binary.Uvarint([]byte(s))
	if size != end+1 || size > 6 || n > api.MaxNumber || string(binary.AppendUvarint(nil, n)) != s[:size] {
		return 0, "", api.ErrForm
	}
	return int(n), s[size:], api.OK
}

func TestReadNumberOfAllShortBytes(t *testing.T) {
	edges := "\x00\x01\x20\x7f\x80\xff"
	level := []string{""}
	for range 7 {
		var next []string
		for _, s := range level {
			for i := range len(edges) {
				next = append(next, s+edges[i:i+1])
			}
		}
		for _, s := range next {
			n, rest, e := readNumber(s)
			wantReadNumber(t, s, n, rest, e)
			if t.Failed() {
				return
			}
		}
		level = next
	}
}

func TestReadNumberOfDrawnBytes(t *testing.T) {
	d := die(3)
	for range 20000 {
		s := d.text(d.roll(12))
		n, rest, e := readNumber(s)
		wantReadNumber(t, s, n, rest, e)
	}
}

func TestReadNumberUndoesNumber(t *testing.T) {
	d := die(4)
	for range 20000 {
		n := (d.roll(1<<20)<<20 + d.roll(1<<20)) >> d.roll(40)
		s, e := codec.Number(n)
		if e != api.OK {
			t.Fatalf("Number(%d) is refused: %d", n, e)
		}
		rest := d.text(d.roll(5))
		wantReadNumber(t, s+rest, n, rest, api.OK)
	}
}

// P1.4

func TestReadText(t *testing.T) {
	long := strings.Repeat("x", api.MaxBytes)
	for _, c := range []struct{ in, want, rest string }{
		{"\x00", "", ""},
		{"\x00abc", "", "abc"},
		{"\x01a", "a", ""},
		{"\x01ab", "a", "b"},
		{"\x02\x00\x80\xff", "\x00\x80", "\xff"},
		{"\x7f" + long[:127], long[:127], ""},
		{"\x80\x01" + long[:128], long[:128], ""},
		{"\x80\x02" + everyByte() + everyByte(), everyByte(), everyByte()},
		{"\x87\x27" + long, long[1:], "x"},
		{"\x88\x27" + long, long, ""},
		{"\x88\x27" + long + "tail", long, "tail"},
		{"\x01a" + long + long, "a", long + long},
	} {
		wantReadText(t, c.in, c.want, c.rest, api.OK)
	}
}

func TestReadTextLengthRefused(t *testing.T) {
	for _, tail := range []string{"", "\x80", "\xff\xff\xff\xff\xff\xff\xff"} {
		wantReadText(t, tail, "", "", api.ErrShort)
	}
	for _, length := range []string{"\x80\x00", "\x81\x00", "\x80\x80\x80\x80\x80\x80\x01", "\x81\x80\x80\x80\x80\x20", "\xff\xff\xff\xff\xff\x7f"} {
		wantReadText(t, length, "", "", api.ErrForm)
		wantReadText(t, length+"abc", "", "", api.ErrForm)
	}
}

func TestReadTextSize(t *testing.T) {
	many := strings.Repeat("x", 3*api.MaxBytes)
	for _, length := range []int{api.MaxBytes + 1, api.MaxBytes + 2, 2 * api.MaxBytes, 1 << 32, api.MaxNumber} {
		s, _ := codec.Number(length)
		wantReadText(t, s+many, "", "", api.ErrSize)
		// Too few bytes as well: ErrSize is named first.
		wantReadText(t, s, "", "", api.ErrSize)
		wantReadText(t, s+"abc", "", "", api.ErrSize)
	}
}

func TestReadTextShort(t *testing.T) {
	for _, length := range []int{1, 2, 127, 128, 300, api.MaxBytes} {
		s, _ := codec.Number(length)
		wantReadText(t, s, "", "", api.ErrShort)
		wantReadText(t, s+strings.Repeat("x", length/2), "", "", api.ErrShort)
		wantReadText(t, s+strings.Repeat("x", length-1), "", "", api.ErrShort)
		wantReadText(t, s+strings.Repeat("x", length), strings.Repeat("x", length), "", api.OK)
	}
}

func TestReadTextUndoesText(t *testing.T) {
	d := die(5)
	for range 500 {
		text, rest := d.text(d.roll(api.MaxBytes+1)>>d.roll(12)), d.text(d.roll(20))
		s, e := codec.Text(text)
		if e != api.OK {
			t.Fatalf("Text of %d bytes is refused: %d", len(text), e)
		}
		wantReadText(t, s+rest, text, rest, api.OK)
	}
}

// P1.5

func TestSeal(t *testing.T) {
	for _, c := range []struct{ in, want string }{
		{"", "\x00\x00\x00\x01"},
		{"\x00", "\x00\x01\x00\x01"},
		{"\x00\x00", "\x00\x02\x00\x01"},
		{"a", "\x00\x62\x00\x62"},
		{"ab", "\x01\x26\x00\xc4"},
		{"ba", "\x01\x27\x00\xc4"},
		{"\xff", "\x01\x00\x01\x00"},
		{"Wikipedia", "\x11\xe6\x03\x98"},
	} {
		if got := codec.Seal(c.in); got != c.want {
			t.Errorf("Seal(%q) = %q, want %q", c.in, got, c.want)
		}
	}
}

// TestSealLeaves: the sums just below 65521, at it, and just above.
func TestSealLeaves(t *testing.T) {
	high := strings.Repeat("\xff", 256) // the first number is 65281 then
	for _, c := range []struct{ in, first string }{
		{high + "\xef", "\xff\xf0"},
		{high + "\xf0", "\x00\x00"},
		{high + "\xf1", "\x00\x01"},
	} {
		if got := codec.Seal(c.in); got[2:] != c.first {
			t.Errorf("the first number of Seal is %q, want %q", got[2:], c.first)
		}
	}
	for _, c := range []struct {
		zeros  int // each of them adds 1 to the second number
		second string
	}{
		{65520, "\xff\xf0"},
		{65521, "\x00\x00"},
		{65522, "\x00\x01"},
	} {
		if got := codec.Seal(strings.Repeat("\x00", c.zeros)); got != c.second+"\x00\x01" {
			t.Errorf("Seal of %d zeros = %q, want %q", c.zeros, got, c.second+"\x00\x01")
		}
	}
}

func TestSealOfDrawnBytes(t *testing.T) {
	d := die(6)
	texts := []string{everyByte(), strings.Repeat("\xff", 1<<20), strings.Repeat("é", 3000)}
	for range 300 {
		texts = append(texts, d.text(d.roll(3000)))
	}
	for _, s := range texts {
		want := string(binary.BigEndian.AppendUint32(nil, adler32.Checksum([]byte(s))))
		if got := codec.Seal(s); got != want {
			t.Errorf("Seal of %d bytes, %.40q = %q, want %q", len(s), s, got, want)
		}
	}
}

// What holds everywhere

func TestAnswersAreNewMemory(t *testing.T) {
	text := everyByte()
	if s, _ := codec.Text(text); sharesMemory(s, text) {
		t.Error("Text shares memory with what it was given")
	}
	number := "\x05" + text
	if _, rest, _ := codec.ReadNumber(number); sharesMemory(rest, number) {
		t.Error("ReadNumber shares memory with what it was given")
	}
	s := "\x80\x01" + text
	got, rest, _ := codec.ReadText(s)
	if sharesMemory(got, s) || sharesMemory(rest, s) || sharesMemory(got, rest) {
		t.Error("ReadText shares memory with what it was given, or its answers with each other")
	}
}
