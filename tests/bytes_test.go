package tests

import (
	"encoding/binary"
	"hash/crc32"
	"math"
	"math/rand/v2"
	"strings"
	"testing"

	"loop.example/g00784/impl"
)

// filler is a text of that many bytes, of nearly all byte values, that repeats only after 251 bytes.
func filler(size int) string {
	b := make([]byte, size)
	for i := range b {
		b[i] = byte(i%251 + 5)
	}
	return string(b)
}

// writtenNum writes a number by the standard library, which folds and groups it in the same way.
func writtenNum(n int64) string {
	return string(binary.AppendVarint(nil, n))
}

// sampleNums are the numbers at which something changes, and many others of all lengths.
func sampleNums() []int64 {
	l := []int64{0, math.MaxInt64, math.MinInt64}
	for bit := range 63 {
		p := int64(1) << bit
		l = append(l, p-1, p, p+1, -p-1, -p, -p+1)
	}
	r := rand.New(rand.NewPCG(1, 2))
	for range 2000 {
		l = append(l, int64(r.Uint64())>>r.IntN(64))
	}
	return l
}

func wantNum(t *testing.T, text string, at int64, want impl.NumOut) {
	t.Helper()
	if got := impl.GetNum(text, at); got != want {
		t.Errorf("GetNum(%d bytes beginning %x, %d): got %+v, want %+v", len(text), head(text), at, got, want)
	}
}

func wantText(t *testing.T, text string, at int64, want impl.TextOut) {
	t.Helper()
	if got := impl.GetText(text, at); got != want {
		t.Errorf("GetText(%d bytes beginning %x, %d): got %#v, want %#v", len(text), head(text), at, short(got), short(want))
	}
}

func head(text string) string {
	return text[:min(len(text), 16)]
}

func short(o impl.TextOut) impl.TextOut {
	o.Text = head(o.Text)
	return o
}

func TestConstants(t *testing.T) {
	got := []int64{impl.OK, impl.ErrForm, impl.ErrSize, impl.ErrSyntax, impl.ErrShort, impl.ErrSum, impl.ErrNone, impl.ErrThere, impl.ErrRange, impl.ErrFull, impl.ErrState}
	for i, code := range got {
		if code != int64(i) {
			t.Errorf("code %d is %d", i, code)
		}
	}
	if impl.MaxBytes != 8000 || impl.MaxList != 400 || impl.MaxTime != 1000000 {
		t.Error("a limit is not the document's")
	}
}

func TestPutNumBytes(t *testing.T) {
	tests := []struct {
		n    int64
		want string
	}{
		{0, "\x00"},
		{-1, "\x01"},
		{1, "\x02"},
		{-2, "\x03"},
		{63, "\x7e"},
		{-64, "\x7f"},
		{64, "\x80\x01"},
		{-65, "\x81\x01"},
		{8191, "\xfe\x7f"},
		{-8192, "\xff\x7f"},
		{8192, "\x80\x80\x01"},
		{1<<62 - 1, "\xfe\xff\xff\xff\xff\xff\xff\xff\x7f"},
		{-1 << 62, "\xff\xff\xff\xff\xff\xff\xff\xff\x7f"},
		{1 << 62, "\x80\x80\x80\x80\x80\x80\x80\x80\x80\x01"},
		{math.MaxInt64, "\xfe\xff\xff\xff\xff\xff\xff\xff\xff\x01"},
		{math.MinInt64, "\xff\xff\xff\xff\xff\xff\xff\xff\xff\x01"},
	}
	for _, c := range tests {
		if got := impl.PutNum(c.n); got != c.want {
			t.Errorf("PutNum(%d): got %x, want %x", c.n, got, c.want)
		}
		wantNum(t, c.want, 0, impl.NumOut{N: c.n, At: int64(len(c.want))})
	}
}

// Promise 1, of numbers.
func TestPromise1Numbers(t *testing.T) {
	for _, n := range sampleNums() {
		got := impl.PutNum(n)
		if got != writtenNum(n) {
			t.Errorf("PutNum(%d): got %x, want %x", n, got, writtenNum(n))
		}
		size := int64(len(got))
		wantNum(t, got, 0, impl.NumOut{N: n, At: size})
		wantNum(t, "\xff\x80a"+got+"\xff\x00", 3, impl.NumOut{N: n, At: 3 + size})
	}
}

func TestNumsInARow(t *testing.T) {
	nums := sampleNums()[:300]
	text := ""
	for _, n := range nums {
		text += impl.PutNum(n)
	}
	at := int64(0)
	for _, n := range nums {
		got := impl.GetNum(text, at)
		if got.Code != impl.OK || got.N != n {
			t.Fatalf("at %d: got %+v, want %d", at, got, n)
		}
		at = got.At
	}
	if at != int64(len(text)) {
		t.Errorf("ended at %d of %d", at, len(text))
	}
}

func TestGetNumShort(t *testing.T) {
	short := impl.NumOut{Code: impl.ErrShort}
	for _, n := range sampleNums() {
		text := impl.PutNum(n)
		for end := range text {
			wantNum(t, text[:end], 0, short)
			wantNum(t, "\x02"+text[:end], 1, short)
		}
	}
	wantNum(t, strings.Repeat("\x80", 9), 0, short)
	wantNum(t, strings.Repeat("\xff", 12), 3, short)
	for _, text := range []string{"", "\x02", "\x80\x01", filler(impl.MaxBytes)} {
		end := int64(len(text))
		for _, at := range []int64{end, end + 1, end + 2, math.MaxInt32, math.MaxInt64 - 1, math.MaxInt64} {
			wantNum(t, text, at, short)
		}
	}
}

func TestGetNumSyntax(t *testing.T) {
	wrong := impl.NumOut{Code: impl.ErrSyntax}
	nine := strings.Repeat("\x80", 9)
	full := strings.Repeat("\xff", 9)
	for _, tenth := range []string{"\x02", "\x03", "\x7f", "\x80", "\x81", "\xff"} {
		for _, text := range []string{nine + tenth, full + tenth, nine + tenth + "\x01", full + tenth + "\x00"} {
			wantNum(t, text, 0, wrong)
			wantNum(t, "\x02"+text, 1, wrong)
		}
	}
	for size := 1; size <= 9; size++ {
		wantNum(t, strings.Repeat("\x80", size)+"\x00", 0, wrong)
		wantNum(t, strings.Repeat("\xff", size)+"\x00\x01", 0, wrong)
	}
	wantNum(t, nine+"\x01", 0, impl.NumOut{N: 1 << 62, At: 10})
	wantNum(t, "\x80\x80\x00", 2, impl.NumOut{At: 3})
}

func TestGetNumPlace(t *testing.T) {
	for _, at := range []int64{-1, -2, math.MinInt32, math.MinInt64} {
		for _, text := range []string{"", "\x02", "\x80", "\x80\x00", strings.Repeat("\xff", 12)} {
			wantNum(t, text, at, impl.NumOut{Code: impl.ErrForm})
		}
	}
	wantNum(t, "\x02\x04", 1, impl.NumOut{N: 2, At: 2})
}

func TestGetNumSize(t *testing.T) {
	most := strings.Repeat("\x02", impl.MaxBytes)
	wantNum(t, most, 0, impl.NumOut{N: 1, At: 1})
	wantNum(t, most, impl.MaxBytes-1, impl.NumOut{N: 1, At: impl.MaxBytes})
	wantNum(t, most, impl.MaxBytes, impl.NumOut{Code: impl.ErrShort})
	for _, at := range []int64{0, 1, -1, math.MinInt64, impl.MaxBytes, impl.MaxBytes + 1, math.MaxInt64} {
		wantNum(t, most+"\x02", at, impl.NumOut{Code: impl.ErrSize})
		wantNum(t, most+"\x80", at, impl.NumOut{Code: impl.ErrSize})
	}
}

// readByHand says what GetNum has to say of a place in a text that is no longer than MaxBytes.
func readByHand(text string, at int64) impl.NumOut {
	rest := text[at:]
	n, size := binary.Varint([]byte(rest))
	if size == 0 && len(rest) < 10 {
		return impl.NumOut{Code: impl.ErrShort}
	}
	if size <= 0 || size > 10 || writtenNum(n) != rest[:size] {
		return impl.NumOut{Code: impl.ErrSyntax}
	}
	return impl.NumOut{N: n, At: at + int64(size)}
}

func TestGetNumOfAnyBytes(t *testing.T) {
	for a := range 256 {
		for b := range 256 {
			text := string([]byte{byte(a), byte(b)})
			wantNum(t, text, 0, readByHand(text, 0))
		}
	}
	r := rand.New(rand.NewPCG(3, 4))
	for range 20000 {
		b := make([]byte, r.IntN(14))
		for i := range b {
			b[i] = []byte{0, 1, 2, 127, 128, 129, 255, byte(r.Uint32()) | 128}[r.IntN(8)] | byte(r.IntN(4)&2)<<6
		}
		at := int64(r.IntN(len(b) + 1))
		wantNum(t, string(b), at, readByHand(string(b), at))
	}
}

// Promise 1, of texts.
func TestPromise1Texts(t *testing.T) {
	for _, size := range []int{0, 1, 2, 63, 64, 65, 300, 7997, 7998} {
		text := filler(size)
		put := impl.PutText(text)
		if put != writtenNum(int64(size))+text {
			t.Errorf("PutText of %d bytes: got %x", size, head(put))
		}
		wantText(t, put, 0, impl.TextOut{Text: text, At: int64(len(put))})
		if size < 7000 {
			wantText(t, "\xff\xff"+put+"\xff", 2, impl.TextOut{Text: text, At: 2 + int64(len(put))})
		}
	}
	for _, text := range []string{"\x00", "\xff\xfe", "a\nb", "grüße", "[pair a b]"} {
		put := impl.PutText(text)
		wantText(t, put, 0, impl.TextOut{Text: text, At: int64(len(put))})
	}
}

func TestPutTextLimit(t *testing.T) {
	for size, want := range map[int]int{7999: 8001, 8000: 8002, 8001: 0, 8002: 0, 20000: 0} {
		got := impl.PutText(filler(size))
		if len(got) != want {
			t.Errorf("PutText of %d bytes: got %d bytes, want %d", size, len(got), want)
		}
		if want > 0 && got != writtenNum(int64(size))+filler(size) {
			t.Errorf("PutText of %d bytes: got other bytes", size)
		}
	}
}

func TestTextsInARow(t *testing.T) {
	texts := []string{"", "a", filler(70), "", "\x80", filler(64)}
	text := ""
	for _, s := range texts {
		text += impl.PutText(s)
	}
	at := int64(0)
	for _, s := range texts {
		got := impl.GetText(text, at)
		if got.Code != impl.OK || got.Text != s {
			t.Fatalf("at %d: got %+v, want %q", at, got, s)
		}
		at = got.At
	}
	wantText(t, text, at, impl.TextOut{Code: impl.ErrShort})
}

func TestGetTextShort(t *testing.T) {
	short := impl.TextOut{Code: impl.ErrShort}
	for _, size := range []int{0, 1, 63, 64, 200, 7998} {
		put := impl.PutText(filler(size))
		for _, end := range []int{0, 1, len(put) / 2, len(put) - 2, len(put) - 1} {
			if end >= 0 && end < len(put) {
				wantText(t, put[:end], 0, short)
			}
		}
	}
	wantText(t, writtenNum(8000), 0, short)
	wantText(t, writtenNum(8000)+filler(7998), 0, short)
	wantText(t, strings.Repeat("\x80", 9), 0, short)
	wantText(t, "\x04ab", 3, short)
	wantText(t, "\x04ab", 4, short)
	wantText(t, "\x04ab", math.MaxInt64, short)
}

func TestGetTextSyntax(t *testing.T) {
	wrong := impl.TextOut{Code: impl.ErrSyntax}
	for _, size := range []int64{-1, -2, -64, -65, math.MinInt64, 8001, 8002, 1 << 31, 1 << 32, 1 << 62, math.MaxInt64} {
		wantText(t, writtenNum(size), 0, wrong)
		wantText(t, writtenNum(size)+filler(100), 0, wrong)
		wantText(t, "a"+writtenNum(size)+filler(7900), 1, wrong)
	}
	for _, text := range []string{"\x80\x00", "\x84\x00ab", strings.Repeat("\x80", 9) + "\x02", strings.Repeat("\xff", 10)} {
		wantText(t, text, 0, wrong)
	}
}

func TestGetTextPlaceAndSize(t *testing.T) {
	for _, at := range []int64{-1, math.MinInt64} {
		for _, text := range []string{"", "\x04ab", "\x04a", "\x01", "\x80\x00"} {
			wantText(t, text, at, impl.TextOut{Code: impl.ErrForm})
		}
	}
	most := writtenNum(7998) + filler(7998)
	wantText(t, most, 0, impl.TextOut{Text: filler(7998), At: impl.MaxBytes})
	for _, at := range []int64{0, 5, -1, math.MinInt64, impl.MaxBytes + 1, math.MaxInt64} {
		wantText(t, most+"a", at, impl.TextOut{Code: impl.ErrSize})
		wantText(t, impl.PutText(filler(8000)), at, impl.TextOut{Code: impl.ErrSize})
	}
}

func TestNameRight(t *testing.T) {
	right := []string{"a", "z", "a_9", "a0", "z9_", "a__", strings.Repeat("a", 19), strings.Repeat("z", 20)}
	wrong := []string{
		"", "_", "_a", "0", "9a", "A", "aA", "aZ", "a b", " a", "a ", "a-b", "a.b", "a\n", "a\x00", "ä", "aä",
		"a\xff", "`a", "{a", "a`", "a{", "a/", "a:", "a^", "a@", "a[",
		strings.Repeat("a", 21), strings.Repeat("a", impl.MaxBytes), strings.Repeat("a", impl.MaxBytes+1),
	}
	for _, name := range right {
		if !impl.NameRight(name) {
			t.Errorf("%q is a name", name)
		}
	}
	for _, name := range wrong {
		if impl.NameRight(name) {
			t.Errorf("%q is no name", head(name))
		}
	}
}

func TestNameRightOfAnyByte(t *testing.T) {
	for i := range 256 {
		b := string([]byte{byte(i)})
		letter := strings.Contains("abcdefghijklmnopqrstuvwxyz", b)
		if impl.NameRight(b) != letter {
			t.Errorf("%q alone: want %v", b, letter)
		}
		later := letter || strings.Contains("0123456789_", b)
		if impl.NameRight("a"+b) != later || impl.NameRight("a"+b+"a") != later {
			t.Errorf("%q behind a letter: want %v", b, later)
		}
	}
}

func crcByHand(text string) int64 {
	return int64(crc32.ChecksumIEEE([]byte(text)))
}

func TestCrc(t *testing.T) {
	for text, want := range map[string]int64{"": 0, "123456789": 0xCBF43926, "a": 0xE8B7BE43, "\x00": 0xD202EF8D, "\xff\xff\xff\xff": 0xFFFFFFFF} {
		if got := impl.Crc(text); got != want {
			t.Errorf("Crc(%q): got %x, want %x", text, got, want)
		}
	}
	for _, size := range []int{1, 2, 255, 256, 7999, 8000} {
		if got := impl.Crc(filler(size)); got != crcByHand(filler(size)) {
			t.Errorf("Crc of %d bytes: got %x, want %x", size, got, crcByHand(filler(size)))
		}
	}
	for i := range 256 {
		text := string([]byte{byte(i)})
		if got := impl.Crc(text); got != crcByHand(text) {
			t.Errorf("Crc(%q): got %x, want %x", text, got, crcByHand(text))
		}
	}
	for _, size := range []int{8001, 9000} {
		if got := impl.Crc(filler(size)); got != 0 {
			t.Errorf("Crc of %d bytes: got %x, want 0", size, got)
		}
	}
}

// Promise 2, of a CRC that goes on.
func TestPromise2CrcGoesOn(t *testing.T) {
	for _, text := range []string{"", "a", "123456789", filler(100)} {
		for at := range len(text) + 1 {
			if got := impl.CrcMore(impl.Crc(text[:at]), text[at:]); got != crcByHand(text) {
				t.Errorf("%q in two at %d: got %x, want %x", head(text), at, got, crcByHand(text))
			}
		}
	}
	first, second := filler(8000), filler(7999)
	if got := impl.CrcMore(impl.Crc(first), second); got != crcByHand(first+second) {
		t.Errorf("both: got %x, want %x", got, crcByHand(first+second))
	}
	crc := int64(0)
	for i := range len(first) {
		crc = impl.CrcMore(crc, first[i:i+1])
	}
	if crc != crcByHand(first) {
		t.Errorf("byte by byte: got %x, want %x", crc, crcByHand(first))
	}
}

func TestCrcMoreLimits(t *testing.T) {
	for _, crc := range []int64{0, 1, 1 << 31, 1<<32 - 2, 1<<32 - 1} {
		if got := impl.CrcMore(crc, ""); got != crc {
			t.Errorf("CrcMore(%d) of nothing: got %d", crc, got)
		}
		want := int64(crc32.Update(uint32(crc), crc32.IEEETable, []byte("ab")))
		if got := impl.CrcMore(crc, "ab"); got != want {
			t.Errorf("CrcMore(%d): got %d, want %d", crc, got, want)
		}
		if got := impl.CrcMore(crc, filler(8001)); got != 0 {
			t.Errorf("CrcMore(%d) of 8001 bytes: got %d, want 0", crc, got)
		}
	}
	for _, crc := range []int64{-1, math.MinInt64, 1 << 32, 1<<32 + 5, math.MaxInt64} {
		for _, text := range []string{"", "ab", filler(8001)} {
			if got := impl.CrcMore(crc, text); got != 0 {
				t.Errorf("CrcMore(%d): got %d, want 0", crc, got)
			}
		}
	}
}

func wantUnseal(t *testing.T, text string, want impl.TextOut) {
	t.Helper()
	if got := impl.Unseal(text); got != want {
		t.Errorf("Unseal(%d bytes beginning %x): got %#v, want %#v", len(text), head(text), short(got), short(want))
	}
}

// sealedByHand is a text and its CRC, whatever its length.
func sealedByHand(text string) string {
	return string(binary.LittleEndian.AppendUint32([]byte(text), crc32.ChecksumIEEE([]byte(text))))
}

// Promise 2, of a sealed text.
func TestPromise2SealedComesBack(t *testing.T) {
	if got := impl.Seal("123456789"); got != "123456789\x26\x39\xf4\xcb" {
		t.Errorf("Seal: got %x", got)
	}
	for _, text := range []string{"", "a", "\x00", "\x00\x00\x00\x00", "\xff\xff\xff\xff", filler(300), filler(7995), filler(7996)} {
		sealed := impl.Seal(text)
		if sealed != sealedByHand(text) {
			t.Errorf("Seal of %d bytes: got %x", len(text), head(sealed))
		}
		wantUnseal(t, sealed, impl.TextOut{Text: text})
	}
	twice := impl.Seal(impl.Seal("ab"))
	wantUnseal(t, twice, impl.TextOut{Text: sealedByHand("ab")})
}

// Promise 2, of a byte that was turned.
func TestPromise2TurnedByte(t *testing.T) {
	for _, text := range []string{"", "a", "123456789", filler(60)} {
		sealed := []byte(impl.Seal(text))
		for i, was := range sealed {
			for turn := 1; turn < 256; turn++ {
				sealed[i] = was ^ byte(turn)
				wantUnseal(t, string(sealed), impl.TextOut{Code: impl.ErrSum})
			}
			sealed[i] = was
		}
	}
	sealed := []byte(impl.Seal(filler(7996)))
	for i := 0; i < len(sealed); i += 43 {
		sealed[i]++
		wantUnseal(t, string(sealed), impl.TextOut{Code: impl.ErrSum})
		sealed[i]--
	}
}

func TestSealLimit(t *testing.T) {
	for _, size := range []int{7997, 7998, 8000, 8001, 9000} {
		if got := impl.Seal(filler(size)); got != "" {
			t.Errorf("Seal of %d bytes: got %d bytes", size, len(got))
		}
	}
	if got := impl.Seal(filler(7996)); len(got) != impl.MaxBytes {
		t.Errorf("Seal of 7996 bytes: got %d bytes", len(got))
	}
}

func TestUnsealFaults(t *testing.T) {
	for _, text := range []string{"", "\x00", "\x00\x00", "\x00\x00\x00"} {
		wantUnseal(t, text, impl.TextOut{Code: impl.ErrShort})
	}
	wantUnseal(t, "\x00\x00\x00\x00", impl.TextOut{})
	wantUnseal(t, "\x00\x00\x00\x01", impl.TextOut{Code: impl.ErrSum})
	wantUnseal(t, impl.Seal("ab")+"\x00", impl.TextOut{Code: impl.ErrSum})
	wantUnseal(t, impl.Seal("ab")[1:], impl.TextOut{Code: impl.ErrSum})
	wantUnseal(t, "123456789\xcb\xf4\x39\x26", impl.TextOut{Code: impl.ErrSum})
	wantUnseal(t, filler(8000), impl.TextOut{Code: impl.ErrSum})
	wantUnseal(t, filler(8001), impl.TextOut{Code: impl.ErrSize})
	wantUnseal(t, sealedByHand(filler(7997)), impl.TextOut{Code: impl.ErrSize})
}
