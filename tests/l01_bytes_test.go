package tests

import (
	"encoding/binary"
	"fmt"
	"hash/crc32"
	"math"
	"math/rand"
	"strings"
	"testing"
	"unsafe"

	"loop.example/g00320/impl"
)

func is[T comparable](t *testing.T, what string, got, want T) {
	t.Helper()
	if got != want {
		t.Errorf("%.60q: got %.300s, want %.300s", what, fmt.Sprintf("%#v", got), fmt.Sprintf("%#v", want))
	}
}

// someText is as long as asked for, and the same at each run.
func someText(seed int64, many int) string {
	r := rand.New(rand.NewSource(seed))
	b := make([]byte, many)
	r.Read(b)
	return string(b)
}

// edgeNums has, of each count of bytes, the least and the greatest numbers that take it, and their neighbours.
func edgeNums() []int64 {
	l := []int64{0, 1, -1, 2, -2, math.MaxInt64, math.MinInt64, math.MaxInt64 - 1, math.MinInt64 + 1}
	for bits := 6; bits < 63; bits += 7 {
		n := int64(1) << bits
		l = append(l, n-1, n, n+1, -n-1, -n, -n+1)
	}
	r := rand.New(rand.NewSource(1))
	for range 2000 {
		n := int64(r.Uint64()) >> r.Intn(64)
		l = append(l, n, -n)
	}
	return l
}

func TestConstants(t *testing.T) {
	codes := []int64{impl.OK, impl.ErrForm, impl.ErrSize, impl.ErrSyntax, impl.ErrShort, impl.ErrSum, impl.ErrNone, impl.ErrThere, impl.ErrRange, impl.ErrFull, impl.ErrKey}
	for i, c := range codes {
		is(t, "code", c, int64(i))
	}
	is(t, "MaxBytes", impl.MaxBytes, 20000)
	is(t, "MaxList", impl.MaxList, 400)
	is(t, "MaxTime", impl.MaxTime, 1000000000)
}

func TestPutNumBytes(t *testing.T) {
	cases := []struct {
		n    int64
		want string
	}{
		{0, "\x00"}, {-1, "\x01"}, {1, "\x02"}, {-2, "\x03"}, {63, "\x7e"}, {-64, "\x7f"},
		{64, "\x80\x01"}, {-65, "\x81\x01"}, {8191, "\xfe\x7f"}, {-8192, "\xff\x7f"}, {8192, "\x80\x80\x01"},
		{math.MaxInt64, "\xfe" + strings.Repeat("\xff", 8) + "\x01"},
		{math.MinInt64, strings.Repeat("\xff", 9) + "\x01"},
	}
	for _, c := range cases {
		is(t, "PutNum", impl.PutNum(c.n), c.want)
	}
}

func TestPutNumOfAllLengths(t *testing.T) {
	seen := map[int]bool{}
	for _, n := range edgeNums() {
		got := impl.PutNum(n)
		seen[len(got)] = true
		is(t, "PutNum", got, string(binary.AppendVarint(nil, n)))
	}
	for many := 1; many <= 10; many++ {
		is(t, "numbers of so many bytes", seen[many], true)
	}
}

// Promise 1, of numbers.
func TestNumsComeBack(t *testing.T) {
	for _, n := range edgeNums() {
		p := impl.PutNum(n)
		is(t, "alone", impl.GetNum(p, 0), impl.NumOut{N: n, At: int64(len(p))})
		is(t, "between", impl.GetNum("\xffab"+p+"\x00\xff", 3), impl.NumOut{N: n, At: int64(3 + len(p))})
	}
}

func TestNumsInARow(t *testing.T) {
	l := edgeNums()[:100]
	var all string
	for _, n := range l {
		all += impl.PutNum(n)
	}
	at := int64(0)
	for _, n := range l {
		got := impl.GetNum(all, at)
		is(t, "number", got.N, n)
		at = got.At
	}
	is(t, "end", at, int64(len(all)))
}

func TestGetNumAtTheEndOfTheLongestText(t *testing.T) {
	text := strings.Repeat("x", impl.MaxBytes-2) + impl.PutNum(64)
	is(t, "longest", impl.GetNum(text, impl.MaxBytes-2), impl.NumOut{N: 64, At: impl.MaxBytes})
}

func TestGetNumFaults(t *testing.T) {
	high := func(many int) string { return strings.Repeat("\x80", many) }
	ones := func(many int) string { return strings.Repeat("\xff", many) }
	long := strings.Repeat("\x00", impl.MaxBytes+1)
	cases := []struct {
		what string
		text string
		at   int64
		code int64
	}{
		{"too long ahead of all else", long, -1, impl.ErrSize},
		{"too long", long, 0, impl.ErrSize},
		{"below 0", "\x00", -1, impl.ErrForm},
		{"far below 0", "\x00", math.MinInt64, impl.ErrForm},
		{"below 0 of no text", "", -1, impl.ErrForm},
		{"no text", "", 0, impl.ErrShort},
		{"at the end", "\x00", 1, impl.ErrShort},
		{"behind the end", "\x00", 2, impl.ErrShort},
		{"far behind the end", "\x00", math.MaxInt64, impl.ErrShort},
		{"one byte, no last one", high(1), 0, impl.ErrShort},
		{"nine bytes, no last one", high(9), 0, impl.ErrShort},
		{"nine bytes of ones, no last one", ones(9), 0, impl.ErrShort},
		{"nine of ten from a place on", "a" + ones(9), 1, impl.ErrShort},
		{"tenth byte 2", ones(9) + "\x02", 0, impl.ErrSyntax},
		{"tenth byte 127", ones(9) + "\x7f", 0, impl.ErrSyntax},
		{"tenth byte 128, then the end", high(10), 0, impl.ErrSyntax},
		{"tenth byte 129, and more", high(9) + "\x81\x00", 0, impl.ErrSyntax},
		{"tenth byte 255", ones(10), 0, impl.ErrSyntax},
		{"tenth byte 0", ones(9) + "\x00", 0, impl.ErrSyntax},
		{"0 in two bytes", "\x80\x00", 0, impl.ErrSyntax},
		{"1 in two bytes", "\x82\x00", 0, impl.ErrSyntax},
		{"64 in three bytes", "\x80\x81\x00", 0, impl.ErrSyntax},
		{"0 in nine bytes", high(8) + "\x00", 0, impl.ErrSyntax},
	}
	for _, c := range cases {
		is(t, c.what, impl.GetNum(c.text, c.at), impl.NumOut{Code: c.code})
		is(t, c.what+", of GetText", impl.GetText(c.text, c.at), impl.TextOut{Code: c.code})
	}
}

func TestGetNumOfEachLengthCutOrDrawnOut(t *testing.T) {
	for _, n := range edgeNums()[:100] {
		p := impl.PutNum(n)
		for cut := range len(p) {
			is(t, "cut", impl.GetNum(p[:cut], 0), impl.NumOut{Code: impl.ErrShort})
		}
		if len(p) < 10 {
			drawn := p[:len(p)-1] + string([]byte{p[len(p)-1] | 128}) + "\x00"
			is(t, "drawn out", impl.GetNum(drawn, 0), impl.NumOut{Code: impl.ErrSyntax})
		}
	}
}

// Whatever is read as a number is written so again: no number is written in two ways.
func TestWhatIsReadIsWrittenSo(t *testing.T) {
	r := rand.New(rand.NewSource(2))
	for range 20000 {
		b := make([]byte, r.Intn(12))
		for i := range b {
			b[i] = byte(r.Intn(4) * 85)
			if r.Intn(2) == 0 {
				b[i] = byte(r.Intn(256)) | 128
			}
		}
		got := impl.GetNum(string(b), 0)
		if got.Code == impl.OK {
			is(t, "written again", impl.PutNum(got.N), string(b[:got.At]))
		} else {
			is(t, "beside a code", got, impl.NumOut{Code: got.Code})
		}
	}
}

// Promise 1, of texts.
func TestTextsComeBack(t *testing.T) {
	for _, many := range []int{0, 1, 2, 63, 64, 127, 128, 8191, 8192, impl.MaxBytes - 4, impl.MaxBytes - 3} {
		text := someText(int64(many), many)
		p := impl.PutText(text)
		is(t, "bytes", p, string(binary.AppendVarint(nil, int64(many)))+text)
		is(t, "alone", impl.GetText(p, 0), impl.TextOut{Text: text, At: int64(len(p))})
		if many <= 8192 {
			is(t, "between", impl.GetText("ab"+p+"c", 2), impl.TextOut{Text: text, At: int64(2 + len(p))})
		}
	}
}

func TestPutTextAtTheLimit(t *testing.T) {
	text := someText(3, impl.MaxBytes)
	is(t, "MaxBytes", impl.PutText(text), "\xc0\xb8\x02"+text)
	is(t, "does not fit in", impl.GetText(impl.PutText(text), 0), impl.TextOut{Code: impl.ErrSize})
	is(t, "one more", impl.PutText(text+"x"), "")
}

func TestGetTextFaults(t *testing.T) {
	cases := []struct {
		what string
		text string
		at   int64
		code int64
	}{
		{"length -1", impl.PutNum(-1) + "abc", 0, impl.ErrSyntax},
		{"length -1, then the end", impl.PutNum(-1), 0, impl.ErrSyntax},
		{"length above MaxBytes", impl.PutNum(impl.MaxBytes+1) + "abc", 0, impl.ErrSyntax},
		{"greatest length", impl.PutNum(math.MaxInt64), 0, impl.ErrSyntax},
		{"least length", impl.PutNum(math.MinInt64), 0, impl.ErrSyntax},
		{"length of 2^32 and 1", impl.PutNum(1<<32+1) + "abc", 0, impl.ErrSyntax},
		{"length MaxBytes, too few", impl.PutNum(impl.MaxBytes) + "abc", 0, impl.ErrShort},
		{"one byte too few", impl.PutNum(3) + "ab", 0, impl.ErrShort},
		{"no byte of one", impl.PutNum(1), 0, impl.ErrShort},
		{"too few from a place on", "xx" + impl.PutNum(2) + "a", 2, impl.ErrShort},
		{"length in two bytes for one", "\x84\x00ab", 0, impl.ErrSyntax},
		{"too long", impl.PutText("ab") + strings.Repeat("x", impl.MaxBytes-2), 0, impl.ErrSize},
	}
	for _, c := range cases {
		is(t, c.what, impl.GetText(c.text, c.at), impl.TextOut{Code: c.code})
	}
	is(t, "an empty text at the end", impl.GetText("ab\x00", 2), impl.TextOut{At: 3})
	whole := impl.PutText("ab") + strings.Repeat("x", impl.MaxBytes-3)
	is(t, "in the longest text", impl.GetText(whole, 0), impl.TextOut{Text: "ab", At: 3})
}

func TestNames(t *testing.T) {
	twenty := "a" + strings.Repeat("z0_9", 4) + "xyz"
	is(t, "twenty", len(twenty), 20)
	for _, n := range []string{"a", "z", "a_9", "a0", "z_", "abc", "a__", twenty} {
		is(t, n, impl.NameRight(n), true)
	}
	wrong := []string{"", "_", "_a", "0", "9a", "A", "aB", "a b", "a-b", "a.b", "a/", "a:", "a`", "a{", "a\x00", "a\xe9", "aé", " a", "a\n", twenty + "a", strings.Repeat("a", 21), strings.Repeat("a", impl.MaxBytes+1)}
	for _, n := range wrong {
		is(t, n, impl.NameRight(n), false)
	}
}

func TestEachByteOfAName(t *testing.T) {
	for b := range 256 {
		letter := b >= 'a' && b <= 'z'
		other := b >= '0' && b <= '9' || b == '_'
		one := string([]byte{byte(b)})
		is(t, "first "+one, impl.NameRight(one), letter)
		is(t, "last "+one, impl.NameRight("a"+one), letter || other)
		is(t, "twentieth "+one, impl.NameRight(strings.Repeat("b", 19)+one), letter || other)
	}
}

func TestCrc(t *testing.T) {
	is(t, "none", impl.Crc(""), 0)
	is(t, "check", impl.Crc("123456789"), 0xcbf43926)
	for _, many := range []int{1, 2, 3, 4, 5, 64, 1000, impl.MaxBytes - 1, impl.MaxBytes} {
		text := someText(int64(many), many)
		is(t, "Crc", impl.Crc(text), int64(crc32.ChecksumIEEE([]byte(text))))
	}
	for b := range 256 {
		is(t, "one byte", impl.Crc(string([]byte{byte(b)})), int64(crc32.ChecksumIEEE([]byte{byte(b)})))
	}
	is(t, "one more", impl.Crc(strings.Repeat("x", impl.MaxBytes+1)), 0)
}

// Promise 2, of a CRC that goes on.
func TestCrcGoesOn(t *testing.T) {
	text := someText(4, 300)
	for cut := range len(text) + 1 {
		is(t, "two", impl.CrcMore(impl.Crc(text[:cut]), text[cut:]), impl.Crc(text))
	}
	three := impl.CrcMore(impl.CrcMore(impl.Crc("abc"), ""), "defg")
	is(t, "three", three, impl.Crc("abcdefg"))
	// Together they may have more bytes than one text may.
	half := someText(5, impl.MaxBytes)
	is(t, "two of MaxBytes", impl.CrcMore(impl.Crc(half), half), int64(crc32.ChecksumIEEE([]byte(half+half))))
}

func TestCrcMoreEdges(t *testing.T) {
	long := strings.Repeat("x", impl.MaxBytes+1)
	for _, crc := range []int64{0, 1, 1 << 31, 1<<32 - 2, 1<<32 - 1} {
		is(t, "no more", impl.CrcMore(crc, ""), crc)
		is(t, "more", impl.CrcMore(crc, "abc"), int64(crc32.Update(uint32(crc), crc32.IEEETable, []byte("abc"))))
		is(t, "too long", impl.CrcMore(crc, long), 0)
	}
	for _, crc := range []int64{-1, 1 << 32, 1<<32 + 1, math.MaxInt64, math.MinInt64} {
		is(t, "no crc", impl.CrcMore(crc, "abc"), 0)
		is(t, "no crc, no text", impl.CrcMore(crc, ""), 0)
	}
}

func TestSealBytes(t *testing.T) {
	is(t, "check", impl.Seal("123456789"), "123456789\x26\x39\xf4\xcb")
	is(t, "none", impl.Seal(""), "\x00\x00\x00\x00")
}

// Promise 2, of a text that is sealed.
func TestSealedComesBack(t *testing.T) {
	for _, many := range []int{0, 1, 3, 4, 5, 64, 1000, impl.MaxBytes - 5, impl.MaxBytes - 4} {
		text := someText(int64(many), many)
		sealed := impl.Seal(text)
		is(t, "length", len(sealed), many+4)
		is(t, "unsealed", impl.Unseal(sealed), impl.TextOut{Text: text})
	}
}

// Promise 2, of a byte that is turned.
func TestSealedAndTurnedIsRefused(t *testing.T) {
	sealed := impl.Seal(someText(6, 40))
	for i := range len(sealed) {
		for with := 1; with < 256; with++ {
			b := []byte(sealed)
			b[i] ^= byte(with)
			is(t, "turned", impl.Unseal(string(b)), impl.TextOut{Code: impl.ErrSum})
		}
	}
}

func TestSealEdges(t *testing.T) {
	is(t, "one more", impl.Seal(strings.Repeat("x", impl.MaxBytes-3)), "")
	is(t, "MaxBytes", impl.Seal(strings.Repeat("x", impl.MaxBytes)), "")
	is(t, "above MaxBytes", impl.Seal(strings.Repeat("x", impl.MaxBytes+1)), "")
	for _, s := range []string{"", "\x00", "\x00\x00", "\x00\x00\x00"} {
		is(t, "short", impl.Unseal(s), impl.TextOut{Code: impl.ErrShort})
	}
	is(t, "four noughts", impl.Unseal("\x00\x00\x00\x00"), impl.TextOut{})
	is(t, "four others", impl.Unseal("\x00\x00\x00\x01"), impl.TextOut{Code: impl.ErrSum})
	is(t, "no seal", impl.Unseal(strings.Repeat("x", impl.MaxBytes)), impl.TextOut{Code: impl.ErrSum})
	is(t, "too long", impl.Unseal(impl.Seal("ab")+strings.Repeat("x", impl.MaxBytes)), impl.TextOut{Code: impl.ErrSize})
	is(t, "cut", impl.Unseal(impl.Seal("abc")[:6]), impl.TextOut{Code: impl.ErrSum})
	is(t, "highest first", impl.Unseal("123456789\xcb\xf4\x39\x26"), impl.TextOut{Code: impl.ErrSum})
}

// within tells whether the bytes of part lie in those of whole.
func within(whole, part string) bool {
	from := uintptr(unsafe.Pointer(unsafe.StringData(whole)))
	at := uintptr(unsafe.Pointer(unsafe.StringData(part)))
	return from <= at && at < from+uintptr(len(whole))
}

func TestAnswersAreNewMemory(t *testing.T) {
	text := impl.PutText("a text that is long enough")
	is(t, "GetText", within(text, impl.GetText(text, 0).Text), false)
	sealed := impl.Seal("a text that is long enough")
	is(t, "Unseal", within(sealed, impl.Unseal(sealed).Text), false)
}
