package tests

import (
	"fmt"
	"math"
	"math/rand"
	"slices"
	"strings"
	"testing"

	"loop.example/g00320/impl"
)

// plainNum has the bits of a number as the chapter says them: the node is 1 at first, then twice itself, and the bit.
func plainNum(context int64, many int, n int64) []impl.Bit {
	var out []impl.Bit
	node := int64(1)
	for _, digit := range fmt.Sprintf("%0*b", many, n) {
		out = append(out, impl.Bit{Context: context + node, One: digit == '1'})
		node = 2*node + int64(digit-'0')
	}
	return out
}

func plainToken(t impl.Token) []impl.Bit {
	if t.Many == 0 {
		return append([]impl.Bit{{Context: 0}}, plainNum(16, 8, t.Byte)...)
	}
	out := append([]impl.Bit{{Context: 0, One: true}}, plainNum(300, 6, t.Many-3)...)
	return append(out, plainNum(400, 10, t.Far-1)...)
}

func plainBits(l []impl.Token) []impl.Bit {
	var out []impl.Bit
	for _, t := range l {
		out = append(out, plainToken(t)...)
	}
	return out
}

// packedTokens has a number of bytes, and the code of tokens that need not make so many.
func packedTokens(many int64, l []impl.Token) string {
	return impl.PutNum(many) + plainCoderOf(plainBits(l)).code()
}

func plainPack(text string) string {
	return packedTokens(int64(len(text)), parseByTrying(text))
}

func (d *plainDecoder) num(context int64, many int) int64 {
	node := int64(1)
	for range many {
		node *= 2
		if d.get(context + node/2) {
			node++
		}
	}
	return node - 1<<many
}

func (d *plainDecoder) token() impl.Token {
	if !d.get(0) {
		return byteToken(byte(d.num(16, 8)))
	}
	many := d.num(300, 6) + 3
	return matchToken(many, d.num(400, 10)+1)
}

// plainUnpack is Unpack as the chapter says it.
func plainUnpack(text string) impl.TextOut {
	if len(text) > 20000 {
		return impl.TextOut{Code: impl.ErrSize}
	}
	n := impl.GetNum(text, 0)
	if n.Code != impl.OK || n.N < 0 || n.N > 4000 {
		return impl.TextOut{Code: impl.ErrSyntax}
	}
	d := newPlainDecoder(text[n.At:])
	var l []impl.Token
	there := int64(0)
	for there < n.N {
		t := d.token()
		if t.Far > there {
			return impl.TextOut{Code: impl.ErrSum}
		}
		l, there = append(l, t), there+max(1, t.Many)
	}
	made := expandByBytes(l)
	if there > n.N {
		return impl.TextOut{Code: impl.ErrSum}
	}
	if plainPack(made) != text {
		return impl.TextOut{Code: impl.ErrSyntax}
	}
	return impl.TextOut{Text: made}
}

// packBack asks of one text what promise 8 says, and what it is squeezed to byte by byte.
func packBack(t *testing.T, text string) {
	t.Helper()
	p := impl.Pack(text)
	is(t, "squeezed", p, plainPack(text))
	out := impl.Unpack(p)
	is(t, "back", out, impl.TextOut{Text: text})
	is(t, "squeezed again", impl.Pack(out.Text), p)
}

// refusedOrBack asks of what may be squeezed or not what promise 8 says, and its code.
func refusedOrBack(t *testing.T, what, p string) {
	t.Helper()
	out := impl.Unpack(p)
	is(t, what, out, plainUnpack(p))
	if out.Code == impl.OK {
		is(t, what, impl.Pack(out.Text), p)
	}
}

func refused(t *testing.T, what, p string, code int64) {
	t.Helper()
	is(t, what, impl.Unpack(p), impl.TextOut{Code: code})
	is(t, what, plainUnpack(p), impl.TextOut{Code: code})
}

// someBitsOf has bits of those contexts; those that are One have a 1 at their place of ones.
func someBitsOf(ones string, contexts ...int64) []impl.Bit {
	return madeBits(len(contexts), func(i int) int64 { return contexts[i] }, func(i int) bool { return ones[i] == '1' })
}

// Promise 8, of texts whose bits are known one by one.
func TestPackKnownBits(t *testing.T) {
	nought := someBitsOf("000000000", 0, 17, 18, 20, 24, 32, 48, 80, 144)
	most := someBitsOf("011111111", 0, 17, 19, 23, 31, 47, 79, 143, 271)
	a := someBitsOf("001100001", 0, 17, 18, 21, 27, 38, 60, 104, 192)
	b := someBitsOf("001100010", 0, 17, 18, 21, 27, 38, 60, 104, 193)
	c := someBitsOf("001100011", 0, 17, 18, 21, 27, 38, 60, 104, 193)
	least := someBitsOf("1000000", 0, 301, 302, 304, 308, 316, 332)
	six := someBitsOf("1000011", 0, 301, 302, 304, 308, 316, 333)
	greatest := someBitsOf("1111111", 0, 301, 303, 307, 315, 331, 363)
	one := someBitsOf("0000000000", 401, 402, 404, 408, 416, 432, 464, 528, 656, 912)
	three := someBitsOf("0000000010", 401, 402, 404, 408, 416, 432, 464, 528, 656, 913)
	cases := []struct {
		text string
		bits [][]impl.Bit
	}{
		{"", nil},
		{"a", [][]impl.Bit{a}},
		{"\x00", [][]impl.Bit{nought}},
		{"\xff", [][]impl.Bit{most}},
		{"ab", [][]impl.Bit{a, b}},
		{"abc", [][]impl.Bit{a, b, c}},
		{"aaa", [][]impl.Bit{a, a, a}},
		{"\x00\xff\x00", [][]impl.Bit{nought, most, nought}},
		{"aaaa", [][]impl.Bit{a, least, one}},
		{"\x00\x00\x00\x00", [][]impl.Bit{nought, least, one}},
		{"abcabc", [][]impl.Bit{a, b, c, least, three}},
		{"abcabcabc", [][]impl.Bit{a, b, c, six, three}},
		{strings.Repeat("a", 67), [][]impl.Bit{a, greatest, one}},
		{strings.Repeat("a", 67) + "b", [][]impl.Bit{a, greatest, one, b}},
		{strings.Repeat("\xff", 133), [][]impl.Bit{most, greatest, one, greatest, one}},
	}
	for _, k := range cases {
		is(t, k.text, impl.Pack(k.text), impl.PutNum(int64(len(k.text)))+impl.RangeEncode(slices.Concat(k.bits...)))
		packBack(t, k.text)
	}
}

func TestPackKnownBytes(t *testing.T) {
	// Of no bits the code is four bytes; of nine bits that are not One low stays 0, and eight of them take a byte.
	cases := []struct{ text, want string }{
		{"", "\x00\x00\x00\x00\x00"},
		{"\x00", "\x02\x00\x00\x00\x00\x00"},
		{"\x00\x00", "\x04\x00\x00\x00\x00\x00\x00"},
	}
	for _, c := range cases {
		is(t, c.text, impl.Pack(c.text), c.want)
		is(t, c.text, impl.Unpack(c.want), impl.TextOut{Text: c.text})
	}
}

func TestTextsAreSqueezed(t *testing.T) {
	for _, c := range []struct {
		text string
		most int
	}{
		{strings.Repeat("a", mostParsed), 60},
		{strings.Repeat("a text, ", mostParsed/8), 70},
		{fewBytes(901, mostParsed, 2), 1000},
		{quoting(902, mostParsed), 2500},
		{someText(903, mostParsed), 4800},
	} {
		is(t, fmt.Sprint(c.most, " and ", len(impl.Pack(c.text))), len(impl.Pack(c.text)) <= c.most, true)
	}
}

// Promise 8, of each text of one byte, of some of two, and of all short ones out of two letters.
func TestAllShortTextsComeBackSqueezed(t *testing.T) {
	for b := range 256 {
		packBack(t, string([]byte{byte(b)}))
		packBack(t, string([]byte{byte(b), byte(255 - b)}))
		packBack(t, string([]byte{byte(b), byte(b), byte(b)}))
	}
	texts := []string{""}
	for range 8 {
		var longer []string
		for _, text := range texts {
			packBack(t, text)
			longer = append(longer, text+"\x00", text+"\xff")
		}
		texts = longer
	}
}

// Promise 8, of each length up to 150, with and without matches.
func TestTextsOfEachLengthComeBackSqueezed(t *testing.T) {
	for many := range 151 {
		packBack(t, someText(int64(many), many))
		packBack(t, strange(many))
		packBack(t, fewBytes(int64(many), many, 3))
		packBack(t, strings.Repeat("\x00", many))
		packBack(t, strings.Repeat("\xff", many))
		packBack(t, strings.Repeat("ab\x00", many)[:many])
	}
}

// Promise 8, of texts of all kinds, of any length.
func TestTextsComeBackSqueezed(t *testing.T) {
	r := rand.New(rand.NewSource(904))
	for seed := range int64(12) {
		many := r.Intn(mostParsed + 1)
		packBack(t, someText(seed, many))
		packBack(t, fewBytes(seed, many, 1+int(seed)))
		packBack(t, quoting(seed, many))
		packBack(t, strings.Repeat(someText(seed, 1+int(seed)*30), mostParsed)[:many])
	}
}

// Where there are more bits than RangeEncode takes, they are laid all the same.
func TestMoreBitsThanRangeEncodeTakes(t *testing.T) {
	for many := 43; many <= 47; many++ {
		text := strange(many)
		bits := plainBits(parseByTrying(text))
		is(t, "bits", len(bits), 9*many)
		code := impl.RangeEncode(bits)
		is(t, "RangeEncode takes them", code != "", many <= 44)
		if many <= 44 {
			is(t, "code", impl.Pack(text), impl.PutNum(int64(many))+code)
		}
		packBack(t, text)
	}
	for _, many := range []int{100, 1000, 2500} {
		packBack(t, strange(many))
	}
}

// Matches of the least and the greatest Many, from 1 and from MaxFar back, and one byte to each side of these.
func TestMatchesAtTheEdgesComeBackSqueezed(t *testing.T) {
	for _, many := range []int{2, 3, 4, 65, 66, 67, 69} {
		packBack(t, strings.Repeat("z", many+1))
		packBack(t, "y"+strings.Repeat("z", many+1)+"x")
		piece := strange(many)
		for far := impl.MaxFar - 1; far <= impl.MaxFar+1; far++ {
			gap := strings.ToUpper(strange(impl.MaxFar + 300)[300:])
			packBack(t, piece+gap[:far-many]+piece)
			packBack(t, piece+gap[:far-many]+piece+"!")
		}
	}
	l := append(byteTokens(strange(impl.MaxFar)), matchToken(impl.MaxMatch, impl.MaxFar))
	text := expandByBytes(l)
	is(t, "the farthest and greatest", impl.Pack(text), packedTokens(int64(len(text)), l))
	packBack(t, text)
}

func TestPackAtTheLimit(t *testing.T) {
	for _, kind := range []func(int) string{
		func(many int) string { return strings.Repeat("\x00", many) },
		func(many int) string { return strings.Repeat("\xff", many) },
		func(many int) string { return someText(905, many) },
		func(many int) string { return fewBytes(906, many, 4) },
		strange,
	} {
		packBack(t, kind(mostParsed-1))
		packBack(t, kind(mostParsed))
		for _, many := range []int{mostParsed + 1, mostParsed + 2, 2 * mostParsed, impl.MaxBytes, impl.MaxBytes + 1} {
			is(t, "too long", impl.Pack(kind(many)), "")
		}
	}
}

func TestUnpackWithoutANumber(t *testing.T) {
	code := impl.Pack("abc")[1:]
	for _, number := range []string{
		"\x80", "\xff", strings.Repeat("\x80", 9), strings.Repeat("\xff", 9),
		"\x86\x00", "\x80\x00", "\x80\x80\x00", strings.Repeat("\x80", 10), strings.Repeat("\xff", 10), strings.Repeat("\x80", 9) + "\x02",
	} {
		refused(t, "alone", number, impl.ErrSyntax)
	}
	refused(t, "nothing", "", impl.ErrSyntax)
	refused(t, "3 in two bytes", "\x86\x00"+code, impl.ErrSyntax)
	refused(t, "0 in two bytes", "\x80\x00\x00\x00\x00\x00", impl.ErrSyntax)
	refused(t, "no last byte", strings.Repeat("\xff", impl.MaxBytes), impl.ErrSyntax)
}

func TestUnpackWithAWrongNumber(t *testing.T) {
	code := impl.Pack("abc")[1:]
	for _, n := range []int64{
		-1, -2, -3, -4, -4000, -4001, 4001, 4002, 4096, 20000, 20001, 1 << 16, 1 << 32, 1<<32 + 3, 3 - 1<<32, math.MaxInt64, math.MinInt64, math.MinInt64 + 3,
	} {
		refused(t, "alone", impl.PutNum(n), impl.ErrSyntax)
		refused(t, "of a code", impl.PutNum(n)+code, impl.ErrSyntax)
		refused(t, "of none", impl.PutNum(n)+"\x00\x00\x00\x00", impl.ErrSyntax)
		refused(t, "of what would be another fault", impl.PutNum(n)+"\xff\xff\xff\xff", impl.ErrSyntax)
	}
	long := strange(mostParsed + 1)
	refused(t, "a byte too many", packedTokens(mostParsed+1, byteTokens(long)), impl.ErrSyntax)
	refused(t, "a match too many", packedTokens(mostParsed+1, parseByTrying(strings.Repeat("a", mostParsed+1))), impl.ErrSyntax)
}

func TestUnpackOfANumberAlone(t *testing.T) {
	// Bytes 0 tell bytes 0 without a match, as Pack does not from the fourth one on; a code has four bytes at least.
	for _, n := range []int64{0, 1, 2, 3, 4, 63, 64, 65, 1000, 3999, 4000} {
		refused(t, "nothing behind it", impl.PutNum(n), impl.ErrSyntax)
		for many := 1; many < 4; many++ {
			refused(t, "fewer than four bytes", impl.PutNum(n)+strings.Repeat("\x00", many), impl.ErrSyntax)
		}
	}
	for many := range 12 {
		refusedOrBack(t, "of no bytes", "\x00"+strings.Repeat("\x00", many))
		refusedOrBack(t, "of no bytes", "\x00"+strings.Repeat("\xff", many))
	}
}

// packTexts has texts that end with a byte, and with a match, and what they are squeezed to is short and not.
func packTexts() []string {
	return []string{
		"", "a", "\x00", "\xff", "ab", "aaa", "aaaa", "abcabcabc", "abcabcabcx", "a text, a text, a text", "\x00\x00\x00\x00\xff\xff\xff\xff\xff",
		strings.Repeat("z", 67), strings.Repeat("z", 68), strings.Repeat("\x00", 200), strange(30), strange(70), someText(907, 50), quoting(908, 150), fewBytes(909, 120, 2),
	}
}

func TestCodesCutOff(t *testing.T) {
	for _, text := range append(packTexts(), someText(910, 500)) {
		p := impl.Pack(text)
		for many := range len(p) {
			refusedOrBack(t, "cut off", p[:many])
			refusedOrBack(t, "cut off ahead", p[len(p)-many:])
		}
		is(t, "cut off", impl.Unpack(p[:len(p)-1]).Code != impl.OK, true)
	}
}

// What is behind the code is not looked at by the bits, so it is found by squeezing again.
func TestCodesWithMoreAtTheirEnd(t *testing.T) {
	for _, text := range append(packTexts(), someText(911, mostParsed)) {
		p := impl.Pack(text)
		rest := impl.MaxBytes - len(p)
		for _, more := range []string{"\x00", "\x01", "a", "\x80", "\xff", "\x00\x00\x00\x00", p, strings.Repeat("\x00", rest), strings.Repeat("\xff", rest), someText(912, rest)} {
			is(t, "more", impl.Unpack(p+more), impl.TextOut{Code: impl.ErrSyntax})
		}
	}
}

func TestCodesWithOneByteTurned(t *testing.T) {
	for _, text := range packTexts() {
		p := []byte(impl.Pack(text))
		for i := range p {
			for _, turn := range []byte{1, 2, 4, 8, 16, 32, 64, 128, 255, 3, 240} {
				p[i] ^= turn
				refusedOrBack(t, "turned", string(p))
				is(t, "turned", impl.Unpack(string(p)).Text == text && text != "", false)
				p[i] ^= turn
			}
		}
	}
	long := []byte(impl.Pack(quoting(913, mostParsed)))
	for i := 0; i < len(long); i += 97 {
		long[i] ^= 129
		refusedOrBack(t, "turned", string(long))
		long[i] ^= 129
	}
}

// Of one byte there are as many codes that are taken as there are bytes; the ones beside them tell the same, and aren't.
func TestCodesBesideTheRightOne(t *testing.T) {
	for b := range 256 {
		text := string([]byte{byte(b)})
		p := []byte(impl.Pack(text))
		is(t, "size", len(p), 6)
		p[5]++
		refused(t, "beside", string(p), impl.ErrSyntax)
	}
}

func TestMatchesFromAheadOfTheText(t *testing.T) {
	for _, many := range []int64{3, 4, 66} {
		for _, far := range []int64{1, 2, 3, 66, impl.MaxFar - 1, impl.MaxFar} {
			for _, n := range []int64{1, many - 1, many, many + 1, mostParsed} {
				refused(t, "nothing there", packedTokens(n, []impl.Token{matchToken(many, far)}), impl.ErrSum)
			}
		}
	}
	for _, there := range []int{1, 2, 3, 50, 1022, 1023} {
		for _, far := range []int{there + 1, there + 2, impl.MaxFar} {
			if far > impl.MaxFar {
				continue
			}
			l := append(byteTokens(strange(there)), matchToken(3, int64(far)))
			refused(t, "too far", packedTokens(int64(there+3), l), impl.ErrSum)
			refused(t, "too far, and too many", packedTokens(int64(there+1), l), impl.ErrSum)
			refused(t, "too far, and more behind", packedTokens(int64(there+9), append(l, byteToken('a')))+"more", impl.ErrSum)
		}
		l := append(byteTokens(strange(there)), matchToken(3, int64(there)))
		is(t, "not too far", impl.Unpack(packedTokens(int64(there+3), l)).Code != impl.ErrSum, true)
	}
	// A fault behind the bytes that the number tells is none: nothing is looked at there.
	l := append(byteTokens("abc"), matchToken(3, 9))
	refused(t, "behind", packedTokens(3, l), impl.ErrSyntax)
}

func TestMatchesThatMakeMoreThanTheNumber(t *testing.T) {
	for _, many := range []int64{3, 4, 5, 65, 66} {
		l := append(byteTokens("ab"), matchToken(many, 2))
		for n := int64(3); n < many+2; n++ {
			refused(t, "more", packedTokens(n, l), impl.ErrSum)
		}
		is(t, "as many", impl.Unpack(packedTokens(many+2, l)), impl.TextOut{Text: expandByBytes(l)})
		refused(t, "fewer, so not the match", packedTokens(2, l), impl.ErrSyntax)
	}
	long := append(byteTokens("a"), slices.Repeat([]impl.Token{matchToken(66, 1)}, 61)...)
	refused(t, "more than 4000", packedTokens(mostParsed, long), impl.ErrSum)
	refused(t, "one more", packedTokens(mostParsed, append(byteTokens(strange(mostParsed-2)), matchToken(3, 1000))), impl.ErrSum)
}

// A text is squeezed in one way alone: other tokens that make it are refused.
func TestOtherTokensOfTheSameText(t *testing.T) {
	for _, l := range [][]impl.Token{
		byteTokens("aaaa"),
		byteTokens("abcabc"),
		append(byteTokens("aa"), matchToken(3, 1)),
		append(byteTokens("aa"), matchToken(3, 2)),
		append(byteTokens("a"), matchToken(3, 1), byteToken('a')),
		append(byteTokens("a"), matchToken(3, 1), matchToken(3, 4)),
		append(byteTokens("abc"), matchToken(3, 3), matchToken(3, 3)),
		append(byteTokens("abcxabc"), matchToken(3, 3)),
		append(byteTokens("abcxabcyab"), byteToken('c')),
		append(byteTokens("z"), matchToken(65, 1), matchToken(3, 1)),
		append(byteTokens(strange(1030)), matchToken(3, 1000)),
		byteTokens(strings.Repeat("a", mostParsed)),
	} {
		text := expandByBytes(l)
		right := slices.Equal(l, parseByTrying(text))
		out := impl.Unpack(packedTokens(int64(len(text)), l))
		if right {
			is(t, text, out, impl.TextOut{Text: text})
		} else {
			is(t, text, out, impl.TextOut{Code: impl.ErrSyntax})
		}
	}
}

func TestNumbersBesideTheRightOne(t *testing.T) {
	texts := append(packTexts(), strange(64), strange(65), strings.Repeat("a", mostParsed), someText(914, mostParsed), strange(1000))
	for _, text := range texts {
		p := impl.Pack(text)
		code := p[len(impl.PutNum(int64(len(text)))):]
		for _, more := range []int{-66, -3, -2, -1, 1, 2, 3, 66} {
			n := int64(len(text) + more)
			refusedOrBack(t, fmt.Sprint(more), impl.PutNum(n)+code)
			is(t, fmt.Sprint(more), impl.Unpack(impl.PutNum(n)+code).Text == text && text != "", false)
		}
	}
	refused(t, "one less, of bytes", packedTokens(4, byteTokens("abcde")), impl.ErrSyntax)
	refused(t, "one more, of bytes 0", packedTokens(4, byteTokens("\x00\x00\x00")), impl.ErrSyntax)
	refused(t, "one less, of a match", packedTokens(6, append(byteTokens("abcd"), matchToken(3, 4))), impl.ErrSum)
	refused(t, "none of some", packedTokens(0, byteTokens("a")), impl.ErrSyntax)
	refused(t, "some of none", packedTokens(1, nil), impl.ErrSyntax)
}

func TestUnpackTextsAtTheLimit(t *testing.T) {
	for _, ahead := range []string{"", "\x00", impl.Pack("abc"), impl.PutNum(-1), impl.PutNum(4001), impl.PutNum(4000), "\x80", packedTokens(9, []impl.Token{matchToken(3, 1)})} {
		for _, fill := range []string{"\x00", "\xff", "\x80", "a"} {
			for _, more := range []int{-1, 0, 1, 2, impl.MaxBytes} {
				p := ahead + strings.Repeat(fill, impl.MaxBytes+more-len(ahead))
				is(t, fmt.Sprint(more), impl.Unpack(p).Code == impl.ErrSize, more > 0)
				refusedOrBack(t, fmt.Sprint(more), p)
			}
		}
	}
}

// Of texts that nothing was squeezed to each is refused, or is what comes out of it squeezed.
func TestTextsThatAreNotSqueezed(t *testing.T) {
	for _, code := range append(noCodes(), wrapping()...) {
		for _, n := range []int64{0, 1, 2, 70} {
			refusedOrBack(t, "no code", impl.PutNum(n)+code[:min(len(code), 300)])
		}
	}
	r := rand.New(rand.NewSource(915))
	for seed := range int64(1500) {
		refusedOrBack(t, "any", impl.PutNum(int64(r.Intn(60)))+someText(seed, r.Intn(60)))
	}
	for _, fill := range []string{"\x00", "\x01", "\x7f", "\x80", "\xff"} {
		refusedOrBack(t, "any", impl.PutNum(mostParsed)+strings.Repeat(fill, 5000))
	}
}

func TestSqueezingKeepsNothing(t *testing.T) {
	text := quoting(916, 2000)
	p := impl.Pack(text)
	impl.Pack(someText(917, mostParsed))
	impl.Unpack(impl.PutNum(4000) + someText(918, 4000))
	is(t, "again", impl.Pack(text), p)
	is(t, "back", impl.Unpack(p).Text, text)
	is(t, "new memory", within(p, impl.Unpack(p).Text), false)
	is(t, "new memory", within(text, impl.Pack(text)), false)
}
