package tests

import (
	"fmt"
	"math"
	"math/rand"
	"slices"
	"strings"
	"testing"

	"loop.example/g00320/impl"
)

// mostParsed is how many bytes a text has at most that Parse takes.
const mostParsed = 4000

func byteToken(b byte) impl.Token {
	return impl.Token{Byte: int64(b)}
}

func byteTokens(text string) []impl.Token {
	var out []impl.Token
	for _, b := range []byte(text) {
		out = append(out, byteToken(b))
	}
	return out
}

func matchToken(many, far int64) impl.Token {
	return impl.Token{Many: many, Far: far}
}

// runAt is how many bytes from here on are those that stand far ahead of them, up to MaxMatch.
func runAt(text string, here, far int) int {
	many := 0
	for many < impl.MaxMatch && here+many < len(text) && text[here+many] == text[here+many-far] {
		many++
	}
	return many
}

// parseByTrying is Parse as the chapter says it: each Far there may be is tried, the least first.
func parseByTrying(text string) []impl.Token {
	var out []impl.Token
	for here := 0; here < len(text); {
		best := byteToken(text[here])
		for far := 1; far <= min(here, impl.MaxFar); far++ {
			if many := runAt(text, here, far); many >= impl.MinMatch && int64(many) > best.Many {
				best = matchToken(int64(many), int64(far))
			}
		}
		out = append(out, best)
		here += max(1, int(best.Many))
	}
	return out
}

// expandByBytes is Expand as the chapter says it, of right tokens that refer to what is there.
func expandByBytes(l []impl.Token) string {
	var out []byte
	for _, t := range l {
		if t.Many == 0 {
			out = append(out, byte(t.Byte))
		}
		for range t.Many {
			out = append(out, out[len(out)-int(t.Far)])
		}
	}
	return string(out)
}

func sameTokens(t *testing.T, what string, got, want []impl.Token) {
	t.Helper()
	if !slices.Equal(got, want) {
		t.Errorf("%.60q: got %.300s, want %.300s", what, fmt.Sprint(got), fmt.Sprint(want))
	}
}

// tokensBack asks of one text what promise 7 says, and its tokens one by one.
func tokensBack(t *testing.T, text string) {
	t.Helper()
	l := impl.Parse(text)
	sameTokens(t, text, l, parseByTrying(text))
	for _, token := range l {
		is(t, "right", impl.TokenRight(token), true)
	}
	is(t, "made again", impl.Expand(l), text)
}

// strange has so many bytes of which no three in a row come twice, and none of them is below 128.
func strange(many int) string {
	var out []byte
	for i := 0; len(out) < many; i++ {
		out = append(out, 255, byte(128+i/126), byte(128+i%126))
	}
	return string(out[:many])
}

// fewBytes is a text of so many bytes out of the first kinds of the letters, so that matches of all sizes are there.
func fewBytes(seed int64, many, kinds int) string {
	r := rand.New(rand.NewSource(seed))
	out := make([]byte, many)
	for i := range out {
		out[i] = byte('a' + r.Intn(kinds))
	}
	return string(out)
}

// quoting is a text of pieces, each of them new or taken from any place of what is there.
func quoting(seed int64, many int) string {
	r := rand.New(rand.NewSource(seed))
	out := []byte("a beginning")
	for len(out) < many {
		size := 1 + r.Intn(100)
		from := r.Intn(len(out))
		if r.Intn(3) == 0 {
			out = append(out, someText(int64(len(out))+seed, size)...)
		} else {
			out = append(out, out[from:min(from+size, len(out))]...)
		}
	}
	return string(out[:many])
}

func TestMatchConstants(t *testing.T) {
	is(t, "MinMatch", impl.MinMatch, 3)
	is(t, "MaxMatch", impl.MaxMatch, 66)
	is(t, "MaxFar", impl.MaxFar, 1024)
}

func TestTokensRight(t *testing.T) {
	for b := range int64(256) {
		is(t, "a byte", impl.TokenRight(impl.Token{Byte: b}), true)
	}
	for many := int64(impl.MinMatch); many <= impl.MaxMatch; many++ {
		for far := int64(1); far <= impl.MaxFar; far++ {
			is(t, "a match", impl.TokenRight(matchToken(many, far)), true)
		}
	}
}

func wrongTokens() []impl.Token {
	var out []impl.Token
	for _, b := range []int64{-1, 256, -2, -255, -256, 257, 512, 1 << 32, 1<<32 + 1, -1 << 32, math.MaxInt64, math.MinInt64} {
		out = append(out, impl.Token{Byte: b})
	}
	for _, many := range []int64{1, 2, 67, 68, -1, -2, -3, -66, 256, 259, 1<<32 + 3, math.MaxInt64, math.MinInt64} {
		for _, far := range []int64{0, 1, 7, 1024} {
			out = append(out, matchToken(many, far))
		}
	}
	for _, far := range []int64{0, 1025, 1026, -1, -2, -1024, 2048, 1 << 32, 1<<32 + 1, math.MaxInt64, math.MinInt64} {
		for _, many := range []int64{0, 3, 7, 66} {
			if far != 0 || many != 0 {
				out = append(out, matchToken(many, far))
			}
		}
	}
	// A byte with what is of a match, and a match with what is of a byte.
	for _, b := range []int64{1, 97, 255, 256, -1, math.MaxInt64, math.MinInt64} {
		for _, pair := range [][2]int64{{3, 1}, {66, 1024}, {3, 0}, {0, 1}, {0, 1024}, {1, 0}, {-1, 0}, {0, -1}} {
			out = append(out, impl.Token{Byte: b, Many: pair[0], Far: pair[1]})
		}
	}
	// What is no match is no byte either, be its Byte right.
	return append(out, impl.Token{Far: 1}, impl.Token{Far: 1024}, impl.Token{Many: 3}, impl.Token{Many: 66})
}

func TestTokensWrong(t *testing.T) {
	for _, token := range wrongTokens() {
		is(t, fmt.Sprint(token), impl.TokenRight(token), false)
	}
}

// parseCase is a text, and its tokens.
type parseCase struct {
	text string
	want []impl.Token
}

func behindBytes(text string, more ...impl.Token) []impl.Token {
	return append(byteTokens(text), more...)
}

// Promise 7, of texts whose tokens are known.
func TestParseKnown(t *testing.T) {
	cases := []parseCase{
		// None of three bytes, and none but of two.
		{"", nil},
		{"a", byteTokens("a")},
		{"ab", byteTokens("ab")},
		{"aa", byteTokens("aa")},
		{"abc", byteTokens("abc")},
		{"aaa", byteTokens("aaa")},
		{"\x00\x00\x00", byteTokens("\x00\x00\x00")},
		{"abcab", byteTokens("abcab")},
		{"abxabyab", byteTokens("abxabyab")},
		{"\x00\x01\xff\x80", byteTokens("\x00\x01\xff\x80")},
		// One match: into what it makes itself, and not.
		{"aaaa", behindBytes("a", matchToken(3, 1))},
		{"\x00\x00\x00\x00", behindBytes("\x00", matchToken(3, 1))},
		{"ababa", behindBytes("ab", matchToken(3, 2))},
		{"abcabc", behindBytes("abc", matchToken(3, 3))},
		{"abcabcabc", behindBytes("abc", matchToken(6, 3))},
		{"abcabcabx", behindBytes("abc", matchToken(5, 3), byteToken('x'))},
		{"abcdxbcd", behindBytes("abcdx", matchToken(3, 4))},
		{"abcdxbcdy", behindBytes("abcdx", matchToken(3, 4), byteToken('y'))},
		{"abcdxbcde", behindBytes("abcdx", matchToken(3, 4), byteToken('e'))},
		// Of one Many the least Far.
		{"abc1abc2abc3", behindBytes("abc1", matchToken(3, 4), byteToken('2'), matchToken(3, 4), byteToken('3'))},
		{"abc1xabc2yyabc3", behindBytes("abc1x", matchToken(3, 5), byteToken('2'), byteToken('y'), byteToken('y'), matchToken(3, 6), byteToken('3'))},
		// The greatest Many, be it farther back.
		{"abcd1abc2abcd", behindBytes("abcd1", matchToken(3, 5), byteToken('2'), matchToken(4, 9))},
		{"abc1abcd2abcd", behindBytes("abc1", matchToken(3, 4), byteToken('d'), byteToken('2'), matchToken(4, 5))},
		{"abcde1abcd2abcde", behindBytes("abcde1", matchToken(4, 6), byteToken('2'), matchToken(5, 11))},
		// What begins within a match that was taken is a place, too.
		{"aaaaaxaaaa", behindBytes("a", matchToken(4, 1), byteToken('x'), matchToken(4, 5))},
		{"abcabcabcXbca", behindBytes("abc", matchToken(6, 3), byteToken('X'), matchToken(3, 6))},
		// The first one is taken, though a longer one begins behind it.
		{"abc.bcdef.abcdef", behindBytes("abc.bcdef.", matchToken(3, 10), matchToken(3, 7))},
	}
	for _, c := range cases {
		sameTokens(t, c.text, impl.Parse(c.text), c.want)
		tokensBack(t, c.text)
	}
}

func TestNothingComesTwice(t *testing.T) {
	for _, many := range []int{1, 2, 3, 4, 100, 1023, 1024, 1025, mostParsed - 1, mostParsed} {
		text := strange(many)
		sameTokens(t, "strange", impl.Parse(text), byteTokens(text))
		tokensBack(t, text)
	}
}

// Promise 7, of all texts of up to nine bytes out of two, and of up to six out of three.
func TestAllShortTexts(t *testing.T) {
	for _, c := range []struct{ kinds, most int }{{2, 9}, {3, 6}} {
		texts := []string{""}
		for range c.most {
			var longer []string
			for _, text := range texts {
				tokensBack(t, text)
				for k := range c.kinds {
					longer = append(longer, text+string(rune('a'+k)))
				}
			}
			texts = longer
		}
		for _, text := range texts {
			tokensBack(t, text)
		}
	}
}

// Promise 7, of texts of all kinds, of any length and of the greatest.
func TestTokensMakeTheTextAgain(t *testing.T) {
	r := rand.New(rand.NewSource(801))
	for seed := range int64(60) {
		many := r.Intn(mostParsed + 1)
		if seed%6 == 0 {
			many = mostParsed
		}
		tokensBack(t, someText(seed, many))
		tokensBack(t, fewBytes(seed, many, 1+int(seed)%9))
		tokensBack(t, quoting(seed, many))
		tokensBack(t, strings.Repeat(someText(seed, 1+int(seed)*30), mostParsed)[:many])
	}
}

// A run is cut into matches of MaxMatch; what is left of it is a match from MinMatch on, else bytes.
func TestRunsLongerThanAMatch(t *testing.T) {
	for many := 1; many < 300; many++ {
		var want []impl.Token
		want = append(want, byteToken('z'))
		for rest := many - 1; rest > 0; {
			size := min(rest, impl.MaxMatch)
			if size < impl.MinMatch {
				want = append(want, byteToken('z'))
				rest--
				continue
			}
			want = append(want, matchToken(int64(size), 1))
			rest -= size
		}
		sameTokens(t, "run", impl.Parse(strings.Repeat("z", many)), want)
		tokensBack(t, strings.Repeat("z", many))
	}
}

// Of a piece that comes twice, of each size, at the end and with another byte behind it.
func TestMatchesOfEachSize(t *testing.T) {
	for many := 1; many <= impl.MaxMatch+4; many++ {
		piece := ""
		for i := range many {
			piece += string(rune(' ' + i))
		}
		for _, behind := range []string{"", "\x01", "\x01\x02"} {
			want := byteTokens(piece + "\x00")
			switch rest := many - impl.MaxMatch; {
			case many < impl.MinMatch:
				want = append(want, byteTokens(piece)...)
			case rest <= 0:
				want = append(want, matchToken(int64(many), int64(many+1)))
			case rest < impl.MinMatch:
				want = append(append(want, matchToken(impl.MaxMatch, int64(many+1))), byteTokens(piece[impl.MaxMatch:])...)
			default:
				want = append(want, matchToken(impl.MaxMatch, int64(many+1)), matchToken(int64(rest), int64(many+1)))
			}
			want = append(want, byteTokens(behind)...)
			text := piece + "\x00" + piece + behind
			sameTokens(t, "twice", impl.Parse(text), want)
			tokensBack(t, text)
		}
	}
}

// A match from MaxFar back is one, from one farther none; a piece nearer, though smaller, is one then.
func TestMatchesFromFarBack(t *testing.T) {
	for far := impl.MaxFar - 3; far <= impl.MaxFar+3; far++ {
		gap := strange(far - 5)
		text := "abcde" + gap + "abcde"
		want := byteTokens("abcde" + gap)
		if far <= impl.MaxFar {
			want = append(want, matchToken(5, int64(far)))
		} else {
			want = append(want, byteTokens("abcde")...)
		}
		sameTokens(t, "far", impl.Parse(text), want)
		tokensBack(t, text)
		nearer := "abcde" + gap[:500] + "abc" + gap[503:]
		l := impl.Parse(nearer + "abcde")
		last := l[len(byteTokens(nearer))-2:]
		if far <= impl.MaxFar {
			sameTokens(t, "far, and nearer", last, []impl.Token{matchToken(5, int64(far))})
		} else {
			sameTokens(t, "too far, and nearer", last, behindBytes("", matchToken(3, int64(far-505)), byteToken('d'), byteToken('e')))
		}
		tokensBack(t, nearer+"abcde")
	}
}

// At MaxFar a match of MaxMatch is one, too, and one that ends with the text.
func TestTheLargestMatch(t *testing.T) {
	piece := strings.ToLower("the quick brown fox jumps over lazy dogs, 0123456789 +-*/ ABC %&!?@#")[:impl.MaxMatch]
	text := piece + strange(impl.MaxFar-impl.MaxMatch) + piece
	l := impl.Parse(text)
	is(t, "last", l[len(l)-1], matchToken(impl.MaxMatch, impl.MaxFar))
	is(t, "tokens", len(l), impl.MaxFar+1)
	tokensBack(t, text)
	l = impl.Parse("-" + text)
	is(t, "one byte more ahead", l[len(l)-1], matchToken(impl.MaxMatch, impl.MaxFar))
}

func TestParseAtTheLimit(t *testing.T) {
	for _, kind := range []func(int) string{
		func(many int) string { return strings.Repeat("a", many) },
		func(many int) string { return strings.Repeat("\x00", many) },
		func(many int) string { return someText(802, many) },
		func(many int) string { return fewBytes(803, many, 4) },
	} {
		tokensBack(t, kind(mostParsed-1))
		tokensBack(t, kind(mostParsed))
		for _, many := range []int{mostParsed + 1, mostParsed + 2, 2 * mostParsed, impl.MaxBytes, impl.MaxBytes + 1, 1 << 20} {
			sameTokens(t, "too long", impl.Parse(kind(many)), nil)
		}
	}
	is(t, "most tokens", len(impl.Parse(strange(mostParsed))), mostParsed)
}

// Tokens that Parse does not make make a text, too.
func TestExpandKnown(t *testing.T) {
	cases := []struct {
		l    []impl.Token
		want string
	}{
		{nil, ""},
		{[]impl.Token{}, ""},
		{[]impl.Token{{}}, "\x00"},
		{byteTokens("\xff\x00a"), "\xff\x00a"},
		{behindBytes("x", matchToken(4, 1)), "xxxxx"},
		{behindBytes("x", matchToken(3, 1), matchToken(3, 4)), "xxxxxxx"},
		{behindBytes("ab", matchToken(3, 2)), "ababa"},
		{behindBytes("ab", matchToken(3, 1)), "abbbb"},
		{behindBytes("abcd", matchToken(3, 4)), "abcdabc"},
		{behindBytes("abcd", matchToken(4, 4)), "abcdabcd"},
		{behindBytes("abcd", matchToken(5, 4)), "abcdabcda"},
		{behindBytes("abcd", matchToken(3, 3), byteToken('-'), matchToken(3, 8)), "abcdbcd-abc"},
		{behindBytes("abc", matchToken(66, 3)), strings.Repeat("abc", 23)},
	}
	for _, c := range cases {
		is(t, fmt.Sprint(c.l), impl.Expand(c.l), c.want)
		is(t, fmt.Sprint(c.l), expandByBytes(c.l), c.want)
	}
}

// A match of each Many with each Far, that makes what was over and over where Many is the greater.
func TestExpandEachMatch(t *testing.T) {
	ahead := byteTokens(someText(804, impl.MaxFar))
	for many := int64(impl.MinMatch); many <= impl.MaxMatch; many++ {
		for _, far := range []int64{1, 2, 3, 4, 5, many - 1, many, many + 1, 65, 66, 67, 500, impl.MaxFar - 1, impl.MaxFar} {
			l := append(slices.Clone(ahead[impl.MaxFar-far:]), matchToken(many, far), byteToken('!'), matchToken(3, 2))
			is(t, "match", impl.Expand(l), expandByBytes(l))
		}
	}
}

func TestExpandManyLists(t *testing.T) {
	r := rand.New(rand.NewSource(805))
	for range 300 {
		l := byteTokens("q")
		size := 1
		for range r.Intn(250) {
			if r.Intn(2) == 0 {
				l, size = append(l, byteToken(byte(r.Intn(256)))), size+1
				continue
			}
			many := impl.MinMatch + r.Intn(impl.MaxMatch-impl.MinMatch+1)
			far := 1 + r.Intn(min(size, impl.MaxFar))
			l, size = append(l, matchToken(int64(many), int64(far))), size+many
		}
		is(t, "list", impl.Expand(l), expandByBytes(l))
	}
}

// Of each count of bytes a match may go back to the first one, and no farther.
func TestExpandToTheFirstByteAndNoFarther(t *testing.T) {
	for there := range int64(impl.MaxFar + 3) {
		text := someText(806, int(there))
		for far := max(1, there-1); far <= there+2; far++ {
			l := behindBytes(text, matchToken(4, far))
			want := ""
			if far <= there && far <= impl.MaxFar {
				want = expandByBytes(l)
			}
			is(t, "far", impl.Expand(l), want)
			is(t, "far, and a byte behind", impl.Expand(append(l, byteToken('a'))) != "", want != "")
		}
	}
	is(t, "nothing there", impl.Expand([]impl.Token{matchToken(3, 1)}), "")
	is(t, "nothing there yet", impl.Expand(append([]impl.Token{matchToken(3, 1)}, byteTokens("abc")...)), "")
}

// Bytes that a match makes are there for the next one: all of them, and not those of its own token.
func TestExpandGoesBackIntoAMatch(t *testing.T) {
	l := behindBytes("ab", matchToken(5, 2))
	is(t, "all", impl.Expand(append(slices.Clone(l), matchToken(3, 7))), "abababaaba")
	is(t, "one more", impl.Expand(append(slices.Clone(l), matchToken(3, 8))), "")
}

func TestExpandListsAtTheLimit(t *testing.T) {
	text := someText(807, impl.MaxBytes+1)
	l := byteTokens(text)
	is(t, "MaxList", impl.Expand(l[:impl.MaxList]), text[:impl.MaxList])
	is(t, "MaxList and one", impl.Expand(l[:impl.MaxList+1]), text[:impl.MaxList+1])
	is(t, "MaxBytes less one", impl.Expand(l[:impl.MaxBytes-1]), text[:impl.MaxBytes-1])
	is(t, "MaxBytes", impl.Expand(l[:impl.MaxBytes]), text[:impl.MaxBytes])
	is(t, "MaxBytes and one", impl.Expand(l), "")
	is(t, "twice MaxBytes", impl.Expand(append(l, l...)), "")
	is(t, "matches alone", impl.Expand(slices.Repeat([]impl.Token{matchToken(3, 1)}, impl.MaxBytes+1)), "")
}

func TestExpandTextsAtTheLimit(t *testing.T) {
	for _, most := range []int64{3, 4, 5, 65, 66} {
		for _, over := range []int{-2, -1, 0, 1, 2, 65} {
			l := byteTokens("ab")
			size := 2
			for size+int(most) <= impl.MaxBytes+over-impl.MinMatch {
				l, size = append(l, matchToken(most, 2)), size+int(most)
			}
			rest := impl.MaxBytes + over - size
			for ; rest > impl.MaxMatch; rest-- {
				l = append(l, byteToken('c'))
			}
			l = append(l, matchToken(int64(rest), 2))
			want := expandByBytes(l)
			is(t, "size", len(want), impl.MaxBytes+over)
			if over > 0 {
				want = ""
			}
			is(t, "by a match", impl.Expand(l), want)
		}
	}
	full := slices.Repeat([]impl.Token{matchToken(66, 1)}, 303)
	is(t, "full less one", len(impl.Expand(behindBytes("a", full...))), impl.MaxBytes-1)
	is(t, "full", len(impl.Expand(append(behindBytes("a", full...), byteToken('b')))), impl.MaxBytes)
	is(t, "a byte too many", impl.Expand(append(behindBytes("ab", full...), byteToken('b'))), "")
	is(t, "a match too many", impl.Expand(append(behindBytes("a", full...), matchToken(3, 1))), "")
	is(t, "far too many", impl.Expand(behindBytes("a", slices.Repeat(full, 60)...)), "")
}

// A wrong token is refused at each place of a list, and in the longest list at both ends.
func TestWrongTokensAreRefused(t *testing.T) {
	right := behindBytes("abc", matchToken(3, 3), byteToken('d'), matchToken(66, 7))
	longest := byteTokens(someText(808, impl.MaxBytes-1))
	for _, wrong := range wrongTokens() {
		is(t, "alone", impl.Expand([]impl.Token{wrong}), "")
		for at := range len(right) + 1 {
			is(t, fmt.Sprint(wrong, at), impl.Expand(slices.Insert(slices.Clone(right), at, wrong)), "")
		}
		is(t, "first of all", impl.Expand(slices.Insert(slices.Clone(longest), 0, wrong)), "")
		is(t, "last of all", impl.Expand(append(slices.Clone(longest), wrong)), "")
	}
}

func TestTokensAreLeftAndNothingIsKept(t *testing.T) {
	text := quoting(809, 2000)
	l := impl.Parse(text)
	first := slices.Clone(l)
	impl.Parse(quoting(810, mostParsed))
	sameTokens(t, "again", impl.Parse(text), first)
	again := impl.Parse(text)
	for i := range again {
		again[i] = impl.Token{Byte: -1}
	}
	sameTokens(t, "new memory", l, first)
	sameTokens(t, "not kept", impl.Parse(text), first)
	room := make([]impl.Token, len(l), 4*len(l))
	copy(room, l)
	is(t, "expanded", impl.Expand(room), text)
	sameTokens(t, "as it was", room, first)
	sameTokens(t, "nothing behind it", room[len(l):cap(room)], make([]impl.Token, cap(room)-len(l)))
	is(t, "expanded again", impl.Expand(l), text)
}
