package tests

import (
	"fmt"
	"math"
	"math/big"
	"math/rand"
	"slices"
	"strings"
	"testing"

	"loop.example/g00320/impl"
)

// plainCoder is the coder as the chapter says it: low is one number, as great as it likes.
type plainCoder struct {
	low, span *big.Int
	many      int
	chances   map[int64]int64
	// carried is how many bytes 255 of low, ahead of its last four, each carry so far went over.
	carried []int
}

func newPlainCoder() *plainCoder {
	return &plainCoder{low: big.NewInt(0), span: big.NewInt(math.MaxUint32), chances: map[int64]int64{}}
}

func (p *plainCoder) chance(context int64) int64 {
	if c, ok := p.chances[context]; ok {
		return c
	}
	return 1024
}

func (p *plainCoder) bound(context int64) *big.Int {
	part := new(big.Int).Div(p.span, big.NewInt(2048))
	return part.Mul(part, big.NewInt(p.chance(context)))
}

func (p *plainCoder) ahead() *big.Int {
	return new(big.Int).Rsh(p.low, 32)
}

// put tells how many times the range was multiplied by 256.
func (p *plainCoder) put(b impl.Bit) int {
	bound, chance, ahead := p.bound(b.Context), p.chance(b.Context), p.ahead()
	if b.One {
		p.low.Add(p.low, bound)
		p.span.Sub(p.span, bound)
		p.chances[b.Context] = chance - chance/32
	} else {
		p.span.Set(bound)
		p.chances[b.Context] = chance + (2048-chance)/32
	}
	if now := p.ahead(); now.Cmp(ahead) != 0 {
		p.carried = append(p.carried, int(now.TrailingZeroBits())/8)
	}
	many := 0
	for p.span.Cmp(big.NewInt(1<<24)) < 0 {
		p.low.Mul(p.low, big.NewInt(256))
		p.span.Mul(p.span, big.NewInt(256))
		many++
	}
	p.many += many
	return many
}

func (p *plainCoder) code() string {
	return string(p.low.FillBytes(make([]byte, p.many+4)))
}

func plainCoderOf(l []impl.Bit) *plainCoder {
	p := newPlainCoder()
	for _, b := range l {
		p.put(b)
	}
	return p
}

// plainDecoder is the decoder as the chapter says it: what is not there of the text is bytes 0.
type plainDecoder struct {
	parts *plainCoder
	x     *big.Int
	text  string
	at    int
}

func newPlainDecoder(text string) *plainDecoder {
	d := &plainDecoder{parts: newPlainCoder(), x: big.NewInt(0), text: text}
	d.take(4)
	return d
}

func (d *plainDecoder) take(many int) {
	for range many {
		next := byte(0)
		if d.at < len(d.text) {
			next = d.text[d.at]
		}
		d.at++
		d.x.Mul(d.x, big.NewInt(256))
		d.x.Add(d.x, big.NewInt(int64(next)))
		d.x.Mod(d.x, new(big.Int).Lsh(big.NewInt(1), 64))
	}
}

func (d *plainDecoder) get(context int64) bool {
	bound := d.parts.bound(context)
	one := d.x.Cmp(bound) >= 0
	if one {
		d.x.Sub(d.x, bound)
	}
	d.take(d.parts.put(impl.Bit{Context: context, One: one}))
	return one
}

func plainDecode(text string, contexts []int64) []bool {
	d := newPlainDecoder(text)
	var out []bool
	for _, c := range contexts {
		out = append(out, d.get(c))
	}
	return out
}

func contextsOf(l []impl.Bit) []int64 {
	var out []int64
	for _, b := range l {
		out = append(out, b.Context)
	}
	return out
}

func onesOf(l []impl.Bit) []bool {
	var out []bool
	for _, b := range l {
		out = append(out, b.One)
	}
	return out
}

// madeBits has so many bits, each of the context and the value that are told of its place.
func madeBits(many int, context func(i int) int64, one func(i int) bool) []impl.Bit {
	var out []impl.Bit
	for i := range many {
		out = append(out, impl.Bit{Context: context(i), One: one(i)})
	}
	return out
}

func always(context int64) func(int) int64 {
	return func(int) int64 { return context }
}

func valued(one bool) func(int) bool {
	return func(int) bool { return one }
}

func contextWays(r *rand.Rand) []func(int) int64 {
	return []func(int) int64{
		always(0), always(1), always(800), always(impl.MaxContexts - 1),
		func(i int) int64 { return int64(i % 2) },
		func(i int) int64 { return int64(i%2) * (impl.MaxContexts - 1) },
		func(i int) int64 { return int64(i*4) % impl.MaxContexts },
		func(i int) int64 { return impl.MaxContexts - 1 - int64(i) },
		func(i int) int64 { return int64(r.Intn(3)) },
		func(i int) int64 { return int64(r.Intn(impl.MaxContexts)) },
	}
}

func oneWays(r *rand.Rand) []func(int) bool {
	return []func(int) bool{
		valued(true), valued(false),
		func(i int) bool { return i%2 == 0 },
		func(i int) bool { return i%7 == 0 },
		func(i int) bool { return i < 200 },
		func(i int) bool { return i >= 200 },
		func(i int) bool { return r.Intn(2) == 0 },
		func(i int) bool { return r.Intn(30) == 0 },
		func(i int) bool { return r.Intn(30) > 0 },
	}
}

// someBits has lists of one context and of many, all One, none One and mixed, of no bits up to MaxList.
func someBits() [][]impl.Bit {
	r := rand.New(rand.NewSource(701))
	out := [][]impl.Bit{nil, {}}
	for _, context := range contextWays(r) {
		for _, one := range oneWays(r) {
			for _, many := range []int{1, 2, 3, 8, 9, 40, 100, 399, impl.MaxList} {
				out = append(out, madeBits(many, context, one))
			}
		}
	}
	return out
}

// straddling has bits whose low stays below the edge, and low and range together above it; the last one, which is One
// where the edge stands ahead of the bound, takes low over it. So low has many bytes 255, and then none.
func straddling(seed int64, many int, edge *big.Int, contexts int) []impl.Bit {
	r := rand.New(rand.NewSource(seed))
	p := newPlainCoder()
	var out []impl.Bit
	for {
		context := int64(r.Intn(contexts))
		at := new(big.Int).Lsh(edge, uint(8*p.many))
		middle := new(big.Int).Add(p.low, p.bound(context))
		below := at.Cmp(middle) <= 0
		b := impl.Bit{Context: context, One: !below || len(out) >= many}
		out = append(out, b)
		if below && b.One || len(out) == impl.MaxList {
			return out
		}
		p.put(b)
	}
}

func carryingBits() [][]impl.Bit {
	var out [][]impl.Bit
	for _, edge := range []int64{0x80000000, 0x40000000, 0xc0000000, 0x01000000, 0x12000000, 0xff000000, 0x12340000, 0x80000001} {
		for _, contexts := range []int{1, 2, 5, impl.MaxContexts} {
			for many := 1; many < 390; many += 3 {
				out = append(out, straddling(int64(many), many, big.NewInt(edge), contexts))
			}
		}
	}
	return out
}

func sameBits(t *testing.T, what string, got, want []bool) {
	t.Helper()
	if !slices.Equal(got, want) {
		t.Errorf("%.60q: got %.300s, want %.300s", what, fmt.Sprint(got), fmt.Sprint(want))
	}
}

// behinds has what may stand behind a code of that length: nothing, and bytes of any kind, up to MaxBytes in all.
func behinds(size int) []string {
	rest := impl.MaxBytes - size
	return []string{
		"", "\x00", "\xff", "\x01", "\x80", strings.Repeat("\x00", 9), strings.Repeat("\xff", 9),
		someText(702, 1), someText(703, 5), someText(704, 300),
		strings.Repeat("\x00", rest), strings.Repeat("\xff", rest), someText(705, rest),
	}
}

// bitsBack asks of one list what promise 6 says, and its code byte by byte.
func bitsBack(t *testing.T, l []impl.Bit) {
	t.Helper()
	code := impl.RangeEncode(l)
	is(t, "code", code, plainCoderOf(l).code())
	for _, behind := range behinds(len(code)) {
		sameBits(t, "back", impl.RangeDecode(code+behind, contextsOf(l)), onesOf(l))
	}
}

func TestMaxContexts(t *testing.T) {
	is(t, "MaxContexts", impl.MaxContexts, 1600)
}

func TestCodesKnown(t *testing.T) {
	cases := []struct {
		l    []impl.Bit
		want string
	}{
		{nil, "\x00\x00\x00\x00"},
		{[]impl.Bit{}, "\x00\x00\x00\x00"},
		{[]impl.Bit{{One: false}}, "\x00\x00\x00\x00"},
		{[]impl.Bit{{One: true}}, "\x7f\xff\xfc\x00"},
		{[]impl.Bit{{Context: impl.MaxContexts - 1, One: true}}, "\x7f\xff\xfc\x00"},
		// Of one context the second bound is 1048576 times 992, of another one 1048576 times 1024.
		{[]impl.Bit{{One: true}, {One: true}}, "\xbd\xff\xfc\x00"},
		{[]impl.Bit{{One: true}, {Context: 1, One: true}}, "\xbf\xff\xfc\x00"},
		// Behind a bit that is not One the range is 2147482624, its part 1048575, the chance 1056 or still 1024.
		{[]impl.Bit{{One: false}, {One: true}}, "\x41\xff\xfb\xe0"},
		{[]impl.Bit{{One: false}, {Context: 1, One: true}}, "\x3f\xff\xfc\x00"},
	}
	for _, c := range cases {
		is(t, fmt.Sprint(c.l), impl.RangeEncode(c.l), c.want)
		sameBits(t, fmt.Sprint(c.l), impl.RangeDecode(c.want, contextsOf(c.l)), onesOf(c.l))
	}
}

// Promise 6, of ordinary lists and of the edges of their contexts and lengths.
func TestBitsComeBack(t *testing.T) {
	for _, l := range someBits() {
		bitsBack(t, l)
	}
}

// Promise 6, of each length up to MaxList.
func TestBitsOfEachLengthComeBack(t *testing.T) {
	r := rand.New(rand.NewSource(706))
	for many := range impl.MaxList + 1 {
		contexts := 1 + r.Intn(20)
		one := 1 + r.Intn(10)
		bitsBack(t, madeBits(many,
			func(int) int64 { return int64(r.Intn(contexts)) },
			func(int) bool { return r.Intn(10) < one }))
	}
}

// Promise 6, of each context that may be, beside its neighbour: no two have one chance.
func TestEachContextHasAChanceOfItsOwn(t *testing.T) {
	for context := range int64(impl.MaxContexts) {
		other := (context + 1) % impl.MaxContexts
		l := madeBits(60, always(context), valued(true))
		l = append(l, impl.Bit{Context: other, One: true}, impl.Bit{Context: context, One: false})
		code := impl.RangeEncode(l)
		is(t, "code", code, plainCoderOf(l).code())
		sameBits(t, "back", impl.RangeDecode(code, contextsOf(l)), onesOf(l))
	}
}

// Promise 6, where a chance stands as far down, and as far up, as it goes.
func TestChancesGoSoFar(t *testing.T) {
	for _, c := range []struct {
		one    bool
		chance int64
	}{{true, 31}, {false, 2017}} {
		l := madeBits(impl.MaxList-10, always(7), valued(c.one))
		is(t, "chance", plainCoderOf(l).chance(7), c.chance)
		is(t, "chance, and still", plainCoderOf(l[1:]).chance(7), c.chance)
		bitsBack(t, l)
		for range 10 {
			l = append(l, impl.Bit{Context: 7, One: !c.one})
			bitsBack(t, l)
		}
	}
}

// Promise 6, where the code carries over one byte 255 and over several; and what is met is told to be so.
func TestCodesThatCarry(t *testing.T) {
	seen := map[int]bool{}
	for i, l := range carryingBits() {
		p := plainCoderOf(l)
		for _, over := range p.carried {
			seen[over] = true
		}
		code := impl.RangeEncode(l)
		is(t, "code", code, p.code())
		behind := []string{"", "\x00", "\xff", strings.Repeat("\xff", 9), someText(int64(i), 20)}
		for _, b := range behind {
			sameBits(t, "back", impl.RangeDecode(code+b, contextsOf(l)), onesOf(l))
		}
	}
	for over := range 21 {
		is(t, fmt.Sprint("a carry over bytes 255: ", over), seen[over], true)
	}
}

func TestNoBits(t *testing.T) {
	is(t, "nil", impl.RangeEncode(nil), "\x00\x00\x00\x00")
	is(t, "empty", impl.RangeEncode([]impl.Bit{}), "\x00\x00\x00\x00")
	for _, text := range []string{"", "\x00\x00\x00\x00", "\xff", someText(707, impl.MaxBytes), someText(707, impl.MaxBytes+1)} {
		is(t, "nil", len(impl.RangeDecode(text, nil)), 0)
		is(t, "empty", len(impl.RangeDecode(text, []int64{})), 0)
	}
}

// Lists of one more than MaxList are refused, whatever they have.
func TestListsAtTheLimit(t *testing.T) {
	r := rand.New(rand.NewSource(708))
	for _, context := range contextWays(r) {
		for _, one := range oneWays(r) {
			l := madeBits(impl.MaxList+1, context, one)
			is(t, "one too many", impl.RangeEncode(l), "")
			is(t, "many too many", impl.RangeEncode(append(l, l...)), "")
			is(t, "none too many", impl.RangeEncode(l[:impl.MaxList]), plainCoderOf(l[:impl.MaxList]).code())
			code := impl.RangeEncode(l[:impl.MaxList])
			contexts := contextsOf(l)
			sameBits(t, "one too many", impl.RangeDecode(code, contexts), nil)
			sameBits(t, "many too many", impl.RangeDecode(code, append(contexts, contexts...)), nil)
			sameBits(t, "none too many", impl.RangeDecode(code, contexts[:impl.MaxList]), onesOf(l[:impl.MaxList]))
		}
	}
}

// A text that ends too early goes on with bytes 0.
func TestTextsThatEndTooEarly(t *testing.T) {
	for _, l := range someBits() {
		if len(l) != 40 && len(l) != impl.MaxList {
			continue
		}
		code, contexts := impl.RangeEncode(l), contextsOf(l)
		for _, many := range []int{0, 1, 2, 3, 4, 5, len(code) / 2, len(code) - 5, len(code) - 4, len(code) - 3, len(code) - 2, len(code) - 1} {
			if many < 0 || many > len(code) {
				continue
			}
			early := code[:many]
			got := impl.RangeDecode(early, contexts)
			sameBits(t, "early", got, plainDecode(early, contexts))
			sameBits(t, "filled up", impl.RangeDecode(early+strings.Repeat("\x00", 500), contexts), got)
		}
	}
}

func TestNoughtsAtTheEndMayGo(t *testing.T) {
	for _, l := range someBits() {
		short := strings.TrimRight(impl.RangeEncode(l), "\x00")
		sameBits(t, "back", impl.RangeDecode(short, contextsOf(l)), onesOf(l))
	}
}

// Of the empty text no bit is One: x is 0, and no bound is.
func TestTheEmptyText(t *testing.T) {
	for _, l := range someBits() {
		sameBits(t, "empty", impl.RangeDecode("", contextsOf(l)), make([]bool, len(l)))
	}
}

// wrapping has texts whose x begins as great as the range, then outgrows it by the number that the bytes behind make:
// where that comes close below 2^64, x is within the range again.
func wrapping() []string {
	var out []string
	for _, highest := range []byte{0x3f, 0x7f, 0xfe, 0xff} {
		for low := 0; low < 256; low += 5 {
			front := "\xff\xff\xff\xff" + string([]byte{highest}) + "\xff\xff\xff" + string([]byte{byte(low)})
			out = append(out, front, front+someText(int64(low), 40))
		}
	}
	return out
}

// noCodes has texts that nothing was coded to: of some of them x outgrows the range, and its 64 bits.
func noCodes() []string {
	out := []string{
		"\xff\xff\xff\xff", "\xff\xff\xff\xfe", "\xff\xff\xff\xff\x00\x00\x00\x00", "\xff\xff\xff\xfe\xff", "\x80", "\x7f\xff\xfc", "\x7f\xff\xfb\xff",
	}
	for _, many := range []int{4, 5, 12, 13, 100, 404, 405, impl.MaxBytes - 1, impl.MaxBytes} {
		out = append(out, strings.Repeat("\xff", many), strings.Repeat("\x00", many), someText(int64(many), many), "\xff\xff\xff\xff"+someText(709, many-4))
	}
	return out
}

func TestTextsThatAreNoCode(t *testing.T) {
	r := rand.New(rand.NewSource(710))
	for _, text := range append(noCodes(), wrapping()...) {
		for _, context := range contextWays(r) {
			contexts := contextsOf(madeBits(impl.MaxList, context, valued(false)))
			want := plainDecode(text, contexts)
			sameBits(t, "decoded", impl.RangeDecode(text, contexts), want)
			sameBits(t, "decoded, fewer", impl.RangeDecode(text, contexts[:90]), want[:90])
		}
	}
}

// Promise 6, of the bits that any text happens to tell.
func TestWhatIsDecodedComesBack(t *testing.T) {
	r := rand.New(rand.NewSource(711))
	for seed := range int64(200) {
		contexts := contextsOf(madeBits(r.Intn(impl.MaxList+1), func(int) int64 { return int64(r.Intn(9)) }, valued(false)))
		ones := impl.RangeDecode(someText(seed, r.Intn(100)), contexts)
		bitsBack(t, madeBits(len(contexts), func(i int) int64 { return contexts[i] }, func(i int) bool { return ones[i] }))
	}
}

func TestTextsAtTheLimit(t *testing.T) {
	l := madeBits(100, func(i int) int64 { return int64(i % 5) }, func(i int) bool { return i%3 == 0 })
	code, contexts := impl.RangeEncode(l), contextsOf(l)
	for _, more := range []int{0, 1, 2, impl.MaxBytes} {
		for _, fill := range []string{"\x00", "\xff", "a"} {
			text := code + strings.Repeat(fill, impl.MaxBytes-len(code)+more)
			want := onesOf(l)
			if more > 0 {
				want = nil
			}
			sameBits(t, fmt.Sprint(more, " too long"), impl.RangeDecode(text, contexts), want)
			sameBits(t, fmt.Sprint(more, " too long, of one bit"), impl.RangeDecode(text, contexts[:1]), want[:min(1, len(want))])
		}
	}
}

func wrongContexts() []int64 {
	return []int64{
		-1, impl.MaxContexts, -2, impl.MaxContexts + 1, -impl.MaxContexts, 2 * impl.MaxContexts, 1 << 16, 1 << 31, 1 << 32, 1<<32 + 1, -1 << 32, 1 - 1<<32,
		math.MaxInt64, math.MaxInt64 - 1, math.MinInt64, math.MinInt64 + 1, math.MinInt64 + 5,
	}
}

// A wrong context is refused wherever it stands, with all that is right beside it.
func TestWrongContextsAreRefused(t *testing.T) {
	for _, wrong := range wrongContexts() {
		for _, many := range []int{1, 2, 3, 100, impl.MaxList} {
			for _, at := range []int{0, many / 2, many - 1} {
				for _, one := range []bool{false, true} {
					l := madeBits(many, func(i int) int64 { return int64(i * 4 % impl.MaxContexts) }, valued(one))
					code := impl.RangeEncode(l)
					l[at].Context = wrong
					is(t, fmt.Sprint(wrong, " at ", at), impl.RangeEncode(l), "")
					for _, text := range []string{"", code, someText(712, impl.MaxBytes), someText(712, impl.MaxBytes+1)} {
						sameBits(t, fmt.Sprint(wrong, " at ", at), impl.RangeDecode(text, contextsOf(l)), nil)
					}
				}
			}
		}
		long := madeBits(impl.MaxList+1, always(wrong), valued(true))
		is(t, "wrong and too many", impl.RangeEncode(long), "")
		sameBits(t, "wrong and too many", impl.RangeDecode("", contextsOf(long)), nil)
	}
}

func TestBitsAreLeftAndNothingIsKept(t *testing.T) {
	l := madeBits(200, func(i int) int64 { return int64(i % 3) }, func(i int) bool { return i%5 < 2 })
	given, contexts := slices.Clone(l), contextsOf(l)
	code := impl.RangeEncode(l)
	first := impl.RangeDecode(code, contexts)
	second := impl.RangeDecode(code, contexts)
	for i := range first {
		first[i] = !first[i]
	}
	sameBits(t, "an answer of its own", second, onesOf(l))
	impl.RangeEncode(madeBits(300, always(0), valued(true)))
	impl.RangeDecode(someText(713, 300), contexts)
	is(t, "code, again", impl.RangeEncode(l), code)
	sameBits(t, "bits, again", impl.RangeDecode(code, contexts), onesOf(l))
	is(t, "bits as they were", slices.Equal(l, given), true)
	is(t, "contexts as they were", slices.Equal(contexts, contextsOf(given)), true)
}
