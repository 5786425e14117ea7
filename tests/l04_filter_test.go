package tests

import (
	"math"
	"math/rand"
	"strings"
	"testing"

	"loop.example/g00320/impl"
)

// differByPlaces is Differ as the chapter says it: against the text.
func differByPlaces(text string, far int) string {
	out := make([]byte, len(text))
	for i := range out {
		ahead := 0
		if i >= far {
			ahead = int(text[i-far])
		}
		out[i] = byte((int(text[i]) - ahead + 256) % 256)
	}
	return string(out)
}

// sumByPlaces is Sum as the chapter says it: against what is told.
func sumByPlaces(text string, far int) string {
	out := make([]byte, len(text))
	for i := range out {
		ahead := 0
		if i >= far {
			ahead = int(out[i-far])
		}
		out[i] = byte((int(text[i]) + ahead) % 256)
	}
	return string(out)
}

func someFars() []int {
	return []int{1, 2, 3, 4, 7, 16, 63, 64, 65, 127, 128, 129, 254, 255, 256}
}

func noFars() []int64 {
	return []int64{
		0, 257, -1, -2, 258, 511, 512, 513, -255, -256, -257, 65536, 1 << 31, 1 << 32, 1<<32 + 1, 1<<32 + 256, -1 << 32, 1 - 1<<32,
		math.MaxInt64, math.MaxInt64 - 1, math.MinInt64, math.MinInt64 + 1, math.MinInt64 + 256,
	}
}

// farLengths has the lengths round far and twice far, and those at the limit.
func farLengths(far int) []int {
	return []int{0, 1, far - 1, far, far + 1, 2*far - 1, 2 * far, 2*far + 1, 3 * far, 3*far + 1, 1000, impl.MaxBytes - 1, impl.MaxBytes}
}

// filterTexts has texts of that length: of any bytes, all alike, and 0 and 255 beside one another.
func filterTexts(many int) []string {
	whole := func(piece string) string {
		return strings.Repeat(piece, many/len(piece)+1)[:many]
	}
	return []string{
		someText(int64(500+many), many), whole("\x00"), whole("\x01"), whole("\x80"), whole("\xff"),
		whole("\x00\xff"), whole("\xff\x00"), whole("\x00\x00\xff\xff"), whole("\xff\x01\x80\x7f\x00"), whole("abcd"),
	}
}

// filterCase is a text, and what it makes with that far; what it makes comes back as the text, the other way.
type filterCase struct {
	text string
	far  int64
	want string
}

func TestDifferKnown(t *testing.T) {
	cases := []filterCase{
		{"", 1, ""},
		{"", 256, ""},
		{"a", 1, "a"},
		{"a", 2, "a"},
		{"a", 256, "a"},
		{"\x00", 1, "\x00"},
		{"\xff", 1, "\xff"},
		{"abcd", 1, "a\x01\x01\x01"},
		{"dcba", 1, "d\xff\xff\xff"},
		{"abab", 2, "ab\x00\x00"},
		{"abab", 3, "aba\x01"},
		{"abab", 4, "abab"},
		{"abab", 5, "abab"},
		{"\x00\xff\x00\xff", 1, "\x00\xff\x01\xff"},
		{"\xff\x00\xff\x00", 1, "\xff\x01\xff\x01"},
		{"\xff\xff\xff\xff", 1, "\xff\x00\x00\x00"},
		{"\x00\x80\x00", 1, "\x00\x80\x80"},
		{"\x00\xff\xff\x00", 2, "\x00\xff\xff\x01"},
	}
	for _, c := range cases {
		is(t, c.text, impl.Differ(c.text, c.far), c.want)
		is(t, c.want, impl.Sum(c.want, c.far), c.text)
	}
}

func TestSumKnown(t *testing.T) {
	cases := []filterCase{
		{"\x01\x01\x01\x01", 1, "\x01\x02\x03\x04"},
		{"\x01\x01\x01\x01\x01", 2, "\x01\x01\x02\x02\x03"},
		{"\xff\xff\xff", 1, "\xff\xfe\xfd"},
		{"\x00\xff\x00\xff", 1, "\x00\xff\xff\xfe"},
		{"\xff\x00\xff\x00", 1, "\xff\xff\xfe\xfe"},
		{"\x80\x80\x80", 1, "\x80\x00\x80"},
		{"\xff\x01", 1, "\xff\x00"},
		{"\xff\x01", 2, "\xff\x01"},
	}
	for _, c := range cases {
		is(t, c.text, impl.Sum(c.text, c.far), c.want)
		is(t, c.want, impl.Differ(c.want, c.far), c.text)
	}
}

// comeBack asks of one text and far what promise 5 says, and both ways byte by byte.
func comeBack(t *testing.T, text string, far int) {
	t.Helper()
	differences, sums := impl.Differ(text, int64(far)), impl.Sum(text, int64(far))
	is(t, "differences", differences, differByPlaces(text, far))
	is(t, "sums", sums, sumByPlaces(text, far))
	is(t, "differences, summed up", impl.Sum(differences, int64(far)), text)
	is(t, "sums, with differences taken", impl.Differ(sums, int64(far)), text)
}

// Promise 5, at the edges of far, of lengths and of bytes.
func TestDifferencesAndSumsComeBack(t *testing.T) {
	for _, far := range someFars() {
		for _, many := range farLengths(far) {
			for _, text := range filterTexts(many) {
				comeBack(t, text, far)
			}
		}
	}
}

// Promise 5, of each far that may be.
func TestDifferencesAndSumsOfEachFar(t *testing.T) {
	r := rand.New(rand.NewSource(501))
	for far := 1; far <= 256; far++ {
		text := someText(int64(far), r.Intn(4*far))
		comeBack(t, text, far)
	}
}

// Each byte meets each other one: below 0 and above 255 there are bytes again.
func TestEachTwoBytesMeet(t *testing.T) {
	for ahead := range 256 {
		for b := range 256 {
			text := string([]byte{byte(ahead), 7, byte(b)})
			is(t, "difference", impl.Differ(text, 2), string([]byte{byte(ahead), 7, byte((256 + b - ahead) % 256)}))
			is(t, "sum", impl.Sum(text, 2), string([]byte{byte(ahead), 7, byte((b + ahead) % 256)}))
		}
	}
}

// As far as none stands ahead, a text stays as it is.
func TestShortTextsStay(t *testing.T) {
	for _, far := range someFars() {
		text := someText(int64(600+far), far)
		is(t, "Differ", impl.Differ(text, int64(far)), text)
		is(t, "Sum", impl.Sum(text, int64(far)), text)
	}
}

func TestNoFarIsRefused(t *testing.T) {
	long := someText(602, impl.MaxBytes)
	for _, far := range noFars() {
		for _, text := range []string{"", "a", "abab", long[:256], long[:257], long[:600], long} {
			is(t, "Differ", impl.Differ(text, far), "")
			is(t, "Sum", impl.Sum(text, far), "")
		}
	}
}

func TestTooLongIsRefused(t *testing.T) {
	fars := append(noFars(), 1, 2, 128, 255, 256)
	for _, many := range []int{impl.MaxBytes + 1, impl.MaxBytes + 256, 2 * impl.MaxBytes, 1 << 20} {
		text := someText(int64(many), many)
		for _, far := range fars {
			is(t, "Differ", impl.Differ(text, far), "")
			is(t, "Sum", impl.Sum(text, far), "")
		}
	}
}

func TestFiltersKeepNothingAndShareNothing(t *testing.T) {
	text := someText(603, 200)
	for _, far := range []int64{1, 200, 256} {
		differences, sums := impl.Differ(text, far), impl.Sum(text, far)
		is(t, "Differ, new memory", within(text, differences), false)
		is(t, "Sum, new memory", within(text, sums), false)
		impl.Differ(someText(604, 300), far)
		impl.Sum(someText(605, 300), far)
		is(t, "Differ, again", impl.Differ(text, far), differences)
		is(t, "Sum, again", impl.Sum(text, far), sums)
	}
	is(t, "as it was", text, someText(603, 200))
}
