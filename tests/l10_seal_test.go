package tests

import (
	"encoding/binary"
	"fmt"
	"math"
	"strings"
	"testing"

	"loop.example/g00320/impl"
)

const mostId = 2000000

func plainKeys(pass string) impl.Keys {
	key := hmacOf(pass, hmacOf(pass, hmacOf(pass, "salt")))
	return impl.Keys{Hide: hmacOf(key, "hide")[:16], Mark: hmacOf(key, "mark")}
}

func plainNumText(n int64) string {
	return string(binary.AppendVarint(nil, n))
}

// forged puts behind a body, whatever it is, the mac that it should have.
func forged(k impl.Keys, body string) string {
	return body + hmacOf(k.Mark, body)[:16]
}

func plainDiffered(text string, far int64) string {
	if far == 0 {
		return text
	}
	return differByPlaces(text, int(far))
}

// bodyOf has the two numbers, and what is hidden behind them, whether Pack makes it or not.
func bodyOf(t *testing.T, k impl.Keys, id, far int64, packed string) string {
	t.Helper()
	return plainNumText(id) + plainNumText(far) + ctrOf(t, k.Hide, id, packed)
}

func plainSeal(t *testing.T, k impl.Keys, id, far int64, text string) string {
	t.Helper()
	return forged(k, bodyOf(t, k, id, far, plainPack(plainDiffered(text, far))))
}

// plainFront tells the number in front, and what is behind it, if it has as few bytes as may be.
func plainFront(text string) (int64, string, bool) {
	n, many := binary.Varint([]byte(text))
	if many <= 0 || plainNumText(n) != text[:many] {
		return 0, "", false
	}
	return n, text[many:], true
}

// plainOpen is BlockOpen as the chapter says it.
func plainOpen(t *testing.T, k impl.Keys, id int64, block string) impl.TextOut {
	t.Helper()
	switch {
	case len(block) > 20000:
		return impl.TextOut{Code: impl.ErrSize}
	case len(k.Hide) != 16 || len(k.Mark) != 32 || id < 0 || id > mostId:
		return impl.TextOut{Code: impl.ErrForm}
	case len(block) < 18:
		return impl.TextOut{Code: impl.ErrShort}
	case forged(k, block[:len(block)-16]) != block:
		return impl.TextOut{Code: impl.ErrKey}
	}
	first, rest, ok := plainFront(block[:len(block)-16])
	far, hidden, okFar := plainFront(rest)
	if !ok || !okFar || first != id || far < 0 || far > 256 {
		return impl.TextOut{Code: impl.ErrSum}
	}
	out := plainUnpack(ctrOf(t, k.Hide, id, hidden))
	if out.Code == impl.OK && far > 0 {
		out.Text = sumByPlaces(out.Text, int(far))
	}
	return out
}

func opensAs(t *testing.T, what string, k impl.Keys, id int64, block string, code int64) {
	t.Helper()
	want := impl.TextOut{Code: code}
	is(t, what, impl.BlockOpen(k, id, block), want)
	is(t, what+", by the chapter's words", plainOpen(t, k, id, block), want)
}

// sealBack asks of one text what promise 11 says of its own id, and its block byte by byte.
func sealBack(t *testing.T, k impl.Keys, id, far int64, text string) string {
	t.Helper()
	what := fmt.Sprintf("%d bytes, id %d, far %d", len(text), id, far)
	block := impl.BlockSeal(k, id, far, text)
	is(t, what+", sealed", block, plainSeal(t, k, id, far, text))
	is(t, what+", opened", impl.BlockOpen(k, id, block), impl.TextOut{Text: text})
	return block
}

func sealKeys() impl.Keys {
	return plainKeys("pass")
}

// blockIds go about the numbers where one byte more is needed, and the ids of blocks and catalogs.
func blockIds() []int64 {
	return []int64{0, 1, 2, 63, 64, 65, 127, 128, 129, 8191, 8192, 8193, 16384, 899999, 900000, 1000001, 1048575, 1048576, 1900000, 1999999, mostId}
}

func wrongIds() []int64 {
	return []int64{-1, -2, -128, mostId + 1, mostId + 2, 1 << 31, 1 << 32, 1<<32 + 1, 1<<32 - 1, math.MaxInt64, math.MaxInt64 - 1, math.MinInt32, math.MinInt64 + 1, math.MinInt64}
}

// sealTexts has texts that are squeezed well and texts that are not.
func sealTexts() []string {
	return []string{
		"", "a", "\x00", "\xff", "ab", "aaaa", "some text", "a text, a text, a text, and again a text", strange(70), strings.Repeat("\x00", 300),
		strings.Repeat("ab\xff", 100), someText(1300, 500), fewBytes(1301, 700, 2), quoting(1302, 900),
	}
}

func longTexts() []string {
	return []string{
		someText(1303, mostParsed), strings.Repeat("a", mostParsed), strings.Repeat("\x00", mostParsed), strings.Repeat("\xff", mostParsed-1),
		quoting(1304, mostParsed), fewBytes(1305, mostParsed-1, 3), strange(3999),
	}
}

func TestKeysKnown(t *testing.T) {
	for _, c := range []struct{ pass, hide, mark string }{
		{"", "401a65d8dfe4a9010530aac55efe6606", "d2ad11594361db5655c3ea82818adc901a3e9078b8d139755923937ab12ab458"},
		{"pass", "d0033b993d9b11f07e7ad95fba3fc2f8", "be83a2ce5a9fead3a4729d69c3ed737441dce90e7de3da4990e9b813afc15a9c"},
		{"desk", "b3cc3915087ef6d28073c075da9f5b5b", "e0767c1e7c9437fc4c5f490b5cf6f3e3a8be3beaea42830a44e1ab585cd4e1f9"},
		{strings.Repeat("x", 65), "b3f96d875a2480b12ad9e2ab3c8b301f", "8f914c675f89dcc8e2f0e60a8a14bb6c7314275aa12c1dedb9ae3d343c3eefbf"},
	} {
		want := impl.Keys{Hide: fromHex(t, c.hide), Mark: fromHex(t, c.mark)}
		is(t, c.pass, impl.KeysOf(c.pass), want)
		is(t, c.pass+", by the library", plainKeys(c.pass), want)
	}
}

func TestKeysOfManyPasses(t *testing.T) {
	seen := map[impl.Keys]string{}
	for _, pass := range append(somePasses(), "hide", "mark", "Pass", "pass ", "pas", someText(1306, impl.MaxBytes-1)) {
		k := impl.KeysOf(pass)
		is(t, pass, k, plainKeys(pass))
		is(t, pass+", right", impl.KeysRight(k), true)
		seen[k] = pass
	}
	is(t, "no two alike", len(seen), len(somePasses())+6)
}

func TestKeysOfPassesAtTheLimit(t *testing.T) {
	long := someText(1307, 3*impl.MaxBytes)
	for _, many := range []int{impl.MaxBytes - 1, impl.MaxBytes} {
		is(t, fmt.Sprint(many), impl.KeysOf(long[:many]), plainKeys(long[:many]))
	}
	for _, many := range []int{impl.MaxBytes + 1, impl.MaxBytes + 2, 2 * impl.MaxBytes, 3 * impl.MaxBytes} {
		is(t, fmt.Sprint(many), impl.KeysOf(long[:many]), impl.Keys{})
	}
}

func TestKeysRight(t *testing.T) {
	for _, hide := range []int{0, 1, 15, 16, 17, 31, 32, 33, 272, impl.MaxBytes, impl.MaxBytes + 1} {
		for _, mark := range []int{0, 1, 15, 16, 17, 31, 32, 33, 288, impl.MaxBytes, impl.MaxBytes + 1} {
			k := impl.Keys{Hide: someText(1308, hide), Mark: someText(1309, mark)}
			is(t, fmt.Sprint(hide, " and ", mark), impl.KeysRight(k), hide == 16 && mark == 32)
		}
	}
	is(t, "bytes 0", impl.KeysRight(impl.Keys{Hide: blank[:16], Mark: blank[:32]}), true)
	is(t, "bytes 255", impl.KeysRight(impl.Keys{Hide: strings.Repeat("\xff", 16), Mark: strings.Repeat("\xff", 32)}), true)
}

// wrongKeys are of one byte fewer and one more, the two taken for one another, and none.
func wrongKeys() []impl.Keys {
	k, long := sealKeys(), someText(1310, impl.MaxBytes+1)
	return []impl.Keys{
		{}, {Hide: k.Hide}, {Mark: k.Mark}, {Hide: k.Mark, Mark: k.Hide}, {Hide: k.Hide, Mark: k.Hide}, {Hide: k.Mark, Mark: k.Mark},
		{Hide: k.Hide[:15], Mark: k.Mark}, {Hide: k.Hide + "x", Mark: k.Mark}, {Hide: k.Hide, Mark: k.Mark[:31]}, {Hide: k.Hide, Mark: k.Mark + "\x00"},
		{Hide: k.Hide[:15], Mark: k.Mark + "x"}, {Hide: long, Mark: k.Mark}, {Hide: k.Hide, Mark: long}, {Hide: long, Mark: long},
	}
}

// Promise 11, of a block's own id.
func TestSealedBlocksAreOpened(t *testing.T) {
	k := sealKeys()
	for _, text := range sealTexts() {
		for _, id := range []int64{0, 1, 127, 128, mostId} {
			for _, far := range []int64{0, 1, 2, 63, 64, 256} {
				sealBack(t, k, id, far, text)
			}
		}
	}
	for i, text := range longTexts() {
		for _, far := range []int64{0, 1, 256} {
			sealBack(t, k, blockIds()[3*i], far, text)
		}
	}
}

func TestBlocksOfEachIdAndFarAreOpened(t *testing.T) {
	text := quoting(1311, 300)
	for _, id := range blockIds() {
		sealBack(t, sealKeys(), id, 0, text)
		sealBack(t, sealKeys(), id, 4, text)
	}
	for far := range int64(257) {
		sealBack(t, sealKeys(), 9, far, text)
	}
	for many := range 70 {
		sealBack(t, sealKeys(), int64(many), int64(many%7), someText(int64(1312+many), many))
	}
}

func TestBlocksUnderManyKeys(t *testing.T) {
	text := "a text, a text"
	for _, pass := range append(somePasses(), "hide", "mark") {
		sealBack(t, impl.KeysOf(pass), 7, 0, text)
		sealBack(t, impl.KeysOf(pass), 7, 3, text)
	}
	for _, fill := range []string{"\x00", "\xff"} {
		sealBack(t, impl.Keys{Hide: strings.Repeat(fill, 16), Mark: strings.Repeat(fill, 32)}, 7, 1, text)
	}
}

// What is shown is neither the text nor what it is squeezed to, and other in every block.
func TestBlocksAreHidden(t *testing.T) {
	k := sealKeys()
	text := strange(200)
	first, second := impl.BlockSeal(k, 5, 0, text), impl.BlockSeal(k, 6, 0, text)
	is(t, "as long", len(first), 2+len(impl.Pack(text))+16)
	is(t, "squeezed", strings.Contains(first, impl.Pack(text)), false)
	is(t, "other under another id", first[2:len(first)-16] == second[2:len(second)-16], false)
	other := impl.BlockSeal(impl.KeysOf("other"), 5, 0, text)
	is(t, "other under another pass", first[2:len(first)-16] == other[2:len(other)-16], false)
	is(t, "differences", len(impl.BlockSeal(k, 5, 1, numbered(1000))) < len(impl.BlockSeal(k, 5, 0, numbered(1000))), true)
}

// numbered rises by one from byte to byte, but for a long round.
func numbered(many int) string {
	out := make([]byte, many)
	for i := range out {
		out[i] = byte(i + i/256*7)
	}
	return string(out)
}

// Promise 11, of other ids.
func TestBlocksAreOpenedUnderTheirIdAlone(t *testing.T) {
	k := sealKeys()
	for _, id := range blockIds() {
		for _, far := range []int64{0, 1} {
			block := impl.BlockSeal(k, id, far, "some text")
			for _, other := range append(blockIds(), id+1, id-1, id^1, id^128, id/2, id+256) {
				if other != id && other >= 0 && other <= mostId {
					opensAs(t, fmt.Sprint(id, " under ", other), k, other, block, impl.ErrSum)
				}
			}
			for _, other := range append(wrongIds(), id+1<<32, id-1<<32, id+1<<62, -id-1) {
				opensAs(t, fmt.Sprint(id, " under ", other), k, other, block, impl.ErrForm)
			}
		}
	}
}

func TestEachIdBelowSomeIsAnotherOne(t *testing.T) {
	k := sealKeys()
	for _, id := range []int64{0, 5, 64, 299} {
		block := impl.BlockSeal(k, id, 2, "x")
		for other := range int64(300) {
			is(t, fmt.Sprint(id, " under ", other), impl.BlockOpen(k, other, block).Code == impl.OK, other == id)
		}
	}
}

func TestBlocksUnderOtherKeys(t *testing.T) {
	k, other := sealKeys(), plainKeys("other")
	for _, text := range append(sealTexts(), longTexts()[0]) {
		for _, far := range []int64{0, 1, 256} {
			block := impl.BlockSeal(k, 7, far, text)
			opensAs(t, "of another pass", other, 7, block, impl.ErrKey)
			opensAs(t, "Mark of another pass", impl.Keys{Hide: k.Hide, Mark: other.Mark}, 7, block, impl.ErrKey)
			opensAs(t, "of another pass, another id", other, 8, block, impl.ErrKey)
			// The mac is right, so what is found is looked at: it is not what was squeezed.
			half := impl.Keys{Hide: other.Hide, Mark: k.Mark}
			out := impl.BlockOpen(half, 7, block)
			is(t, "Hide of another pass", out, plainOpen(t, half, 7, block))
			is(t, "Hide of another pass, not as it was", out.Code == impl.OK && out.Text == text, false)
		}
	}
	for i := range 32 {
		b := []byte(k.Mark)
		b[i] ^= 1 << (i % 8)
		opensAs(t, "Mark with a byte turned", impl.Keys{Hide: k.Hide, Mark: string(b)}, 7, impl.BlockSeal(k, 7, 0, "text"), impl.ErrKey)
	}
}

// turnedEach asks of every byte of a block, turned, what promise 11 says.
func turnedEach(t *testing.T, k impl.Keys, id int64, block string, turns []byte) {
	t.Helper()
	b := []byte(block)
	for i := range b {
		for _, turn := range turns {
			b[i] ^= turn
			is(t, fmt.Sprint("byte ", i, " of ", len(b)), impl.BlockOpen(k, id, string(b)), impl.TextOut{Code: impl.ErrKey})
			b[i] ^= turn
		}
	}
	is(t, "turned back", impl.BlockOpen(k, id, string(b)).Code, impl.OK)
}

// Promise 11, of a byte turned, each of them in every way.
func TestBlocksWithAByteTurnedAreRefused(t *testing.T) {
	var all []byte
	for turn := 1; turn < 256; turn++ {
		all = append(all, byte(turn))
	}
	k := sealKeys()
	for _, id := range []int64{0, 1, 127, 128, mostId} {
		for _, far := range []int64{0, 1, 256} {
			for _, text := range []string{"", "a", "some text"} {
				turnedEach(t, k, id, impl.BlockSeal(k, id, far, text), all)
			}
		}
	}
}

func TestLongBlocksWithAByteTurnedAreRefused(t *testing.T) {
	k := sealKeys()
	for _, text := range sealTexts() {
		turnedEach(t, k, 300, impl.BlockSeal(k, 300, 1, text), []byte{1, 2, 4, 8, 16, 32, 64, 128, 255})
	}
	turnedEach(t, k, mostId, impl.BlockSeal(k, mostId, 256, longTexts()[0]), []byte{128})
	turnedEach(t, k, 0, impl.BlockSeal(k, 0, 0, longTexts()[1]), []byte{1, 255})
}

func TestBlocksCutOrDrawnOut(t *testing.T) {
	k := sealKeys()
	for _, text := range []string{"", "a", "some text", strange(40)} {
		block := impl.BlockSeal(k, 7, 1, text)
		for many := range len(block) {
			code := int64(impl.ErrKey)
			if many < 18 {
				code = impl.ErrShort
			}
			opensAs(t, "cut off", k, 7, block[:many], code)
			opensAs(t, "cut off ahead", k, 7, block[len(block)-many:], code)
		}
		for _, more := range []string{"\x00", "x", "\xff", block, someText(1390, impl.MaxBytes-len(block))} {
			opensAs(t, "more behind", k, 7, block+more, impl.ErrKey)
			opensAs(t, "more ahead", k, 7, more+block, impl.ErrKey)
		}
		for i := range len(block) {
			opensAs(t, "a byte less", k, 7, block[:i]+block[i+1:], impl.ErrKey)
			opensAs(t, "a byte more", k, 7, block[:i]+"\x55"+block[i:], impl.ErrKey)
		}
		opensAs(t, "the mac ahead", k, 7, block[len(block)-16:]+block[:len(block)-16], impl.ErrKey)
	}
}

// The last 16 bytes are the first 16 of the mac: no others of it, and no mac of another key or text.
func TestOtherMacs(t *testing.T) {
	k := sealKeys()
	body := bodyOf(t, k, 7, 0, impl.Pack("some text"))
	mac := hmacOf(k.Mark, body)
	is(t, "its first half", impl.BlockOpen(k, 7, body+mac[:16]), impl.TextOut{Text: "some text"})
	for what, last := range map[string]string{
		"its second half": mac[16:], "its middle": mac[8:24], "all of it": mac, "of Hide": hmacOf(k.Hide, body)[:16], "a digest": shaOf(body)[:16],
		"of the key's place": hmacOf(body, k.Mark)[:16], "of what is behind the id": hmacOf(k.Mark, body[1:])[:16], "bytes 0": blank[:16],
		"of what is shown": hmacOf(k.Mark, plainNumText(7)+plainNumText(0)+impl.Pack("some text"))[:16], "of the text": hmacOf(k.Mark, "some text")[:16],
	} {
		opensAs(t, what, k, 7, body+last, impl.ErrKey)
	}
}

func TestBlockSealRefuses(t *testing.T) {
	k := sealKeys()
	long := someText(1320, impl.MaxBytes+1)
	for _, id := range wrongIds() {
		for _, far := range []int64{-1, 0, 1, 256, 257} {
			is(t, fmt.Sprint("id ", id), impl.BlockSeal(k, id, far, "text"), "")
			is(t, fmt.Sprint("id ", id, ", no text"), impl.BlockSeal(k, id, far, ""), "")
		}
	}
	for _, far := range noFars() {
		for _, id := range []int64{-1, 0, 7, mostId, mostId + 1} {
			if far != 0 {
				is(t, fmt.Sprint("far ", far), impl.BlockSeal(k, id, far, "text"), "")
				is(t, fmt.Sprint("far ", far, ", no text"), impl.BlockSeal(k, id, far, ""), "")
			}
		}
	}
	for _, many := range []int{mostParsed + 1, mostParsed + 2, 2 * mostParsed, impl.MaxBytes, impl.MaxBytes + 1} {
		for _, far := range []int64{0, 1, 256} {
			is(t, fmt.Sprint(many, " bytes"), impl.BlockSeal(k, 7, far, long[:many]), "")
		}
	}
	for i, wrong := range wrongKeys() {
		for _, text := range []string{"", "text", long[:mostParsed], long} {
			is(t, fmt.Sprint("keys ", i), impl.BlockSeal(wrong, 7, 0, text), "")
			is(t, fmt.Sprint("keys ", i), impl.BlockSeal(wrong, 7, 1, text), "")
		}
	}
}

func TestBlockOpenOfWrongKeysAndIds(t *testing.T) {
	k := sealKeys()
	block := impl.BlockSeal(k, 7, 0, "text")
	for i, wrong := range wrongKeys() {
		for _, id := range []int64{-1, 0, 7, 8, mostId, mostId + 1} {
			// Also where the mac is that of the Mark that is not right.
			for _, b := range []string{block, "", block[:17], block + "x", forged(wrong, block[:len(block)-16]), forged(wrong, "\x0e"), forged(wrong, "\x0e\x00")} {
				opensAs(t, fmt.Sprint("keys ", i), wrong, id, b, impl.ErrForm)
			}
		}
	}
	for _, id := range wrongIds() {
		for _, b := range []string{block, "", block[:17], block + "x", forged(k, bodyOf(t, k, id, 0, impl.Pack("text")))} {
			opensAs(t, fmt.Sprint("id ", id), k, id, b, impl.ErrForm)
		}
	}
}

func TestBlocksTooShort(t *testing.T) {
	k := sealKeys()
	for many := range 18 {
		for _, fill := range []string{"\x00", "\x0e", "\xff"} {
			opensAs(t, fmt.Sprint(many), k, 7, strings.Repeat(fill, many), impl.ErrShort)
		}
	}
	// The mac is right, but there is no place for two numbers ahead of it.
	opensAs(t, "17, its mac", k, 7, forged(k, "\x0e"), impl.ErrShort)
	opensAs(t, "16, its mac", k, 7, forged(k, ""), impl.ErrShort)
	opensAs(t, "18, not its mac", k, 7, strings.Repeat("\x00", 18), impl.ErrKey)
	opensAs(t, "18, numbers and nothing behind them", k, 7, forged(k, "\x0e\x00"), impl.ErrSyntax)
	opensAs(t, "18, differences of nothing", k, 7, forged(k, "\x0e\x02"), impl.ErrSyntax)
	opensAs(t, "18, another id", k, 7, forged(k, "\x10\x00"), impl.ErrSum)
	opensAs(t, "18, far -1", k, 7, forged(k, "\x0e\x01"), impl.ErrSum)
}

func TestForgedBlocksOfAnotherId(t *testing.T) {
	k := sealKeys()
	packed := impl.Pack("some text")
	for _, id := range blockIds() {
		for _, front := range append(append(blockIds(), wrongIds()...), -id, -id-1, id+1, id-1, id+1<<32, id+1<<56, id|math.MinInt64) {
			if front == id {
				continue
			}
			// Hidden as under the id that is asked for: the number in front alone is another one.
			body := plainNumText(front) + plainNumText(0) + ctrOf(t, k.Hide, id, packed)
			opensAs(t, fmt.Sprint(front, " in front of ", id), k, id, forged(k, body), impl.ErrSum)
		}
		body := plainNumText(0) + plainNumText(id) + ctrOf(t, k.Hide, id, packed)
		if id > 0 {
			opensAs(t, "the numbers turned about", k, id, forged(k, body), impl.ErrSum)
		}
	}
}

func TestForgedBlocksOfAnotherFar(t *testing.T) {
	k := sealKeys()
	for _, id := range []int64{0, 7, 128, mostId} {
		for _, far := range noFars() {
			if far == 0 {
				continue
			}
			for _, packed := range []string{impl.Pack("some text"), impl.Pack(""), "", "\x80"} {
				opensAs(t, fmt.Sprint("far ", far), k, id, forged(k, bodyOf(t, k, id, far, packed)), impl.ErrSum)
			}
		}
		// Each far that may be is taken, whatever it was sealed with.
		for _, far := range []int64{0, 1, 2, 63, 64, 127, 128, 255, 256} {
			block := forged(k, bodyOf(t, k, id, far, impl.Pack("aaaabbbb")))
			text := "aaaabbbb"
			if far > 0 {
				text = sumByPlaces(text, int(far))
			}
			is(t, fmt.Sprint("far ", far), impl.BlockOpen(k, id, block), impl.TextOut{Text: text})
			is(t, fmt.Sprint("far ", far), impl.BlockSeal(k, id, far, text), block)
		}
	}
}

// drawnOut has the number in each count of bytes above the one that it needs.
func drawnOut(n int64) []string {
	var out []string
	p := []byte(plainNumText(n))
	for len(p) < 12 {
		p[len(p)-1] |= 128
		p = append(p, 0)
		out = append(out, string(p))
	}
	return out
}

func TestForgedBlocksWithNumbersInMoreBytes(t *testing.T) {
	k := sealKeys()
	for _, id := range blockIds() {
		for _, far := range []int64{0, 1, 63, 64, 256} {
			hidden := ctrOf(t, k.Hide, id, impl.Pack("some text"))
			for _, front := range drawnOut(id) {
				opensAs(t, "the id", k, id, forged(k, front+plainNumText(far)+hidden), impl.ErrSum)
			}
			for _, front := range drawnOut(far) {
				opensAs(t, "far", k, id, forged(k, plainNumText(id)+front+hidden), impl.ErrSum)
			}
		}
	}
}

func TestForgedBlocksWithNumbersThatAreNone(t *testing.T) {
	k := sealKeys()
	hidden := ctrOf(t, k.Hide, 7, impl.Pack("some text"))
	for _, none := range []string{
		strings.Repeat("\xff", 9) + "\x02", strings.Repeat("\xff", 10), strings.Repeat("\x80", 10), strings.Repeat("\x80", 9) + "\x81\x00", strings.Repeat("\xff", 40),
	} {
		opensAs(t, "the id", k, 7, forged(k, none+plainNumText(0)+hidden), impl.ErrSum)
		opensAs(t, "far", k, 7, forged(k, plainNumText(7)+none+hidden), impl.ErrSum)
		opensAs(t, "far, nothing behind it", k, 7, forged(k, plainNumText(7)+none), impl.ErrSum)
	}
}

func TestForgedBlocksWithNumbersThatEndTooEarly(t *testing.T) {
	k := sealKeys()
	for many := 2; many < 12; many++ {
		opensAs(t, "no last byte", k, 7, forged(k, strings.Repeat("\x80", many)), impl.ErrSum)
		opensAs(t, "no last byte of far", k, 7, forged(k, "\x0e"+strings.Repeat("\xff", many)), impl.ErrSum)
	}
	opensAs(t, "no far behind two bytes", k, 128, forged(k, plainNumText(128)), impl.ErrSum)
	opensAs(t, "no far behind four bytes", k, mostId, forged(k, plainNumText(mostId)), impl.ErrSum)
	opensAs(t, "far cut off", k, 7, forged(k, "\x0e\x80"), impl.ErrSum)
	opensAs(t, "far cut off behind two bytes", k, 128, forged(k, plainNumText(128)+"\x80"), impl.ErrSum)
}

// The mac's own first bytes would end the numbers rightly: they are not of what stands ahead of it.
func TestNumbersDoNotRunIntoTheMac(t *testing.T) {
	k := sealKeys()
	noFar, cutFar, cutId := 0, 0, 0
	for id := int64(8192); id < 20000; id++ {
		front := plainNumText(id)
		if block := forged(k, front); block[3] < 128 && block[3]%2 == 0 {
			opensAs(t, "no far", k, id, block, impl.ErrSum)
			noFar++
		}
		if block := forged(k, front+"\x80"); block[4] > 0 && block[4] < 3 {
			opensAs(t, "far cut off", k, id, block, impl.ErrSum)
			cutFar++
		}
		if block := forged(k, front[:2]); block[2] == front[2] {
			opensAs(t, "the id cut off", k, id, block, impl.ErrSum)
			cutId++
		}
	}
	is(t, "some of each", noFar > 0 && cutFar > 0 && cutId > 0, true)
}

// What is hidden is taken by Unpack, which tells its code.
func TestForgedBlocksOfWhatIsNoPack(t *testing.T) {
	k := sealKeys()
	for _, c := range []struct {
		what, packed string
		code         int64
	}{
		{"nothing", "", impl.ErrSyntax},
		{"a number that ends too early", "\x80", impl.ErrSyntax},
		{"a number in more bytes", "\x80\x00\x00\x00\x00\x00", impl.ErrSyntax},
		{"-1 bytes", plainNumText(-1) + blank[:4], impl.ErrSyntax},
		{"4001 bytes", packedTokens(mostParsed+1, byteTokens(strange(mostParsed+1))), impl.ErrSyntax},
		{"a number alone", plainNumText(3), impl.ErrSyntax},
		{"more behind it", impl.Pack("some text") + "\x00", impl.ErrSyntax},
		{"its last byte cut off", strings.TrimSuffix(impl.Pack("\x00\x00"), "\x00"), impl.ErrSyntax},
		{"cut off, so that a match is read", impl.Pack("some text")[:8], impl.ErrSum},
		{"bytes in the place of a match", packedTokens(8, byteTokens("aaaaaaaa")), impl.ErrSyntax},
		{"a match that makes too much", packedTokens(4, append(byteTokens("aa"), matchToken(3, 1))), impl.ErrSum},
		{"a match from ahead of the text", packedTokens(6, append(byteTokens("abc"), matchToken(3, 4))), impl.ErrSum},
		{"a match and nothing else", packedTokens(3, []impl.Token{matchToken(3, 1)}), impl.ErrSum},
		{"bytes 255", strings.Repeat("\xff", 100), impl.ErrSyntax},
	} {
		for _, id := range []int64{0, 7, 128, mostId} {
			for _, far := range []int64{0, 1, 256} {
				opensAs(t, c.what, k, id, forged(k, bodyOf(t, k, id, far, c.packed)), c.code)
			}
		}
	}
}

func TestForgedBlocksOfAnyText(t *testing.T) {
	k := sealKeys()
	for seed := range int64(300) {
		for _, body := range []string{someText(seed, int(2+seed%40)), bodyOf(t, k, 7, seed%257, someText(seed, int(seed%40)))} {
			block := forged(k, body)
			is(t, "any", impl.BlockOpen(k, 7, block), plainOpen(t, k, 7, block))
		}
	}
	for _, text := range []string{"a", "some text", strange(30)} {
		p := impl.Pack(text)
		for i := range p {
			turned := p[:i] + string([]byte{p[i] ^ 16}) + p[i+1:]
			block := forged(k, bodyOf(t, k, 7, 1, turned))
			is(t, "turned ahead of its mac", impl.BlockOpen(k, 7, block), plainOpen(t, k, 7, block))
		}
	}
}

// Hidden under another id, or not at all, a text is not what is found.
func TestForgedBlocksHiddenOtherwise(t *testing.T) {
	k := sealKeys()
	text := strange(60)
	for what, hidden := range map[string]string{
		"another id":   ctrOf(t, k.Hide, 8, impl.Pack(text)),
		"not hidden":   impl.Pack(text),
		"hidden twice": ctrOf(t, k.Hide, 7, ctrOf(t, k.Hide, 7, impl.Pack(text))),
		"another key":  ctrOf(t, k.Mark[:16], 7, impl.Pack(text)),
		"not squeezed": ctrOf(t, k.Hide, 7, text),
	} {
		block := forged(k, plainNumText(7)+plainNumText(0)+hidden)
		out := impl.BlockOpen(k, 7, block)
		is(t, what, out, plainOpen(t, k, 7, block))
		is(t, what+", refused", out.Code != impl.OK, true)
	}
}

func TestBlocksAtTheLimit(t *testing.T) {
	k := sealKeys()
	for _, c := range []struct {
		packed string
		code   int64
	}{
		{impl.Pack("some text"), impl.ErrSyntax},
		{packedTokens(6, append(byteTokens("abc"), matchToken(3, 4))), impl.ErrSum},
	} {
		for _, more := range []int{-1, 0, 1, 2, impl.MaxBytes} {
			packed := c.packed + strings.Repeat("\x00", impl.MaxBytes+more-len(c.packed)-18)
			block := forged(k, bodyOf(t, k, 7, 0, packed))
			is(t, "as long", len(block), impl.MaxBytes+more)
			code, underAnother := c.code, int64(impl.ErrSum)
			if more > 0 {
				code, underAnother = impl.ErrSize, impl.ErrSize
			}
			opensAs(t, fmt.Sprint(more), k, 7, block, code)
			opensAs(t, fmt.Sprint(more, " under another id"), k, 8, block, underAnother)
		}
	}
}

// Of several faults the one is told that the chapter names first.
func TestTheFirstFaultOfABlockIsTold(t *testing.T) {
	k := sealKeys()
	block := impl.BlockSeal(k, 7, 0, "some text")
	for _, more := range []int{1, 2, impl.MaxBytes} {
		long := someText(1340, impl.MaxBytes+more)
		opensAs(t, "too long", k, 7, long, impl.ErrSize)
		opensAs(t, "too long, wrong keys", impl.Keys{}, 7, long, impl.ErrSize)
		opensAs(t, "too long, wrong id", k, -1, long, impl.ErrSize)
		opensAs(t, "too long, both", impl.Keys{}, mostId+1, block+long, impl.ErrSize)
	}
	packedWrong := packedTokens(6, append(byteTokens("abc"), matchToken(3, 4)))
	for _, c := range []struct {
		what  string
		keys  impl.Keys
		id    int64
		block string
		code  int64
	}{
		{"wrong keys, too short", impl.Keys{}, 7, block[:17], impl.ErrForm},
		{"wrong keys, nothing", impl.Keys{}, 7, "", impl.ErrForm},
		{"wrong id, too short", k, -1, block[:17], impl.ErrForm},
		{"wrong id, another mac", k, mostId + 1, block + "x", impl.ErrForm},
		{"too short, another mac", k, 7, block[:17], impl.ErrShort},
		{"too short, another id", k, 8, forged(k, "\x0e"), impl.ErrShort},
		{"another mac, another id", k, 8, block + "x", impl.ErrKey},
		{"another mac, no numbers", k, 7, strings.Repeat("\x80", 30), impl.ErrKey},
		{"another mac, no Pack", plainKeys("other"), 7, forged(k, bodyOf(t, k, 7, 0, "")), impl.ErrKey},
		{"another id, no far", k, 8, forged(k, plainNumText(7)+plainNumText(257)), impl.ErrSum},
		{"another id, no Pack", k, 8, forged(k, bodyOf(t, k, 7, 0, "")), impl.ErrSum},
		{"no far, no Pack", k, 7, forged(k, bodyOf(t, k, 7, 257, "")), impl.ErrSum},
		{"no far, a match too far", k, 7, forged(k, bodyOf(t, k, 7, -1, packedWrong)), impl.ErrSum},
		{"a match too far, more behind", k, 7, forged(k, bodyOf(t, k, 7, 1, packedWrong+"x")), impl.ErrSum},
		{"no number of Pack, bytes 0", k, 7, forged(k, bodyOf(t, k, 7, 256, blank)), impl.ErrSyntax},
	} {
		opensAs(t, c.what, c.keys, c.id, c.block, c.code)
	}
}

func TestBlocksAreNewMemoryAndNothingIsKept(t *testing.T) {
	pass := someText(1350, 40)
	k := impl.KeysOf(pass)
	for _, text := range []string{"some text that is long enough", strange(300), strings.Repeat("a", 500)} {
		for _, far := range []int64{0, 1, 256} {
			was := strings.Clone(text)
			block := impl.BlockSeal(k, 7, far, text)
			sealed := strings.Clone(block)
			out := impl.BlockOpen(k, 7, block)
			for what, part := range map[string]string{"pass": pass, "Hide": k.Hide, "Mark": k.Mark, "text": text, "block": block} {
				is(t, what, within(part, out.Text) || within(out.Text, part), false)
				is(t, what, what != "block" && (within(part, block) || within(block, part)), false)
			}
			impl.BlockOpen(k, 7, block+"x")
			impl.BlockOpen(impl.KeysOf("other"), 7, block)
			impl.BlockSeal(k, 8, 3, quoting(1351, 900))
			is(t, "sealed again", impl.BlockSeal(k, 7, far, text), sealed)
			is(t, "opened again", impl.BlockOpen(k, 7, block), impl.TextOut{Text: was})
			is(t, "as it was", text == was && block == sealed, true)
		}
	}
	is(t, "the same keys", impl.KeysOf(pass), k)
	is(t, "Hide apart", within(pass, k.Hide) || within(k.Mark, k.Hide) || within(k.Hide, k.Mark), false)
}
