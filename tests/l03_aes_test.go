package tests

import (
	"crypto/aes"
	"crypto/cipher"
	"encoding/binary"
	"encoding/hex"
	"math"
	"math/rand"
	"strings"
	"testing"

	"loop.example/g00320/impl"
)

func fromHex(t *testing.T, s string) string {
	t.Helper()
	b, err := hex.DecodeString(s)
	if err != nil {
		t.Fatal(err)
	}
	return string(b)
}

// blockOf is a block hidden by the library.
func blockOf(t *testing.T, key, block string) string {
	t.Helper()
	c, err := aes.NewCipher([]byte(key))
	if err != nil {
		t.Fatal(err)
	}
	out := make([]byte, 16)
	c.Encrypt(out, []byte(block))
	return string(out)
}

// ctrOf is a text hidden by the library, whose counter begins with the nonce and eight bytes 0.
func ctrOf(t *testing.T, key string, nonce int64, text string) string {
	t.Helper()
	c, err := aes.NewCipher([]byte(key))
	if err != nil {
		t.Fatal(err)
	}
	first := make([]byte, 16)
	binary.BigEndian.PutUint64(first, uint64(nonce))
	out := make([]byte, len(text))
	cipher.NewCTR(c, first).XORKeyStream(out, []byte(text))
	return string(out)
}

// aesKeys has keys that are all alike in their bytes, and others.
func aesKeys() []string {
	l := []string{strings.Repeat("\x00", 16), strings.Repeat("\xff", 16), strings.Repeat("\x80", 16), strings.Repeat("\x01", 16), "0123456789abcdef"}
	for seed := range 20 {
		l = append(l, someText(int64(300+seed), 16))
	}
	return l
}

// noKeys has texts that are no key, and no block either.
func noKeys() []string {
	l := []string{}
	for _, many := range []int{0, 1, 4, 8, 15, 17, 24, 32, 33, 176, 16 + 256, impl.MaxBytes, impl.MaxBytes + 1} {
		l = append(l, someText(int64(400+many), many))
	}
	return l
}

func nonces() []int64 {
	return []int64{0, 1, 2, 255, 256, 1 << 31, 1 << 32, 1000001, 0x0102030405060708, math.MaxInt64 - 1, math.MaxInt64}
}

// timesBits multiplies bytes as polynomials, and takes the rest, as the chapter says it.
func timesBits(a, b int) int {
	product := 0
	for i := range 8 {
		if b>>i&1 == 1 {
			product ^= a << i
		}
	}
	for i := 14; i >= 8; i-- {
		if product>>i&1 == 1 {
			product ^= 0x11b << (i - 8)
		}
	}
	return product
}

// boxBySearch is SboxOf as the chapter says it, with the byte that makes 1 searched for.
func boxBySearch(n int) int64 {
	under := 0
	for b := range 256 {
		if timesBits(b, n) == 1 {
			under = b
		}
	}
	out := 99
	for turn := range 5 {
		out ^= (under<<turn | under>>(8-turn)) & 255
	}
	return int64(out)
}

func TestSboxOfEachByte(t *testing.T) {
	seen := map[int64]bool{}
	for n := range 256 {
		got := impl.SboxOf(int64(n))
		is(t, "SboxOf", got, boxBySearch(n))
		seen[got] = true
	}
	is(t, "no two alike", len(seen), 256)
}

func TestSboxOfKnown(t *testing.T) {
	for n, want := range map[int64]int64{0: 99, 1: 124, 2: 119, 0x10: 0xca, 0x52: 0, 0x53: 0xed, 0x80: 0xcd, 0xfe: 0xbb, 255: 22} {
		is(t, "SboxOf", impl.SboxOf(n), want)
	}
}

func TestSboxOfNoByte(t *testing.T) {
	for _, n := range []int64{-1, -2, -255, -256, 256, 257, 511, 83 << 8, 1 << 32, 1<<32 + 83, 1<<62 + 1, math.MaxInt64, math.MinInt64, math.MinInt64 + 83} {
		is(t, "SboxOf", impl.SboxOf(n), 0)
	}
}

// FIPS 197, A.1.
func TestAesKeysKnown(t *testing.T) {
	want := []string{
		"2b7e151628aed2a6abf7158809cf4f3c", "a0fafe1788542cb123a339392a6c7605", "f2c295f27a96b9435935807a7359f67f",
		"3d80477d4716fe3e1e237e446d7a883b", "ef44a541a8525b7fb671253bdb0bad00", "d4d1c6f87c839d87caf2b8bc11f915bc",
		"6d88a37a110b3efddbf98641ca0093fd", "4e54f70e5f5fc9f384a64fb24ea6dc4f", "ead27321b58dbad2312bf5607f8d292f",
		"ac7766f319fadc2128d12941575c006e", "d014f9a8c9ee2589e13f0cc8b6630ca6",
	}
	got := impl.AesKeys(fromHex(t, want[0]))
	is(t, "eleven", len(got), 11)
	for i := range got {
		is(t, "key", hex.EncodeToString([]byte(got[i])), want[i])
	}
}

// keysByWords makes the keys of the rounds word by word, by SboxOf alone.
func keysByWords(key string) string {
	b := []byte(key)
	power := 1
	for i := 4; i < 44; i++ {
		w := append([]byte{}, b[len(b)-4:]...)
		if i%4 == 0 {
			w = append(w[1:], w[0])
			for j := range w {
				w[j] = byte(impl.SboxOf(int64(w[j])))
			}
			w[0] ^= byte(power)
			power = timesBits(power, 2)
		}
		for j := range 4 {
			b = append(b, b[4*(i-4)+j]^w[j])
		}
	}
	return string(b)
}

func TestAesKeysOfManyKeys(t *testing.T) {
	for _, key := range aesKeys() {
		got := impl.AesKeys(key)
		is(t, "eleven", len(got), 11)
		is(t, "words", strings.Join(got, ""), keysByWords(key))
		for _, k := range got {
			is(t, "sixteen", len(k), 16)
		}
	}
}

func TestAesKeysOfNoKey(t *testing.T) {
	for _, key := range noKeys() {
		is(t, "none", len(impl.AesKeys(key)), 0)
	}
}

func TestAesKeysAreNewMemory(t *testing.T) {
	key := someText(12, 16)
	got := impl.AesKeys(key)
	is(t, "the key itself", within(key, got[0]), false)
	got[0], got[10] = "changed", "changed"
	is(t, "told anew", strings.Join(impl.AesKeys(key), ""), keysByWords(key))
}

// FIPS 197, B and C.1, and the first blocks of SP 800-38A, F.1.1.
func TestAesBlockKnown(t *testing.T) {
	cases := []struct{ key, block, want string }{
		{"2b7e151628aed2a6abf7158809cf4f3c", "3243f6a8885a308d313198a2e0370734", "3925841d02dc09fbdc118597196a0b32"},
		{"000102030405060708090a0b0c0d0e0f", "00112233445566778899aabbccddeeff", "69c4e0d86a7b0430d8cdb78070b4c55a"},
		{"2b7e151628aed2a6abf7158809cf4f3c", "6bc1bee22e409f96e93d7e117393172a", "3ad77bb40d7a3660a89ecaf32466ef97"},
		{"2b7e151628aed2a6abf7158809cf4f3c", "ae2d8a571e03ac9c9eb76fac45af8e51", "f5d3d58503b9699de785895a96fdbaaf"},
	}
	for _, c := range cases {
		got := impl.AesBlock(fromHex(t, c.key), fromHex(t, c.block))
		is(t, c.block, hex.EncodeToString([]byte(got)), c.want)
	}
}

func TestAesBlockOfManyBlocks(t *testing.T) {
	for _, key := range aesKeys() {
		for _, block := range aesKeys() {
			is(t, "block", impl.AesBlock(key, block), blockOf(t, key, block))
		}
	}
}

// Each byte at each place, of the block and of the key, goes its own way through the rounds.
func TestAesBlockOfEachByteAtEachPlace(t *testing.T) {
	plain := someText(13, 16)
	for place := range 16 {
		for b := range 256 {
			other := []byte(plain)
			other[place] = byte(b)
			is(t, "of the block", impl.AesBlock(plain, string(other)), blockOf(t, plain, string(other)))
			is(t, "of the key", impl.AesBlock(string(other), plain), blockOf(t, string(other), plain))
		}
	}
}

func TestAesBlockRefuses(t *testing.T) {
	right := someText(14, 16)
	for _, wrong := range noKeys() {
		is(t, "key", impl.AesBlock(wrong, right), "")
		is(t, "block", impl.AesBlock(right, wrong), "")
		is(t, "both", impl.AesBlock(wrong, wrong), "")
	}
}

// ctrLengths has the lengths round a block, round 256 blocks and at the limit.
func ctrLengths() []int {
	return []int{0, 1, 2, 7, 8, 9, 15, 16, 17, 31, 32, 33, 63, 64, 65, 1000, 4095, 4096, 4097, 4112, 4113, 8192, impl.MaxBytes - 1, impl.MaxBytes}
}

// Promise 4.
func TestHiddenTwiceIsAsItWas(t *testing.T) {
	key := someText(15, 16)
	for _, many := range ctrLengths() {
		text := someText(int64(many), many)
		for _, nonce := range nonces() {
			hidden := impl.Ctr(key, nonce, text)
			is(t, "hidden", hidden, ctrOf(t, key, nonce, text))
			is(t, "as long", len(hidden), many)
			is(t, "twice", impl.Ctr(key, nonce, hidden), text)
		}
	}
}

// Promise 4, under other keys, with bytes that are all alike among the texts.
func TestHiddenTwiceUnderManyKeys(t *testing.T) {
	r := rand.New(rand.NewSource(16))
	for _, key := range aesKeys() {
		for _, text := range []string{strings.Repeat("\x00", 50), strings.Repeat("\xff", 50), someText(r.Int63(), 1+r.Intn(300))} {
			nonce := r.Int63()
			hidden := impl.Ctr(key, nonce, text)
			is(t, "hidden", hidden, ctrOf(t, key, nonce, text))
			is(t, "twice", impl.Ctr(key, nonce, hidden), text)
		}
	}
}

// Of bytes 0 the stream itself comes out: its blocks are those of the nonce and 0, 1, 2, ..
func TestCtrStreamIsOfBlocks(t *testing.T) {
	key := someText(17, 16)
	for _, nonce := range []int64{0, 1, math.MaxInt64} {
		stream := impl.Ctr(key, nonce, strings.Repeat("\x00", impl.MaxBytes))
		for _, number := range []int{0, 1, 2, 255, 256, 257, 511, 512, 1249} {
			counted := make([]byte, 16)
			binary.BigEndian.PutUint64(counted, uint64(nonce))
			binary.BigEndian.PutUint64(counted[8:], uint64(number))
			is(t, "block", stream[16*number:16*number+16], impl.AesBlock(key, string(counted)))
		}
	}
}

func TestCtrKnown(t *testing.T) {
	key := fromHex(t, "2b7e151628aed2a6abf7158809cf4f3c")
	got := impl.Ctr(key, 0, strings.Repeat("\x00", 16))
	is(t, "nought", got, impl.AesBlock(key, strings.Repeat("\x00", 16)))
	is(t, "nought, by the library", hex.EncodeToString([]byte(got)), "7df76b0c1ab899b33e42f047b91b546f")
}

// A text that is cut is hidden as the beginning of the whole one.
func TestCtrOfABeginning(t *testing.T) {
	key, text := someText(18, 16), someText(19, 100)
	whole := impl.Ctr(key, 5, text)
	for many := range len(text) + 1 {
		is(t, "beginning", impl.Ctr(key, 5, text[:many]), whole[:many])
	}
}

func TestCtrRefuses(t *testing.T) {
	key, text := someText(20, 16), someText(21, 40)
	long := someText(22, impl.MaxBytes+1)
	for _, wrong := range noKeys() {
		is(t, "key", impl.Ctr(wrong, 0, text), "")
		is(t, "key, the longest text", impl.Ctr(wrong, 0, long[1:]), "")
	}
	for _, nonce := range []int64{-1, -2, -256, -1 << 32, math.MinInt64 + 1, math.MinInt64} {
		is(t, "nonce", impl.Ctr(key, nonce, text), "")
		is(t, "nonce, no text", impl.Ctr(key, nonce, ""), "")
	}
	for _, nonce := range []int64{0, 1, math.MaxInt64, -1} {
		is(t, "text", impl.Ctr(key, nonce, long), "")
		is(t, "text, key", impl.Ctr("", nonce, long), "")
	}
	is(t, "no text", impl.Ctr(key, 0, ""), "")
}
