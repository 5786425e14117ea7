package tests

import (
	"crypto/hmac"
	"crypto/sha256"
	"encoding/hex"
	"math"
	"strings"
	"testing"

	"loop.example/g00320/impl"
)

func shaOf(text string) string {
	s := sha256.Sum256([]byte(text))
	return string(s[:])
}

func hmacOf(key, text string) string {
	h := hmac.New(sha256.New, []byte(key))
	h.Write([]byte(text))
	return string(h.Sum(nil))
}

// macByDigests is a mac made by the program's own digests alone, as chapter 3 says it.
func macByDigests(key, text string) string {
	if len(key) > 64 {
		key = impl.Digest(key)
	}
	inner, outer := make([]byte, 64), make([]byte, 64)
	copy(inner, key)
	copy(outer, key)
	for i := range 64 {
		inner[i] ^= 54
		outer[i] ^= 92
	}
	return impl.Digest(string(outer) + impl.Digest(string(inner)+text))
}

// someKeys has the lengths at which a key is filled up, taken as it is, or digested.
func someKeys() []string {
	l := []string{}
	for _, many := range []int{0, 1, 31, 32, 33, 62, 63, 64, 65, 66, 100, 128, 1000, impl.MaxBytes - 1, impl.MaxBytes} {
		l = append(l, someText(int64(100+many), many))
	}
	return append(l, strings.Repeat("\x00", 64), strings.Repeat("\xff", 64), strings.Repeat("\x36", 64), strings.Repeat("\\", 65))
}

func TestDigestKnown(t *testing.T) {
	cases := []struct{ text, want string }{
		{"", "e3b0c44298fc1c149afbf4c8996fb92427ae41e4649b934ca495991b7852b855"},
		{"abc", "ba7816bf8f01cfea414140de5dae2223b00361a396177a9cb410ff61f20015ad"},
		{"abcdbcdecdefdefgefghfghighijhijkijkljklmklmnlmnomnopnopq", "248d6a61d20638b8e5c026930c3e6039a33ce45964ff2167f6ecedd419db06c1"},
	}
	for _, c := range cases {
		is(t, c.text, hex.EncodeToString([]byte(impl.Digest(c.text))), c.want)
	}
}

func TestDigestOfAllLengthsRoundABlock(t *testing.T) {
	for many := range 260 {
		text := someText(int64(many), many)
		is(t, "random", impl.Digest(text), shaOf(text))
		is(t, "noughts", impl.Digest(strings.Repeat("\x00", many)), shaOf(strings.Repeat("\x00", many)))
		is(t, "ones", impl.Digest(strings.Repeat("\xff", many)), shaOf(strings.Repeat("\xff", many)))
	}
}

// 8191 and 8192 bytes are the last length in bits of two bytes, and the first one of three.
func TestDigestOfLongTexts(t *testing.T) {
	for _, many := range []int{1000, 4095, 4096, 8191, 8192, 8193, impl.MaxBytes - 1, impl.MaxBytes} {
		text := someText(int64(many), many)
		is(t, "long", impl.Digest(text), shaOf(text))
	}
}

func TestDigestOfTooLong(t *testing.T) {
	is(t, "one more", impl.Digest(someText(1, impl.MaxBytes+1)), "")
	is(t, "twice", impl.Digest(someText(1, 2*impl.MaxBytes)), "")
}

func TestMacKnown(t *testing.T) {
	cases := []struct{ key, text, want string }{
		{strings.Repeat("\x0b", 20), "Hi There", "b0344c61d8db38535ca8afceaf0bf12b881dc200c9833da726e9376c2e32cff7"},
		{"Jefe", "what do ya want for nothing?", "5bdcc146bf60754e6a042426089575c75a003f089d2739839dec58b964ec3843"},
		{strings.Repeat("\xaa", 131), "Test Using Larger Than Block-Size Key - Hash Key First", "60e431591ee0b67f0d8a26aacbf5b77f8e0bc6213728c5140546040f0ee37f54"},
		{"", "", "b613679a0814d9ec772f95d778c35fc5ff1697c493715653c6c712144292c5ad"},
	}
	for _, c := range cases {
		is(t, c.text, hex.EncodeToString([]byte(impl.Mac(c.key, c.text))), c.want)
	}
}

// Promise 3, of the mac.
func TestMacIsWhatDigestsMake(t *testing.T) {
	for _, key := range someKeys() {
		for _, many := range []int{0, 1, 55, 56, 63, 64, 65, 119, 120, 1000, impl.MaxBytes - 65, impl.MaxBytes - 64} {
			text := someText(int64(many), many)
			got := impl.Mac(key, text)
			is(t, "by digests", got, macByDigests(key, text))
			is(t, "by the library", got, hmacOf(key, text))
		}
	}
}

// With the key's block ahead of it such a text is longer than one that Digest takes.
func TestMacOfTheLongestTexts(t *testing.T) {
	for _, key := range someKeys() {
		for _, many := range []int{impl.MaxBytes - 63, impl.MaxBytes - 1, impl.MaxBytes} {
			text := someText(int64(many), many)
			is(t, "long", impl.Mac(key, text), hmacOf(key, text))
		}
	}
}

func TestMacFillsAKeyUp(t *testing.T) {
	is(t, "with noughts", impl.Mac("key", "text"), impl.Mac("key"+strings.Repeat("\x00", 61), "text"))
	is(t, "no further", impl.Mac("key", "text") == impl.Mac("key"+strings.Repeat("\x00", 62), "text"), false)
	long := someText(7, 65)
	is(t, "digested", impl.Mac(long, "text"), impl.Mac(impl.Digest(long), "text"))
	is(t, "not digested", impl.Mac(long[:64], "text") == impl.Mac(impl.Digest(long[:64]), "text"), false)
}

func TestMacOfTooLong(t *testing.T) {
	long := someText(8, impl.MaxBytes+1)
	is(t, "key", impl.Mac(long, "text"), "")
	is(t, "key, no text", impl.Mac(long, ""), "")
	is(t, "text", impl.Mac("key", long), "")
	is(t, "text, no key", impl.Mac("", long), "")
	is(t, "both", impl.Mac(long, long), "")
	is(t, "key, the longest text", impl.Mac(long, long[1:]), "")
	is(t, "text, the longest key", impl.Mac(long[1:], long), "")
}

func somePasses() []string {
	return []string{"", "p", "desk", "salt", "a\x00b", someText(9, 63), someText(9, 64), someText(9, 65), someText(9, impl.MaxBytes)}
}

// Promise 3, of a pass that is stretched.
func TestStretchedOnceMoreIsTheMac(t *testing.T) {
	for _, pass := range somePasses() {
		want := hmacOf(pass, "salt")
		for rounds := int64(1); rounds <= 100; rounds++ {
			got := impl.Stretch(pass, rounds)
			is(t, "by the library", got, want)
			if rounds < 100 {
				is(t, "once more", impl.Stretch(pass, rounds+1), impl.Mac(pass, got))
			}
			want = hmacOf(pass, want)
		}
	}
}

func TestStretchRefuses(t *testing.T) {
	for _, rounds := range []int64{0, -1, -100, 101, 102, 1<<8 + 1, 1<<32 + 1, math.MaxInt64, math.MinInt64, math.MinInt64 + 1} {
		is(t, "rounds", impl.Stretch("pass", rounds), "")
		is(t, "rounds, no pass", impl.Stretch("", rounds), "")
	}
	long := someText(10, impl.MaxBytes+1)
	for _, rounds := range []int64{0, 1, 2, 100, 101} {
		is(t, "too long", impl.Stretch(long, rounds), "")
	}
}

func TestDigestsHave32Bytes(t *testing.T) {
	is(t, "Digest", len(impl.Digest("")), 32)
	is(t, "Mac", len(impl.Mac("", "")), 32)
	is(t, "Stretch", len(impl.Stretch("", 1)), 32)
}
