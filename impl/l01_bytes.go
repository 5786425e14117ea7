package impl

import (
	"errors"
	"strconv"
)

// Constants, see chapter 1.
const (
	OK        = 0
	ErrForm   = 1
	ErrSize   = 2
	ErrSyntax = 3
	ErrShort  = 4
	ErrSum    = 5
	ErrNone   = 6
	ErrThere  = 7
	ErrRange  = 8
	ErrFull   = 9
	ErrKey    = 10
	MaxBytes  = 20000
	MaxList   = 400
	MaxTime   = 1000000000
)

// NumOut is a thing of chapter 2.
type NumOut struct {
	N    int64
	At   int64
	Code int64
}

// TextOut is a thing of chapter 2.
type TextOut struct {
	Text string
	At   int64
	Code int64
}

// readFault is why nothing could be read; its code is what the call tells.
type readFault struct {
	code int64
}

func (f readFault) Error() string {
	return "not read: code " + strconv.FormatInt(f.code, 10)
}

// codeOf: inside the package only nil is no readFault, so what is left is OK.
func codeOf(err error) int64 {
	var f readFault
	if errors.As(err, &f) {
		return f.code
	}
	return OK
}

func sizeOf(parts []string) int {
	size := 0
	for _, p := range parts {
		size += len(p)
	}
	return size
}

// joined copies even a single part, so that no answer shares memory with an argument.
func joined(parts ...string) string {
	out := make([]byte, sizeOf(parts))
	at := 0
	for _, p := range parts {
		at += copy(out[at:], p)
	}
	return string(out)
}

// PutNum: see chapter 2.
func PutNum(n int64) string {
	// n>>63 is all ones below 0: it turns the bits of twice n, which makes -2n-1 without overflow.
	u := uint64(n)<<1 ^ uint64(n>>63)
	var out []byte
	for u >= 128 {
		out = append(out, byte(u&127)|128)
		u >>= 7
	}
	return string(append(out, byte(u)))
}

// lastShift is where the bits of a number's tenth byte go: only one of 64 is left there.
const lastShift = 63

// readNum reads the number at that place, and tells the place behind it.
func readNum(text string, at int64) (int64, int64, error) {
	code := int64(ErrForm)
	var u uint64
	var b byte
	shift := 0
	if at < 0 {
		goto wrong
	}
more:
	if at >= int64(len(text)) {
		code = ErrShort
		goto wrong
	}
	b = text[at]
	u |= uint64(b&127) << shift
	at++
	if b < 128 || shift == lastShift {
		goto last
	}
	shift += 7
	goto more
last:
	// A last byte 0 behind others adds nothing: the number would go without it.
	if shift == lastShift && b > 1 || shift > 0 && b == 0 {
		code = ErrSyntax
		goto wrong
	}
	return int64(u>>1) ^ -int64(u&1), at, nil
wrong:
	return 0, 0, readFault{code}
}

// readText reads the text at that place, and tells the place behind it.
func readText(text string, at int64) (string, int64, error) {
	many, from, err := readNum(text, at)
	if err != nil {
		return "", 0, err
	}
	if many < 0 || many > MaxBytes {
		return "", 0, readFault{ErrSyntax}
	}
	if many > int64(len(text))-from {
		return "", 0, readFault{ErrShort}
	}
	return joined(text[from : from+many]), from + many, nil
}

// GetNum: see chapter 2.
func GetNum(text string, at int64) NumOut {
	if len(text) > MaxBytes {
		return NumOut{Code: ErrSize}
	}
	n, behind, err := readNum(text, at)
	return NumOut{N: n, At: behind, Code: codeOf(err)}
}

// PutText: see chapter 2.
func PutText(t string) string {
	if len(t) > MaxBytes {
		return ""
	}
	return joined(PutNum(int64(len(t))), t)
}

// GetText: see chapter 2.
func GetText(text string, at int64) TextOut {
	if len(text) > MaxBytes {
		return TextOut{Code: ErrSize}
	}
	t, behind, err := readText(text, at)
	return TextOut{Text: t, At: behind, Code: codeOf(err)}
}

// maxName is the greatest length of a name.
const maxName = 20

// NameRight: see chapter 2.
func NameRight(t string) bool {
	if len(t) < 1 || len(t) > maxName || !isLetter(t[0]) {
		return false
	}
	for i := 1; i < len(t); i++ {
		if !isLetter(t[i]) && !isDigit(t[i]) && t[i] != '_' {
			return false
		}
	}
	return true
}

func isLetter(b byte) bool {
	return 'a' <= b && b <= 'z'
}

func isDigit(b byte) bool {
	return '0' <= b && b <= '9'
}

const (
	crcPoly = 0xEDB88320
	maxCrc  = 1<<32 - 1
	crcSize = 4
)

// Crc: see chapter 2.
func Crc(text string) int64 {
	// The CRC of no text is 0, so going on from 0 is beginning.
	return CrcMore(0, text)
}

// CrcMore: see chapter 2.
func CrcMore(crc int64, text string) int64 {
	if len(text) > MaxBytes || crc < 0 || crc > maxCrc {
		return 0
	}
	// A CRC is the register turned: turned back, it goes on where it stood.
	register := ^uint32(crc)
	for i := 0; i < len(text); i++ {
		register = crcByte(register, text[i])
	}
	return int64(^register)
}

// crcByte puts all eight bits in at once: none reaches the lowest place ahead of its turn.
func crcByte(register uint32, b byte) uint32 {
	register ^= uint32(b)
	for range 8 {
		low := register & 1
		register >>= 1
		if low == 1 {
			register ^= crcPoly
		}
	}
	return register
}

// Seal: see chapter 2.
func Seal(text string) string {
	if len(text) > MaxBytes-crcSize {
		return ""
	}
	crc := Crc(text)
	var sum [crcSize]byte
	for i := range sum {
		sum[i] = byte(crc >> (8 * i))
	}
	return joined(text, string(sum[:]))
}

// Unseal: see chapter 2.
func Unseal(text string) TextOut {
	if len(text) > MaxBytes {
		return TextOut{Code: ErrSize}
	}
	if len(text) < crcSize {
		return TextOut{Code: ErrShort}
	}
	body := text[:len(text)-crcSize]
	if Seal(body) != text {
		return TextOut{Code: ErrSum}
	}
	return TextOut{Text: joined(body)}
}
