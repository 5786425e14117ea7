package tests

import (
	"fmt"
	"math"
	"math/rand"
	"slices"
	"strings"
	"testing"

	"loop.example/g00320/impl"
)

// plainSectorsOf takes away a sector's bytes, one sector after the other.
func plainSectorsOf(many int64) int64 {
	var out int64
	if many > 20000 {
		return 0
	}
	for ; many > 0; many -= 64 {
		out++
	}
	return out
}

func plainExtentRight(e impl.Extent, sectors int64) bool {
	if sectors < 0 || sectors > 620 || e.Many < 0 || e.Many > 20000 {
		return false
	}
	return plainThere(impl.Disk{Sectors: make([]string, sectors)}, e.At, plainSectorsOf(e.Many))
}

// plainAll is what all sectors have, one behind the other, looked for from the Cache's end on.
func plainAll(d impl.Disk) string {
	var out strings.Builder
	for i := range d.Sectors {
		out.WriteString(plainHas(d, int64(i)))
	}
	return out.String()
}

func plainExtentWrite(d impl.Disk, at int64, text string) impl.DiskOut {
	if text == "" && plainRight(d) {
		return impl.DiskOut{Code: impl.ErrRange}
	}
	return plainWrite(d, at, text)
}

func plainExtentRead(d impl.Disk, e impl.Extent) impl.DiskOut {
	switch {
	case !plainRight(d):
		return impl.DiskOut{Code: impl.ErrForm}
	case !plainExtentRight(e, int64(len(d.Sectors))):
		return impl.DiskOut{Code: impl.ErrRange}
	}
	return impl.DiskOut{Text: plainAll(d)[64*e.At:][:e.Many]}
}

// plainPatch patches all bytes of the disk at once, and writes those sectors that have one of them.
func plainPatch(d impl.Disk, at int64, text string) impl.DiskOut {
	switch {
	case len(text) > 20000:
		return impl.DiskOut{Code: impl.ErrSize}
	case !plainRight(d):
		return impl.DiskOut{Code: impl.ErrForm}
	case at < 0 || at > int64(64*len(d.Sectors)) || at+int64(len(text)) > int64(64*len(d.Sectors)):
		return impl.DiskOut{Code: impl.ErrRange}
	}
	behind := at + int64(len(text))
	all := plainAll(d)
	all = all[:at] + text + all[behind:]
	out := kept(d)
	for i := range int64(len(d.Sectors)) {
		if text != "" && 64*i < behind && at < 64*i+64 {
			out.Cache = append(out.Cache, impl.Write{At: i, Text: all[64*i:][:64]})
		}
	}
	if len(out.Cache) > mostCached {
		return impl.DiskOut{Code: impl.ErrFull}
	}
	return impl.DiskOut{Disk: out}
}

// extentSizes go about a sector's size, as many sectors as a DiskRead reads, and MaxBytes.
func extentSizes() []int64 {
	return []int64{0, 1, 2, 63, 64, 65, 127, 128, 129, 192, 640, 6400, 6401, 19199, 19200, 19201, 19264, 19968, 19969, 19999, 20000}
}

func wrongSizes() []int64 {
	return []int64{20001, 20032, 20064, 39680, 1 << 31, 1 << 32, 1 << 58, math.MaxInt64 - 63, math.MaxInt64 - 1, math.MaxInt64, -1, -2, -63, -64, -65, math.MinInt32, math.MinInt64 + 1, math.MinInt64}
}

// farPlaces are behind each disk, or ahead of it: of some the bytes, or sectors, outgrow their bits when counted.
func farPlaces() []int64 {
	return []int64{math.MinInt64, math.MinInt64 + 1, math.MinInt32, -1 << 58, -20000, -65, -64, -63, -2, -1, 39681, 39744, 1 << 31, 1 << 32, 1<<57 - 1, 1 << 57, 1<<58 - 1, 1 << 58, 1<<58 + 1, 1 << 62, math.MaxInt64 - 20000, math.MaxInt64 - 64, math.MaxInt64 - 63, math.MaxInt64 - 1, math.MaxInt64}
}

func TestSectorsOf(t *testing.T) {
	for many := int64(-70); many <= 20070; many++ {
		is(t, fmt.Sprint(many), impl.SectorsOf(many), plainSectorsOf(many))
	}
	for _, many := range wrongSizes() {
		is(t, fmt.Sprint(many), impl.SectorsOf(many), 0)
	}
	for many, want := range map[int64]int64{0: 0, 1: 1, 63: 1, 64: 1, 65: 2, 128: 2, 129: 3, 19968: 312, 19969: 313, 20000: 313} {
		is(t, fmt.Sprint(many), impl.SectorsOf(many), want)
	}
}

func TestExtentsRight(t *testing.T) {
	for _, sectors := range []int64{0, 1, 2, 3, 300, 312, 313, 314, 619, 620} {
		places := append(farPlaces(), 0, 1, 2, 306, 307, 308, sectors-314, sectors-313, sectors-312, sectors-3, sectors-2, sectors-1, sectors, sectors+1, 620, 621)
		for _, at := range places {
			for _, many := range append(extentSizes(), wrongSizes()...) {
				e := impl.Extent{At: at, Many: many}
				is(t, fmt.Sprint(e, " of ", sectors), impl.ExtentRight(e, sectors), plainExtentRight(e, sectors))
			}
		}
	}
	for sectors := range int64(5) {
		for at := int64(-2); at < 7; at++ {
			for many := int64(-2); many < 330; many++ {
				e := impl.Extent{At: at, Many: many}
				is(t, fmt.Sprint(e, " of ", sectors), impl.ExtentRight(e, sectors), plainExtentRight(e, sectors))
			}
		}
	}
}

func TestExtentsOfNoRightCountOfSectors(t *testing.T) {
	for _, sectors := range []int64{-1, -2, -313, -620, 621, 622, 20000, 1 << 32, math.MinInt32, math.MinInt64, math.MaxInt64 - 1, math.MaxInt64} {
		for _, at := range append(farPlaces(), 0, 1, 2, 620, 621, sectors-1, sectors) {
			for _, many := range append(extentSizes(), wrongSizes()...) {
				e := impl.Extent{At: at, Many: many}
				is(t, fmt.Sprint(e, " of ", sectors), impl.ExtentRight(e, sectors), false)
			}
		}
	}
	is(t, "of none", impl.ExtentRight(impl.Extent{}, 0), true)
	is(t, "one of none", impl.ExtentRight(impl.Extent{Many: 1}, 0), false)
	is(t, "just all", impl.ExtentRight(impl.Extent{At: 307, Many: 20000}, 620), true)
	is(t, "one too far", impl.ExtentRight(impl.Extent{At: 308, Many: 20000}, 620), false)
	is(t, "none at the end", impl.ExtentRight(impl.Extent{At: 620}, 620), true)
	is(t, "none behind the end", impl.ExtentRight(impl.Extent{At: 621}, 620), false)
}

func TestExtentKnown(t *testing.T) {
	d := impl.ExtentWrite(impl.DiskNew(4), 1, strings.Repeat("a", 70)).Disk
	second, third := strings.Repeat("a", 64), strings.Repeat("a", 6)+blank[6:]
	sectors := []string{blank, blank, blank, blank}
	cache := []impl.Write{{At: 1, Text: second}, {At: 2, Text: third}}
	sameDisk(t, "written", d, impl.Disk{Sectors: sectors, Cache: cache})
	sameOut(t, "read", impl.ExtentRead(d, impl.Extent{At: 1, Many: 70}), impl.DiskOut{Text: strings.Repeat("a", 70)})
	sameOut(t, "one more", impl.ExtentRead(d, impl.Extent{At: 1, Many: 71}), impl.DiskOut{Text: strings.Repeat("a", 70) + "\x00"})
	out := impl.ExtentPatch(d, 126, "bcde")
	cache = append(cache, impl.Write{At: 1, Text: second[:62] + "bc"}, impl.Write{At: 2, Text: "deaaaa" + blank[6:]})
	sameOut(t, "patched", out, impl.DiskOut{Disk: impl.Disk{Sectors: sectors, Cache: cache}})
	want := blank + second[:62] + "bcdeaaaa" + blank[6:] + blank
	is(t, "all", allOf(t, out.Disk), want)
	sameDisk(t, "flushed", impl.DiskFlush(out.Disk), impl.Disk{Sectors: plainPieces(want)})
	sameDisk(t, "half of it", impl.DiskCrash(out.Disk, []bool{true, true, false, true}), impl.Disk{Sectors: []string{blank, second, "deaaaa" + blank[6:], blank}})
}

// patchStands is promise 10 of one patch: it stands there, all other bytes are as they were, and just what it touches is written.
func patchStands(t *testing.T, what string, d impl.Disk, at int, text string) impl.Disk {
	t.Helper()
	before := allOf(t, d)
	out := impl.ExtentPatch(d, int64(at), text)
	is(t, what+", code", out.Code, impl.OK)
	is(t, what+", text", out.Text, "")
	want := before[:at] + text + before[at+len(text):]
	is(t, what+", right", impl.DiskRight(out.Disk), true)
	is(t, what+", all", allOf(t, out.Disk), want)
	flushed := impl.DiskFlush(out.Disk)
	is(t, what+", on the sectors", strings.Join(flushed.Sectors, ""), want)
	sameDisk(t, what+", all kept", impl.DiskCrash(out.Disk, slices.Repeat([]bool{true}, len(out.Disk.Cache))), flushed)
	first, behind := at/64, (at+len(text)+63)/64
	if text == "" {
		first, behind = 0, 0
	}
	cached := len(d.Cache)
	is(t, what+", as many written", len(out.Disk.Cache), cached+behind-first)
	is(t, what+", the others ahead", slices.Equal(out.Disk.Cache[:cached], d.Cache), true)
	is(t, what+", the sectors wait", slices.Equal(out.Disk.Sectors, d.Sectors), true)
	for i, w := range out.Disk.Cache[cached:] {
		is(t, what+", in order", w, impl.Write{At: int64(first + i), Text: want[64*(first+i):][:64]})
	}
	return out.Disk
}

func TestPatchesInOneSector(t *testing.T) {
	for i, d := range []impl.Disk{impl.DiskNew(3), diskOf(1100, 3, 0), diskOf(1101, 3, 12), diskOf(1102, 1, 0), diskOf(1103, 1, 5)} {
		last := 64 * (len(d.Sectors) - 1)
		for _, base := range []int{0, last / 2 / 64 * 64, last} {
			for _, from := range []int{0, 1, 31, 62, 63} {
				for _, size := range []int{1, 2, 33, 63, 64} {
					if from+size <= 64 {
						what := fmt.Sprint("disk ", i, ", ", size, " bytes at ", base+from)
						patchStands(t, what, d, base+from, someText(int64(1104+from+size), size))
					}
				}
			}
		}
	}
}

func TestPatchesOverBorders(t *testing.T) {
	for i, d := range []impl.Disk{diskOf(1110, 12, 0), diskOf(1111, 12, 60)} {
		for at := 128; at <= 193; at++ {
			for _, size := range []int{1, 2, 3, 62, 63, 64, 65, 66, 126, 127, 128, 129, 130, 300} {
				what := fmt.Sprint("disk ", i, ", ", size, " bytes at ", at)
				patchStands(t, what, d, at, someText(int64(1112+at+size), size))
			}
		}
	}
}

func TestPatchesOnEveryDisk(t *testing.T) {
	for i, d := range someDisks() {
		whole := 64 * len(d.Sectors)
		for _, size := range append(writeLengths(), whole) {
			for _, at := range []int{0, 1, 63, 64, (whole - size) / 2, whole - size - 64, whole - size - 1, whole - size} {
				if at < 0 || size > impl.MaxBytes || at+size > whole || len(d.Cache)+plainTouched(at, size) > mostCached {
					continue
				}
				what := fmt.Sprint("disk ", i, ", ", size, " bytes at ", at)
				patchStands(t, what, d, at, someText(int64(1120+size+at), size))
			}
		}
	}
}

// plainTouched goes by the bytes of the patch one by one.
func plainTouched(at, size int) int {
	sectors := map[int]bool{}
	for i := range size {
		sectors[(at+i)/64] = true
	}
	return len(sectors)
}

// What is patched stands in the Cache alone: the sectors under it are blank, or have other bytes.
func TestPatchesOnTheCache(t *testing.T) {
	for _, d := range []impl.Disk{impl.DiskNew(5), diskOf(1130, 5, 0)} {
		old := someText(1131, 200)
		d = impl.DiskWrite(d, 1, old).Disk
		for _, at := range []int{64, 65, 100, 127, 128, 200, 255, 263, 264, 300} {
			for _, size := range []int{1, 5, 20} {
				patchStands(t, fmt.Sprint(size, " bytes at ", at), d, at, fewBytes(1132, size, 3))
			}
		}
		e := impl.ExtentPatch(d, 66, "new").Disk
		is(t, "what was cached beside it", impl.ExtentRead(e, impl.Extent{At: 1, Many: 200}).Text, old[:2]+"new"+old[5:])
		lost := impl.DiskCrash(e, make([]bool, len(e.Cache)))
		is(t, "lost", impl.ExtentRead(lost, impl.Extent{At: 1, Many: 200}).Text, strings.Join(d.Sectors, "")[64:264])
		keep := slices.Repeat([]bool{false}, len(e.Cache))
		keep[len(keep)-1] = true
		is(t, "kept alone", impl.DiskCrash(e, keep).Sectors[1], (old[:2] + "new" + old[5:])[:64])
	}
}

// A sector is written again and again: each patch is laid on what the last one left.
func TestPatchesAgainAndAgain(t *testing.T) {
	d := diskOf(1140, 3, 0)
	want := []byte(strings.Join(d.Sectors, ""))
	for i := range mostCached {
		at := 64 + i*7%60
		text := someText(int64(1141+i), 1+i%4)
		d = patchStands(t, fmt.Sprint("patch ", i), d, at, text)
		copy(want[at:], text)
		is(t, "all patches", allOf(t, d), string(want))
	}
	codeAlone(t, "full", impl.ExtentPatch(d, 70, "x"), impl.ErrFull)
	sameOut(t, "full, of no text", impl.ExtentPatch(d, 70, ""), impl.DiskOut{Disk: d})
}

// The bytes that a sector has already are written all the same.
func TestPatchesThatChangeNothing(t *testing.T) {
	d := diskOf(1150, 4, 5)
	all := allOf(t, d)
	for _, at := range []int{0, 1, 63, 64, 100, 192} {
		for _, size := range []int{1, 30, 64} {
			patchStands(t, fmt.Sprint(size, " bytes at ", at), d, at, all[at:at+size])
		}
	}
}

func TestPatchesOfNoText(t *testing.T) {
	for i, d := range someDisks() {
		whole := int64(64 * len(d.Sectors))
		for _, at := range []int64{0, min(1, whole), min(63, whole), whole / 2, max(0, whole-1), whole} {
			sameOut(t, fmt.Sprint("disk ", i, " at ", at), impl.ExtentPatch(d, at, ""), impl.DiskOut{Disk: d})
		}
		for _, at := range append(farPlaces(), whole+1, whole+63, whole+64) {
			codeAlone(t, fmt.Sprint("disk ", i, " at ", at), impl.ExtentPatch(d, at, ""), impl.ErrRange)
		}
	}
}

func TestPatchAtEachEdge(t *testing.T) {
	codes := map[int64]bool{}
	for i, d := range someDisks() {
		whole := int64(64 * len(d.Sectors))
		for _, size := range append(writeLengths(), 20001, 20064, 50000) {
			text := someText(int64(1160+size), size)
			ends := whole - int64(size)
			for _, at := range append(farPlaces(), 0, 1, 63, 64, ends-64, ends-1, ends, ends+1, ends+63, ends+64, whole-1, whole, whole+1) {
				what := fmt.Sprint("disk ", i, ", ", size, " bytes at ", at)
				out := impl.ExtentPatch(d, at, text)
				sameOut(t, what, out, plainPatch(d, at, text))
				codes[out.Code] = true
			}
		}
	}
	is(t, "all codes but ErrForm", codes[impl.OK] && codes[impl.ErrSize] && codes[impl.ErrRange] && codes[impl.ErrFull], true)
}

func TestPatchAtTheEnd(t *testing.T) {
	for _, sectors := range []int{1, 2, 313, 314, 620} {
		d := diskOf(int64(1170+sectors), sectors, 3)
		for _, size := range []int{1, 2, 63, 64, 65, 128, 20000} {
			at := 64*sectors - size
			if at < 0 {
				continue
			}
			text := someText(int64(1171+size), size)
			patchStands(t, fmt.Sprint(size, " bytes at ", at), d, at, text)
			codeAlone(t, fmt.Sprint(size, " bytes at ", at+1), impl.ExtentPatch(d, int64(at+1), text), impl.ErrRange)
		}
		codeAlone(t, "one byte at the end", impl.ExtentPatch(d, int64(64*sectors), "a"), impl.ErrRange)
		codeAlone(t, "below 0", impl.ExtentPatch(d, -1, "a"), impl.ErrRange)
		if sectors < 313 {
			codeAlone(t, "more than all", impl.ExtentPatch(d, 0, someText(1172, 64*sectors+1)), impl.ErrRange)
		}
	}
}

// The Cache has just the room for the sectors that are touched, or one Write less.
func TestPatchesFillTheCache(t *testing.T) {
	for _, run := range [][2]int{{0, 1}, {63, 1}, {0, 64}, {0, 65}, {63, 2}, {1, 64}, {62, 3}, {63, 66}, {5, 1000}, {0, 19200}, {1, 19200}, {0, 20000}, {31, 20000}, {32, 20000}, {33, 20000}, {63, 20000}, {64, 20000}} {
		at, size := run[0], run[1]
		many := plainTouched(at, size)
		text := someText(int64(1180+size), size)
		for _, cached := range []int{mostCached - many - 1, mostCached - many} {
			what := fmt.Sprint(size, " bytes at ", at, ", cached ", cached)
			patchStands(t, what, diskOf(int64(1181+cached), 620, cached), at, text)
		}
		for _, cached := range []int{mostCached - many + 1, mostCached} {
			what := fmt.Sprint(size, " bytes at ", at, ", cached ", cached)
			codeAlone(t, what, impl.ExtentPatch(diskOf(int64(1181+cached), 620, cached), int64(at), text), impl.ErrFull)
		}
	}
}

func TestExtentWrites(t *testing.T) {
	for i, d := range someDisks() {
		for _, at := range append(edgePlaces(len(d.Sectors)), 1<<57, 1<<58) {
			for _, size := range append(writeLengths(), 20001, 50000) {
				text := someText(int64(1190+size), size)
				what := fmt.Sprint("disk ", i, ", ", size, " bytes at ", at)
				out := impl.ExtentWrite(d, at, text)
				sameOut(t, what, out, plainExtentWrite(d, at, text))
				if out.Code == impl.OK {
					e := impl.Extent{At: at, Many: int64(size)}
					is(t, what+", right", impl.ExtentRight(e, int64(len(d.Sectors))), true)
					sameOut(t, what+", read", impl.ExtentRead(out.Disk, e), impl.DiskOut{Text: text})
					sameOut(t, what+", flushed", impl.ExtentRead(impl.DiskFlush(out.Disk), e), impl.DiskOut{Text: text})
				}
			}
		}
	}
}

func TestExtentWritesOfNoText(t *testing.T) {
	for i, d := range someDisks() {
		for _, at := range edgePlaces(len(d.Sectors)) {
			codeAlone(t, fmt.Sprint("disk ", i, " at ", at), impl.ExtentWrite(d, at, ""), impl.ErrRange)
		}
	}
}

func TestExtentReads(t *testing.T) {
	for i, d := range someDisks() {
		for _, many := range append(extentSizes(), wrongSizes()...) {
			ends := int64(len(d.Sectors)) - plainSectorsOf(many)
			for _, at := range append(farPlaces(), 0, 1, 2, ends-1, ends, ends+1, ends+2, 619, 620, 621) {
				e := impl.Extent{At: at, Many: many}
				sameOut(t, fmt.Sprint("disk ", i, ", ", e), impl.ExtentRead(d, e), plainExtentRead(d, e))
			}
		}
	}
}

// Extents of one byte, of just so many sectors, and of one byte more.
func TestExtentsOfEachSize(t *testing.T) {
	for _, d := range []impl.Disk{diskOf(1200, 8, 0), diskOf(1201, 8, 30)} {
		all := allOf(t, d)
		for at := range 8 {
			for many := 0; many <= len(all)-64*at; many++ {
				e := impl.Extent{At: int64(at), Many: int64(many)}
				sameOut(t, fmt.Sprint(e), impl.ExtentRead(d, e), impl.DiskOut{Text: all[64*at:][:many]})
			}
			codeAlone(t, "one byte more", impl.ExtentRead(d, impl.Extent{At: int64(at), Many: int64(len(all) - 64*at + 1)}), impl.ErrRange)
		}
	}
	d := diskOf(1202, 620, 400)
	is(t, "more sectors than a DiskRead reads", len(impl.ExtentRead(d, impl.Extent{At: 307, Many: 20000}).Text), 20000)
}

// A disk goes through many calls, and one that the chapters' words make beside it.
func TestExtentsAtWork(t *testing.T) {
	for seed := range int64(12) {
		r := rand.New(rand.NewSource(1210 + seed))
		sectors := []int{1, 2, 3, 9, 40, 620}[seed%6]
		d := impl.DiskNew(int64(sectors))
		want := kept(d)
		for range 120 {
			text := fewBytes(r.Int63(), r.Intn([]int{3, 65, 700}[r.Intn(3)]), 3)
			var out, plain impl.DiskOut
			switch at := int64(r.Intn(sectors+2) - 1); r.Intn(8) {
			case 0:
				out, plain = impl.DiskOut{Disk: impl.DiskFlush(d)}, impl.DiskOut{Disk: plainFlush(want)}
			case 1:
				keep := keepsOf(r.Int63(), len(d.Cache))[r.Intn(20)]
				out, plain = impl.DiskOut{Disk: impl.DiskCrash(d, keep)}, impl.DiskOut{Disk: plainCrash(want, keep)}
			case 2:
				out, plain = impl.ExtentWrite(d, at, text), plainExtentWrite(want, at, text)
			default:
				at = 64*at + int64(r.Intn(70))
				out, plain = impl.ExtentPatch(d, at, text), plainPatch(want, at, text)
			}
			sameOut(t, "call", out, plain)
			if out.Code == impl.OK {
				d, want = out.Disk, plain.Disk
			}
			e := impl.Extent{At: int64(r.Intn(sectors)), Many: int64(r.Intn(800))}
			sameOut(t, "read", impl.ExtentRead(d, e), plainExtentRead(want, e))
		}
	}
}

func TestExtentsOfWrongDisks(t *testing.T) {
	for _, wrong := range wrongDisks() {
		d := wrong.disk
		for _, at := range []int64{math.MinInt64, -1, 0, 2, 7, 8, 447, 448, 449, 620, 621, 1 << 58, math.MaxInt64} {
			for _, size := range []int{0, 1, 64, 65, 450, 20000} {
				text := someText(1220, size)
				codeAlone(t, wrong.what, impl.ExtentWrite(d, at, text), impl.ErrForm)
				codeAlone(t, wrong.what, impl.ExtentPatch(d, at, text), impl.ErrForm)
			}
			for _, many := range []int64{math.MinInt64, -1, 0, 1, 64, 65, 20000, 20001, math.MaxInt64} {
				codeAlone(t, wrong.what, impl.ExtentRead(d, impl.Extent{At: at, Many: many}), impl.ErrForm)
			}
		}
	}
}

// Of several faults the one is told that the chapters name first.
func TestTheFirstFaultOfAnExtentIsTold(t *testing.T) {
	full, wrong := diskOf(1221, 9, mostCached), diskOf(1222, 9, mostCached+1)
	for _, d := range []impl.Disk{full, wrong, diskOf(1223, 621, 0), diskOf(1224, 9, 3), {}} {
		for _, at := range []int64{math.MinInt64, -1, 0, 9, 10, 576, 577, math.MaxInt64} {
			for _, more := range []int{1, 64, 9999} {
				text := someText(1225, impl.MaxBytes+more)
				codeAlone(t, "too long a write", impl.ExtentWrite(d, at, text), impl.ErrSize)
				codeAlone(t, "too long a patch", impl.ExtentPatch(d, at, text), impl.ErrSize)
			}
		}
	}
	codeAlone(t, "no text, wrong", impl.ExtentWrite(wrong, 0, ""), impl.ErrForm)
	codeAlone(t, "no text, out of range, wrong", impl.ExtentWrite(wrong, 10, ""), impl.ErrForm)
	codeAlone(t, "no text, full", impl.ExtentWrite(full, 0, ""), impl.ErrRange)
	codeAlone(t, "no text, behind the disk", impl.ExtentWrite(full, 10, ""), impl.ErrRange)
	codeAlone(t, "out of range, full", impl.ExtentWrite(full, 9, "a"), impl.ErrRange)
	codeAlone(t, "full", impl.ExtentWrite(full, 8, "a"), impl.ErrFull)
	codeAlone(t, "patch: wrong, out of range", impl.ExtentPatch(wrong, 576, "a"), impl.ErrForm)
	codeAlone(t, "patch: no text, wrong", impl.ExtentPatch(wrong, 0, ""), impl.ErrForm)
	codeAlone(t, "patch: no text, behind the disk", impl.ExtentPatch(full, 577, ""), impl.ErrRange)
	codeAlone(t, "patch: below 0, full", impl.ExtentPatch(full, -1, "a"), impl.ErrRange)
	codeAlone(t, "patch: out of range, full", impl.ExtentPatch(full, 576, "a"), impl.ErrRange)
	codeAlone(t, "patch: full", impl.ExtentPatch(full, 575, "a"), impl.ErrFull)
	codeAlone(t, "read: wrong, out of range", impl.ExtentRead(wrong, impl.Extent{At: 9, Many: 1}), impl.ErrForm)
}

func TestExtentsAreNewMemoryAndLeaveAllAsItWas(t *testing.T) {
	text := someText(1230, 100)
	for i, given := range []impl.Disk{diskOf(1231, 9, 0), diskOf(1232, 9, 12), diskOf(1233, 2, 30), impl.DiskNew(20)} {
		for name, call := range map[string]func(impl.Disk) impl.Disk{
			"write":          func(d impl.Disk) impl.Disk { return impl.ExtentWrite(d, 0, text).Disk },
			"just sectors":   func(d impl.Disk) impl.Disk { return impl.ExtentWrite(d, 0, text[:64]).Disk },
			"patch":          func(d impl.Disk) impl.Disk { return impl.ExtentPatch(d, 10, text).Disk },
			"a whole sector": func(d impl.Disk) impl.Disk { return impl.ExtentPatch(d, 64, text[:64]).Disk },
			"no patch":       func(d impl.Disk) impl.Disk { return impl.ExtentPatch(d, 10, "").Disk },
		} {
			what := fmt.Sprint(name, " of disk ", i)
			d := roomy(given)
			first := call(d)
			want := kept(first)
			apartFrom(t, what, first, append(textsIn(d), text))
			sameDisk(t, what+", as it was", d, given)
			is(t, what+", behind its end", roomLeft(d), true)
			second := call(d)
			spoil(first)
			sameDisk(t, what+", answers apart", second, want)
			sameDisk(t, what+", not the answer", d, given)
			spoil(d)
			sameDisk(t, what+", not the argument", second, want)
		}
	}
}

func TestExtentsReadAreNewMemory(t *testing.T) {
	for _, given := range []impl.Disk{diskOf(1240, 5, 0), diskOf(1241, 5, 9)} {
		d := roomy(given)
		for _, many := range []int64{1, 63, 64, 65, 320} {
			out := impl.ExtentRead(d, impl.Extent{Many: many})
			for _, text := range textsIn(d) {
				is(t, "shares", within(out.Text, text) || within(text, out.Text), false)
			}
			sameDisk(t, "as it was", d, given)
			is(t, "behind its end", roomLeft(d), true)
		}
	}
}
