package tests

import (
	"fmt"
	"math"
	"math/rand"
	"slices"
	"strings"
	"testing"

	"loop.example/g00320/impl"
)

const (
	mostCached = 400
	mostRead   = 300
)

var blank = strings.Repeat("\x00", 64)

// plainRight is DiskRight as the chapter says it.
func plainRight(d impl.Disk) bool {
	for _, s := range d.Sectors {
		if len(s) != 64 {
			return false
		}
	}
	for _, w := range d.Cache {
		if w.At < 0 || w.At >= int64(len(d.Sectors)) || len(w.Text) != 64 {
			return false
		}
	}
	return len(d.Sectors) <= 620 && len(d.Cache) <= mostCached
}

// plainHas looks for the last Write of the sector from the Cache's end on.
func plainHas(d impl.Disk, at int64) string {
	for _, w := range slices.Backward(d.Cache) {
		if w.At == at {
			return w.Text
		}
	}
	return d.Sectors[at]
}

// plainThere goes by the sectors one by one, so that no sum can outgrow its bits.
func plainThere(d impl.Disk, at, many int64) bool {
	if many == 0 {
		return at >= 0 && at <= int64(len(d.Sectors))
	}
	for range many {
		if at < 0 || at >= int64(len(d.Sectors)) {
			return false
		}
		at++
	}
	return true
}

func plainPieces(text string) []string {
	var out []string
	for len(text) > 64 {
		out = append(out, text[:64])
		text = text[64:]
	}
	if text != "" {
		out = append(out, text+blank[len(text):])
	}
	return out
}

func plainWrite(d impl.Disk, at int64, text string) impl.DiskOut {
	pieces := plainPieces(text)
	switch {
	case len(text) > 20000:
		return impl.DiskOut{Code: impl.ErrSize}
	case !plainRight(d):
		return impl.DiskOut{Code: impl.ErrForm}
	case !plainThere(d, at, int64(len(pieces))):
		return impl.DiskOut{Code: impl.ErrRange}
	case len(d.Cache)+len(pieces) > mostCached:
		return impl.DiskOut{Code: impl.ErrFull}
	}
	out := kept(d)
	for i, p := range pieces {
		out.Cache = append(out.Cache, impl.Write{At: at + int64(i), Text: p})
	}
	return impl.DiskOut{Disk: out}
}

func plainRead(d impl.Disk, at, many int64) impl.DiskOut {
	switch {
	case !plainRight(d):
		return impl.DiskOut{Code: impl.ErrForm}
	case many < 0 || many > mostRead || !plainThere(d, at, many):
		return impl.DiskOut{Code: impl.ErrRange}
	}
	var out impl.DiskOut
	for i := range many {
		out.Text += plainHas(d, at+i)
	}
	return out
}

func plainFlush(d impl.Disk) impl.Disk {
	if !plainRight(d) {
		return kept(d)
	}
	var out impl.Disk
	for i := range d.Sectors {
		out.Sectors = append(out.Sectors, plainHas(d, int64(i)))
	}
	return out
}

// plainCrash does the Writes one by one, in order.
func plainCrash(d impl.Disk, keep []bool) impl.Disk {
	if len(keep) > 400 {
		return impl.Disk{}
	}
	if !plainRight(d) {
		return kept(d)
	}
	out := impl.Disk{Sectors: slices.Clone(d.Sectors)}
	for i := range min(len(keep), len(d.Cache)) {
		if keep[i] {
			out.Sectors[d.Cache[i].At] = d.Cache[i].Text
		}
	}
	return out
}

// kept has lists of its own; the texts in them can't be changed.
func kept(d impl.Disk) impl.Disk {
	return impl.Disk{Sectors: slices.Clone(d.Sectors), Cache: slices.Clone(d.Cache)}
}

func diskSame(a, b impl.Disk) bool {
	return slices.Equal(a.Sectors, b.Sectors) && slices.Equal(a.Cache, b.Cache)
}

func diskTold(d impl.Disk) string {
	return fmt.Sprintf("%d sectors, %d cached: %.300s", len(d.Sectors), len(d.Cache), fmt.Sprintf("%#v", d))
}

func sameDisk(t *testing.T, what string, got, want impl.Disk) {
	t.Helper()
	if !diskSame(got, want) {
		t.Errorf("%.80q: got %s, want %s", what, diskTold(got), diskTold(want))
	}
}

func sameOut(t *testing.T, what string, got, want impl.DiskOut) {
	t.Helper()
	is(t, what+", code", got.Code, want.Code)
	is(t, what+", text", got.Text, want.Text)
	sameDisk(t, what, got.Disk, want.Disk)
}

// codeAlone asks for nothing beside the code.
func codeAlone(t *testing.T, what string, got impl.DiskOut, code int64) {
	t.Helper()
	sameOut(t, what, got, impl.DiskOut{Code: code})
}

// diskOf is right; its Writes come again and again to the same sectors, if there are few of them.
func diskOf(seed int64, sectors, writes int) impl.Disk {
	r := rand.New(rand.NewSource(seed))
	var d impl.Disk
	for range sectors {
		d.Sectors = append(d.Sectors, someText(r.Int63(), 64))
	}
	for range writes {
		w := impl.Write{At: int64(r.Intn(sectors)), Text: someText(r.Int63(), 64)}
		d.Cache = append(d.Cache, w)
	}
	return d
}

func someDisks() []impl.Disk {
	l := []impl.Disk{{}, {Sectors: []string{}, Cache: []impl.Write{}}}
	for i, size := range [][2]int{{1, 0}, {1, 1}, {1, 5}, {2, 0}, {3, 1}, {3, 20}, {10, 90}, {40, 399}, {40, 400}, {299, 7}, {300, 60}, {301, 88}, {619, 350}, {620, 0}, {620, 86}, {620, 87}, {620, 88}, {620, 400}} {
		l = append(l, diskOf(int64(1000+i), size[0], size[1]))
	}
	return append(l, impl.DiskNew(0), impl.DiskNew(1), impl.DiskNew(620))
}

type namedDisk struct {
	what string
	disk impl.Disk
}

// wrongDisks have one fault each.
func wrongDisks() []namedDisk {
	var l []namedDisk
	add := func(what string, sectors, writes int, spoil func(d *impl.Disk)) {
		d := diskOf(int64(len(what)), sectors, writes)
		spoil(&d)
		l = append(l, namedDisk{what, d})
	}
	for _, at := range []int{0, 3, 6} {
		for _, size := range []int{0, 1, 63, 65, 128, 30000} {
			add(fmt.Sprint("sector ", at, " of ", size), 7, 7, func(d *impl.Disk) { d.Sectors[at] = someText(9, size) })
			add(fmt.Sprint("sector ", at, " of ", size, ", none cached"), 7, 0, func(d *impl.Disk) { d.Sectors[at] = someText(9, size) })
			add(fmt.Sprint("write ", at, " of ", size), 7, 7, func(d *impl.Disk) { d.Cache[at].Text = someText(9, size) })
		}
		for _, to := range []int64{-1, 7, 8, 620, math.MinInt64, math.MaxInt64, math.MinInt32, 1 << 32} {
			add(fmt.Sprint("write ", at, " to ", to), 7, 7, func(d *impl.Disk) { d.Cache[at].At = to })
		}
	}
	add("621 sectors", 621, 0, func(d *impl.Disk) {})
	add("621 sectors, some cached", 621, 9, func(d *impl.Disk) {})
	add("2000 sectors", 2000, 0, func(d *impl.Disk) {})
	add("401 writes", 7, 401, func(d *impl.Disk) {})
	add("3000 writes", 620, 3000, func(d *impl.Disk) {})
	add("a write, no sector", 0, 0, func(d *impl.Disk) { d.Cache = []impl.Write{{Text: blank}} })
	add("a write to 620", 620, 1, func(d *impl.Disk) { d.Cache[0].At = 620 })
	add("two that would even out", 7, 0, func(d *impl.Disk) { d.Sectors[2], d.Sectors[3] = blank[1:], blank+"x" })
	return l
}

// allOf has what all sectors have, read in as few calls as go.
func allOf(t *testing.T, d impl.Disk) string {
	t.Helper()
	all := ""
	for at := 0; at < len(d.Sectors); at += mostRead {
		out := impl.DiskRead(d, int64(at), int64(min(mostRead, len(d.Sectors)-at)))
		is(t, "read", out.Code, impl.OK)
		all += out.Text
	}
	return all
}

func TestDiskConstants(t *testing.T) {
	is(t, "Sector", impl.Sector, 64)
	is(t, "MaxSectors", impl.MaxSectors, 620)
}

func TestNewDisks(t *testing.T) {
	for _, many := range []int64{0, 1, 2, 3, 64, 300, 311, 400, 401, 619, 620} {
		d := impl.DiskNew(many)
		is(t, "sectors", int64(len(d.Sectors)), many)
		is(t, "cached", len(d.Cache), 0)
		is(t, "right", impl.DiskRight(d), true)
		for _, s := range d.Sectors {
			is(t, "sector", s, blank)
		}
		is(t, "all", allOf(t, d), strings.Repeat(blank, int(many)))
	}
	for _, many := range []int64{-1, -2, -620, 621, 622, 20000, math.MinInt64, math.MaxInt64, 1 << 32, math.MinInt32} {
		sameDisk(t, fmt.Sprint(many), impl.DiskNew(many), impl.Disk{})
	}
}

func TestDisksRight(t *testing.T) {
	for _, d := range someDisks() {
		is(t, diskTold(d), impl.DiskRight(d), true)
	}
	for _, wrong := range wrongDisks() {
		is(t, wrong.what, impl.DiskRight(wrong.disk), false)
	}
	for at := int64(-2); at < 5; at++ {
		d := impl.Disk{Sectors: []string{blank, blank, blank}, Cache: []impl.Write{{At: at, Text: blank}}}
		is(t, fmt.Sprint("at ", at), impl.DiskRight(d), at >= 0 && at < 3)
	}
}

func TestDiskKnown(t *testing.T) {
	d := impl.DiskWrite(impl.DiskNew(3), 1, "hello").Disk
	hello := "hello" + blank[5:]
	sameDisk(t, "written", d, impl.Disk{Sectors: []string{blank, blank, blank}, Cache: []impl.Write{{At: 1, Text: hello}}})
	sameOut(t, "read", impl.DiskRead(d, 1, 1), impl.DiskOut{Text: hello})
	sameOut(t, "ahead", impl.DiskRead(d, 0, 1), impl.DiskOut{Text: blank})
	sameOut(t, "all", impl.DiskRead(d, 0, 3), impl.DiskOut{Text: blank + hello + blank})
	sameDisk(t, "flushed", impl.DiskFlush(d), impl.Disk{Sectors: []string{blank, hello, blank}})
	sameDisk(t, "lost", impl.DiskCrash(d, nil), impl.DiskNew(3))
	sameDisk(t, "kept", impl.DiskCrash(d, []bool{true}), impl.DiskFlush(d))
	long := strings.Repeat("a", 64) + strings.Repeat("b", 64) + "c"
	d = impl.DiskWrite(d, 0, long).Disk
	want := []impl.Write{{At: 1, Text: hello}, {At: 0, Text: long[:64]}, {At: 1, Text: long[64:128]}, {At: 2, Text: "c" + blank[1:]}}
	is(t, "behind the others", slices.Equal(d.Cache, want), true)
	sameOut(t, "the last one", impl.DiskRead(d, 0, 3), impl.DiskOut{Text: long + blank[1:]})
	some := impl.Disk{Sectors: []string{long[:64], hello, blank}}
	sameDisk(t, "some kept", impl.DiskCrash(d, []bool{true, true, false}), some)
}

func writeLengths() []int {
	return []int{0, 1, 2, 63, 64, 65, 127, 128, 129, 640, 1000, 6399, 19199, 19200, 19201, 19968, 19969, 19999, 20000}
}

// writtenIsRead is promise 9 of one text: it is read, with and without a flush, and nothing else is another one.
func writtenIsRead(t *testing.T, what string, d impl.Disk, at int64, text string) {
	t.Helper()
	out := impl.DiskWrite(d, at, text)
	is(t, what+", code", out.Code, impl.OK)
	is(t, what+", text", out.Text, "")
	many := (len(text) + 63) / 64
	before := allOf(t, d)
	filled := text + strings.Repeat("\x00", 64*many-len(text))
	want := before[:64*at] + filled + before[64*int(at)+64*many:]
	flushed := impl.DiskFlush(out.Disk)
	crashed := impl.DiskCrash(out.Disk, slices.Repeat([]bool{true}, len(out.Disk.Cache)))
	is(t, what+", right", impl.DiskRight(out.Disk) && impl.DiskRight(flushed), true)
	is(t, what+", read", allOf(t, out.Disk), want)
	is(t, what+", flushed", allOf(t, flushed), want)
	is(t, what+", on the sectors", strings.Join(flushed.Sectors, ""), want)
	is(t, what+", nothing cached", len(flushed.Cache), 0)
	sameDisk(t, what+", all kept", crashed, flushed)
	is(t, what+", as much cached", len(out.Disk.Cache), len(d.Cache)+many)
	is(t, what+", the others ahead", slices.Equal(out.Disk.Cache[:len(d.Cache)], d.Cache), true)
}

func TestWrittenIsRead(t *testing.T) {
	for i, d := range someDisks() {
		sectors := len(d.Sectors)
		for _, size := range writeLengths() {
			many := (size + 63) / 64
			if many > sectors || len(d.Cache)+many > mostCached {
				continue
			}
			for _, at := range []int{0, 1, (sectors - many) / 2, sectors - many - 1, sectors - many} {
				if at >= 0 && at+many <= sectors {
					what := fmt.Sprint("disk ", i, ", ", size, " bytes at ", at)
					writtenIsRead(t, what, d, int64(at), someText(int64(size+at), size))
				}
			}
		}
	}
}

// Bytes 0 that a text has itself are told apart from those that fill up only by how long it is: both are written.
func TestTextsThatEndInNoughts(t *testing.T) {
	d := diskOf(1030, 5, 6)
	for _, text := range []string{"\x00", "a\x00", blank, blank + "\x00", "a" + blank, blank + blank, blank[1:]} {
		writtenIsRead(t, text, d, 2, text)
	}
}

func TestTheSameSectorAgainAndAgain(t *testing.T) {
	d := diskOf(1031, 3, 0)
	first := kept(d)
	for i := range mostCached {
		text := someText(int64(i), 1+i%64)
		out := impl.DiskWrite(d, 1, text)
		is(t, "code", out.Code, impl.OK)
		d = out.Disk
		is(t, "cached", len(d.Cache), i+1)
		is(t, "the last one", impl.DiskRead(d, 1, 1).Text, text+blank[len(text):])
		is(t, "beside it", impl.DiskRead(d, 0, 1).Text+impl.DiskRead(d, 2, 1).Text, first.Sectors[0]+first.Sectors[2])
		sameDisk(t, "flushed", impl.DiskFlush(d), plainFlush(d))
	}
	codeAlone(t, "full", impl.DiskWrite(d, 1, "x"), impl.ErrFull)
	sameOut(t, "full, of no text", impl.DiskWrite(d, 1, ""), impl.DiskOut{Disk: d})
	for i := range mostCached {
		keep := make([]bool, mostCached)
		keep[i] = true
		is(t, "the one kept", impl.DiskCrash(d, keep).Sectors[1], d.Cache[i].Text)
		is(t, "the last one kept", impl.DiskCrash(d, slices.Repeat([]bool{true}, i+1)).Sectors[1], d.Cache[i].Text)
	}
}

// The sector has what it had ahead of another Write, or is blank again: the last Write still is the one that counts.
func TestWrittenBack(t *testing.T) {
	d := diskOf(1032, 4, 0)
	old := d.Sectors[2]
	for _, texts := range [][]string{{"x", old}, {old}, {old, "x"}, {"x", old, "y"}, {blank}, {"x", blank}, {blank, old}, {"x", "x"}} {
		e := kept(d)
		for _, text := range texts {
			e = impl.DiskWrite(e, 2, text).Disk
		}
		last := texts[len(texts)-1]
		is(t, "read", impl.DiskRead(e, 2, 1).Text, last+blank[len(last):])
		sameDisk(t, "flushed", impl.DiskFlush(e), plainFlush(e))
		for code := range 1 << len(texts) {
			var keep []bool
			for i := range texts {
				keep = append(keep, code>>i&1 == 1)
			}
			sameDisk(t, fmt.Sprint(keep), impl.DiskCrash(e, keep), plainCrash(e, keep))
		}
	}
}

func edgePlaces(sectors int) []int64 {
	n := int64(sectors)
	return []int64{math.MinInt64, math.MinInt64 + 1, math.MinInt32, -300, -2, -1, 0, 1, n / 2, n - 313, n - 312, n - 300, n - 3, n - 2, n - 1, n, n + 1, n + 2, 620, 621, 1 << 32, math.MaxInt64 - 313, math.MaxInt64 - 1, math.MaxInt64}
}

func TestWriteAtEachEdge(t *testing.T) {
	codes := map[int64]bool{}
	for i, d := range someDisks() {
		for _, at := range edgePlaces(len(d.Sectors)) {
			for _, size := range append(writeLengths(), 20001, 20064, 50000) {
				what := fmt.Sprint("disk ", i, ", ", size, " bytes at ", at)
				out := impl.DiskWrite(d, at, someText(int64(size), size))
				sameOut(t, what, out, plainWrite(d, at, someText(int64(size), size)))
				codes[out.Code] = true
			}
		}
	}
	is(t, "all codes but ErrForm", codes[impl.OK] && codes[impl.ErrSize] && codes[impl.ErrRange] && codes[impl.ErrFull], true)
}

func TestReadAtEachEdge(t *testing.T) {
	for i, d := range someDisks() {
		for _, at := range edgePlaces(len(d.Sectors)) {
			for _, many := range []int64{math.MinInt64, math.MinInt32, -1, 0, 1, 2, 3, 64, 298, 299, 300, 301, 302, 620, 621, 1 << 32, math.MaxInt64 - 1, math.MaxInt64} {
				what := fmt.Sprint("disk ", i, ", ", many, " at ", at)
				sameOut(t, what, impl.DiskRead(d, at, many), plainRead(d, at, many))
			}
		}
	}
}

func TestWriteAtTheEnd(t *testing.T) {
	for _, sectors := range []int64{0, 1, 2, 620} {
		d := impl.DiskNew(sectors)
		for at := max(0, sectors-2); at <= sectors; at++ {
			sameOut(t, "no text", impl.DiskWrite(d, at, ""), impl.DiskOut{Disk: d})
			sameOut(t, "none read", impl.DiskRead(d, at, 0), impl.DiskOut{})
		}
		for _, at := range []int64{-1, sectors + 1, math.MinInt64, math.MaxInt64} {
			codeAlone(t, "no text", impl.DiskWrite(d, at, ""), impl.ErrRange)
			codeAlone(t, "none read", impl.DiskRead(d, at, 0), impl.ErrRange)
		}
		codeAlone(t, "at the end", impl.DiskWrite(d, sectors, "a"), impl.ErrRange)
		codeAlone(t, "read at the end", impl.DiskRead(d, sectors, 1), impl.ErrRange)
		codeAlone(t, "a byte too many", impl.DiskWrite(d, max(0, sectors-1), blank+"a"[:min(1, int(sectors))]), impl.ErrRange)
		if sectors > 0 {
			is(t, "at the last sector", impl.DiskWrite(d, sectors-1, blank).Code, impl.OK)
			is(t, "the last sector", impl.DiskRead(d, sectors-1, 1).Text, blank)
		}
	}
}

func TestTheCacheAtItsLimit(t *testing.T) {
	for _, cached := range []int{0, 86, 87, 88, 200, 399, 400} {
		d := diskOf(int64(1040+cached), 620, cached)
		for _, many := range []int{0, 1, 2, 199, 200, 201, 312, 313} {
			for _, less := range []int{0, 1, 63} {
				size := max(0, min(64*many, 20000)-less)
				out := impl.DiskWrite(d, 5, someText(1041, size))
				pieces := (size + 63) / 64
				is(t, fmt.Sprint(cached, " and ", many), out.Code == impl.ErrFull, cached+pieces > mostCached)
				sameOut(t, fmt.Sprint(cached, " and ", many), out, plainWrite(d, 5, someText(1041, size)))
			}
		}
	}
}

func keepsOf(seed int64, cached int) [][]bool {
	r := rand.New(rand.NewSource(seed))
	l := [][]bool{nil, {}, {true}, {false}, {false, true}, slices.Repeat([]bool{true}, 400), make([]bool, 400)}
	for _, many := range []int{0, 1, cached - 1, cached, cached + 1, cached / 2, 399, 400} {
		if many < 0 || many > 400 {
			continue
		}
		l = append(l, slices.Repeat([]bool{true}, many), make([]bool, many))
		for range 6 {
			keep := make([]bool, many)
			for i := range keep {
				keep[i] = r.Intn(2) == 1
			}
			l = append(l, keep)
		}
	}
	return l
}

func TestCrashes(t *testing.T) {
	for i, d := range someDisks() {
		for j, keep := range keepsOf(int64(i), len(d.Cache)) {
			got := impl.DiskCrash(d, keep)
			sameDisk(t, fmt.Sprint("disk ", i, ", keep ", j), got, plainCrash(d, keep))
			is(t, "right", impl.DiskRight(got), true)
			is(t, "nothing cached", len(got.Cache), 0)
		}
		sameDisk(t, "none kept", impl.DiskCrash(d, nil), impl.Disk{Sectors: d.Sectors})
		for _, many := range []int{len(d.Cache), min(400, len(d.Cache)+1), 400} {
			sameDisk(t, "all kept", impl.DiskCrash(d, slices.Repeat([]bool{true}, many)), impl.DiskFlush(d))
		}
	}
}

// What is lost is lost: a flush ahead of a crash leaves nothing to lose.
func TestFlushes(t *testing.T) {
	for i, d := range someDisks() {
		what := fmt.Sprint("disk ", i)
		flushed := impl.DiskFlush(d)
		sameDisk(t, what, flushed, plainFlush(d))
		is(t, what, allOf(t, flushed), allOf(t, d))
		sameDisk(t, what+", again", impl.DiskFlush(flushed), flushed)
		sameDisk(t, what+", crashed", impl.DiskCrash(flushed, nil), flushed)
		sameDisk(t, what+", crashed, all kept", impl.DiskCrash(flushed, []bool{true, true}), flushed)
	}
}

// A disk goes through many calls, and one that the chapter's words make beside it.
func TestDisksAtWork(t *testing.T) {
	for seed := range int64(12) {
		r := rand.New(rand.NewSource(1050 + seed))
		sectors := []int{1, 2, 3, 9, 40, 620}[seed%6]
		d := impl.DiskNew(int64(sectors))
		want := kept(d)
		for range 150 {
			at := int64(r.Intn(sectors+2) - 1)
			switch r.Intn(8) {
			case 0:
				d, want = impl.DiskFlush(d), plainFlush(want)
			case 1:
				keep := keepsOf(r.Int63(), len(d.Cache))[r.Intn(20)]
				d, want = impl.DiskCrash(d, keep), plainCrash(want, keep)
			default:
				text := fewBytes(r.Int63(), r.Intn([]int{3, 65, 700}[r.Intn(3)]), 3)
				out, plain := impl.DiskWrite(d, at, text), plainWrite(want, at, text)
				sameOut(t, "write", out, plain)
				if out.Code == impl.OK {
					d, want = out.Disk, plain.Disk
				}
			}
			sameDisk(t, "disk", d, want)
			many := int64(r.Intn(min(sectors, mostRead) + 1))
			sameOut(t, "read", impl.DiskRead(d, at, many), plainRead(want, at, many))
		}
	}
}

func TestWrongDisksAreRefused(t *testing.T) {
	for _, wrong := range wrongDisks() {
		d := wrong.disk
		for _, at := range []int64{math.MinInt64, -1, 0, 2, 7, 8, 620, 621, math.MaxInt64} {
			for _, size := range []int{0, 1, 64, 65, 450, 20000} {
				codeAlone(t, wrong.what, impl.DiskWrite(d, at, someText(1060, size)), impl.ErrForm)
			}
			for _, many := range []int64{math.MinInt64, -1, 0, 1, 300, 301, math.MaxInt64} {
				codeAlone(t, wrong.what, impl.DiskRead(d, at, many), impl.ErrForm)
			}
		}
		sameDisk(t, wrong.what+", flushed", impl.DiskFlush(d), d)
		for _, many := range []int{0, 1, 7, 399, 400} {
			sameDisk(t, wrong.what+", crashed", impl.DiskCrash(d, make([]bool, many)), d)
			sameDisk(t, wrong.what+", crashed, all kept", impl.DiskCrash(d, slices.Repeat([]bool{true}, many)), d)
		}
	}
}

// Of several faults the one is told that the chapters name first.
func TestTheFirstFaultIsTold(t *testing.T) {
	full, wrong := diskOf(1061, 9, mostCached), diskOf(1062, 9, mostCached+1)
	for _, d := range []impl.Disk{full, wrong, diskOf(1063, 621, 0), diskOf(1064, 9, 3), {}} {
		for _, at := range []int64{-1, 0, 9, 10, math.MaxInt64} {
			for _, more := range []int{1, 64, 9999} {
				codeAlone(t, "too long", impl.DiskWrite(d, at, someText(1065, impl.MaxBytes+more)), impl.ErrSize)
			}
		}
	}
	codeAlone(t, "wrong, out of range, full", impl.DiskWrite(wrong, 9, "a"), impl.ErrForm)
	codeAlone(t, "out of range and full", impl.DiskWrite(full, 9, "a"), impl.ErrRange)
	codeAlone(t, "below 0 and full", impl.DiskWrite(full, -1, "a"), impl.ErrRange)
	codeAlone(t, "no text, out of range, full", impl.DiskWrite(full, 10, ""), impl.ErrRange)
	codeAlone(t, "so many, out of range and full", impl.DiskWrite(full, 0, someText(1066, 577)), impl.ErrRange)
	codeAlone(t, "full", impl.DiskWrite(full, 0, someText(1066, 576)), impl.ErrFull)
	codeAlone(t, "wrong, and too many read", impl.DiskRead(wrong, 0, 301), impl.ErrForm)
	codeAlone(t, "too many, though there", impl.DiskRead(impl.DiskNew(620), 0, 301), impl.ErrRange)
	is(t, "as many as go", len(impl.DiskRead(impl.DiskNew(620), 320, 300).Text), 19200)
}

// A keep of more than MaxList items is refused ahead of all else; of just so many it is not.
func TestKeepsTooLong(t *testing.T) {
	for _, d := range append(someDisks(), diskOf(1067, 9, 401), diskOf(1068, 621, 1)) {
		for _, many := range []int{401, 402, 5000} {
			for _, one := range []bool{false, true} {
				sameDisk(t, fmt.Sprint(many), impl.DiskCrash(d, slices.Repeat([]bool{one}, many)), impl.Disk{})
			}
		}
	}
}

// textsIn has all texts of a disk, list behind list.
func textsIn(d impl.Disk) []string {
	l := slices.Clone(d.Sectors)
	for _, w := range d.Cache {
		l = append(l, w.Text)
	}
	return l
}

// apartFrom asks that no text of the answer shares memory with one that was handed in, nor with another one of it.
func apartFrom(t *testing.T, what string, out impl.Disk, given []string) {
	t.Helper()
	told := textsIn(out)
	for i, a := range told {
		for _, b := range given {
			if a != "" && within(b, a) {
				t.Fatalf("%s: text %d shares memory with what was handed in", what, i)
			}
		}
		for _, b := range told[:i] {
			if a != "" && within(b, a) {
				t.Fatalf("%s: text %d shares memory with another one of the answer", what, i)
			}
		}
	}
}

// roomy has lists with room behind their ends, and something in it.
func roomy(d impl.Disk) impl.Disk {
	sectors := append(slices.Clone(d.Sectors), slices.Repeat([]string{"room"}, 20)...)
	cache := append(slices.Clone(d.Cache), slices.Repeat([]impl.Write{{At: 9, Text: "room"}}, 20)...)
	return impl.Disk{Sectors: sectors[:len(d.Sectors)], Cache: cache[:len(d.Cache)]}
}

func roomLeft(d impl.Disk) bool {
	for _, s := range d.Sectors[len(d.Sectors) : len(d.Sectors)+20] {
		if s != "room" {
			return false
		}
	}
	for _, w := range d.Cache[len(d.Cache) : len(d.Cache)+20] {
		if w != (impl.Write{At: 9, Text: "room"}) {
			return false
		}
	}
	return true
}

func spoil(d impl.Disk) {
	for i := range d.Sectors {
		d.Sectors[i] = "spoilt"
	}
	for i := range d.Cache {
		d.Cache[i] = impl.Write{At: -9, Text: "spoilt"}
	}
}

func TestDisksAreNewMemoryAndLeftAsTheyWere(t *testing.T) {
	for i, given := range []impl.Disk{diskOf(1070, 9, 0), diskOf(1071, 9, 12), diskOf(1072, 2, 30), impl.DiskNew(20), diskOf(1073, 9, 401), diskOf(1074, 621, 3)} {
		text := someText(1075, 100)
		keep := slices.Repeat([]bool{true, false}, 10)
		for name, call := range map[string]func(impl.Disk) impl.Disk{
			"write":    func(d impl.Disk) impl.Disk { return impl.DiskWrite(d, 0, text).Disk },
			"no write": func(d impl.Disk) impl.Disk { return impl.DiskWrite(d, 0, "").Disk },
			"flush":    impl.DiskFlush,
			"crash":    func(d impl.Disk) impl.Disk { return impl.DiskCrash(d, keep) },
			"lost":     func(d impl.Disk) impl.Disk { return impl.DiskCrash(d, nil) },
		} {
			what := fmt.Sprint(name, " of disk ", i)
			d := roomy(given)
			first := call(d)
			want := kept(first)
			apartFrom(t, what, first, append(textsIn(d), text))
			sameDisk(t, what+", as it was", d, given)
			is(t, what+", behind its end", roomLeft(d), true)
			second := call(d)
			spoil(first)
			sameDisk(t, what+", answers apart", second, want)
			sameDisk(t, what+", not the answer", d, given)
			spoil(d)
			sameDisk(t, what+", not the argument", second, want)
		}
		is(t, "keep as it was", slices.Equal(keep, slices.Repeat([]bool{true, false}, 10)), true)
	}
}

func TestWhatIsReadIsNewMemory(t *testing.T) {
	for _, d := range []impl.Disk{diskOf(1076, 5, 0), diskOf(1077, 5, 9)} {
		for _, many := range []int64{1, 2, 5} {
			out := impl.DiskRead(d, 0, many)
			for _, text := range textsIn(d) {
				is(t, "shares", within(out.Text, text) || within(text, out.Text), false)
			}
		}
	}
	apartFrom(t, "new", impl.DiskNew(30), textsIn(impl.DiskNew(30)))
	long := someText(1078, 640)
	apartFrom(t, "one of many", impl.DiskWrite(impl.DiskNew(10), 0, long).Disk, []string{long})
	one := someText(1079, 64)
	apartFrom(t, "just one", impl.DiskWrite(impl.DiskNew(10), 0, one).Disk, []string{one})
}
