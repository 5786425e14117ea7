package tests

import (
	"fmt"
	"math"
	"math/big"
	"math/rand"
	"regexp"
	"slices"
	"strings"
	"testing"

	"loop.example/g00320/impl"
)

const (
	mostNext = 900000
	mostCrc  = 1<<32 - 1
)

var plainName = regexp.MustCompile(`\A[a-z][a-z0-9_]{0,19}\z`)

func plainIn(n, least, most int64) bool {
	return n >= least && n <= most
}

func plainBlockRight(b impl.Block, next int64) bool {
	return plainIn(b.Id, 1, next-1) && plainIn(b.At, 0, 620) && plainIn(b.Many, 18, 20000) && plainIn(b.Size, 1, 4000)
}

// plainFileRight takes a great number for the end, which doesn't go round.
func plainFileRight(f impl.File, blocks []impl.Block) bool {
	end := new(big.Int).Add(big.NewInt(f.From), big.NewInt(f.Size))
	fits := slices.ContainsFunc(blocks, func(b impl.Block) bool { return b.Id == f.Block && end.Cmp(big.NewInt(b.Size)) <= 0 })
	return fits && plainName.MatchString(f.Name) && plainIn(f.Time, 0, 1000000000) &&
		f.From >= 0 && f.Size >= 0 && f.Size <= 2000 && plainIn(f.Crc, 0, mostCrc)
}

// plainCatalogRight is CatalogRight as the chapter says it.
func plainCatalogRight(c impl.Catalog) bool {
	if !plainIn(c.Next, 1, mostNext) || len(c.Blocks) > 30 || len(c.Files) > 40 {
		return false
	}
	for i, b := range c.Blocks {
		filed := slices.ContainsFunc(c.Files, func(f impl.File) bool { return f.Block == b.Id })
		if !plainBlockRight(b, c.Next) || !filed || i > 0 && c.Blocks[i-1].Id >= b.Id {
			return false
		}
	}
	for i, f := range c.Files {
		if !plainFileRight(f, c.Blocks) || i > 0 && c.Files[i-1].Name >= f.Name {
			return false
		}
	}
	return true
}

// catalogPieces has each number and each name of a catalog, right or not, as it is written.
func catalogPieces(c impl.Catalog) (pieces []string, nums []int64) {
	put := func(l ...int64) {
		for _, n := range l {
			pieces, nums = append(pieces, plainNumText(n)), append(nums, n)
		}
	}
	put(c.Next, int64(len(c.Blocks)))
	for _, b := range c.Blocks {
		put(b.Id, b.At, b.Many, b.Size)
	}
	put(int64(len(c.Files)))
	for _, f := range c.Files {
		put(int64(len(f.Name)))
		pieces, nums = append(pieces, f.Name), append(nums, -1)
		put(f.Time, f.Block, f.From, f.Size, f.Crc)
	}
	return pieces, nums
}

func catalogText(c impl.Catalog) string {
	pieces, _ := catalogPieces(c)
	return strings.Join(pieces, "")
}

// plainReader tells numbers as long as there are some, and that one was none ever after.
type plainReader struct {
	rest string
	none bool
}

func (r *plainReader) num() int64 {
	n, rest, ok := plainFront(r.rest)
	r.rest, r.none = rest, r.none || !ok
	return n
}

func (r *plainReader) name() string {
	many := r.num()
	if r.none || many < 0 || many > int64(len(r.rest)) {
		r.none = true
		return ""
	}
	name := r.rest[:many]
	r.rest = r.rest[many:]
	return name
}

// plainCatalogRead is CatalogRead as the chapter says it.
func plainCatalogRead(text string) impl.CatalogOut {
	if len(text) > 20000 {
		return impl.CatalogOut{Code: impl.ErrSize}
	}
	r := plainReader{rest: text}
	c := impl.Catalog{Next: r.num()}
	for many := r.num(); many > 0 && !r.none; many-- {
		c.Blocks = append(c.Blocks, impl.Block{Id: r.num(), At: r.num(), Many: r.num(), Size: r.num()})
	}
	for many := r.num(); many > 0 && !r.none; many-- {
		f := impl.File{Name: r.name()}
		f.Time, f.Block, f.From, f.Size, f.Crc = r.num(), r.num(), r.num(), r.num(), r.num()
		c.Files = append(c.Files, f)
	}
	if r.none || r.rest != "" || !plainCatalogRight(c) || catalogText(c) != text {
		return impl.CatalogOut{Code: impl.ErrSyntax}
	}
	return impl.CatalogOut{Catalog: c}
}

func plainFileOf(c impl.Catalog, name string) impl.File {
	at := slices.IndexFunc(c.Files, func(f impl.File) bool { return f.Name == name })
	if !plainCatalogRight(c) || at < 0 {
		return impl.File{}
	}
	return c.Files[at]
}

func plainLive(c impl.Catalog, block int64) int64 {
	size := int64(0)
	for _, f := range c.Files {
		if plainCatalogRight(c) && f.Block == block {
			size += f.Size
		}
	}
	return size
}

// plainDrop is CatalogDrop as the chapter says it.
func plainDrop(c impl.Catalog, name string) impl.Catalog {
	if len(name) > 20000 {
		return impl.Catalog{}
	}
	if !plainCatalogRight(c) {
		return c
	}
	block := plainFileOf(c, name).Block
	out := impl.Catalog{Next: c.Next}
	for _, f := range c.Files {
		if f.Name != name {
			out.Files = append(out.Files, f)
		}
	}
	for _, b := range c.Blocks {
		if b.Id != block || slices.ContainsFunc(out.Files, func(f impl.File) bool { return f.Block == block }) {
			out.Blocks = append(out.Blocks, b)
		}
	}
	return out
}

// catalogSame takes an empty list and none for the same.
func catalogSame(a, b impl.Catalog) bool {
	return a.Next == b.Next && slices.Equal(a.Blocks, b.Blocks) && slices.Equal(a.Files, b.Files)
}

func sameCatalog(t *testing.T, what string, got, want impl.Catalog) {
	t.Helper()
	if !catalogSame(got, want) {
		t.Fatalf("%s: got %.900q, want %.900q", what, fmt.Sprintf("%+v", got), fmt.Sprintf("%+v", want))
	}
}

func readsAs(t *testing.T, what, text string, want impl.CatalogOut) {
	t.Helper()
	got := impl.CatalogRead(text)
	is(t, what+", code", got.Code, want.Code)
	sameCatalog(t, what, got.Catalog, want.Catalog)
}

// refusedText is of text that has no right catalog's bytes.
func refusedText(t *testing.T, what, text string, code int64) {
	t.Helper()
	readsAs(t, what, text, impl.CatalogOut{Code: code})
	readsAs(t, what+", by the chapter's words", text, plainCatalogRead(text))
}

// keptCatalog is the same in other memory.
func keptCatalog(c impl.Catalog) impl.Catalog {
	out := impl.Catalog{Next: c.Next, Blocks: slices.Clone(c.Blocks), Files: slices.Clone(c.Files)}
	for i := range out.Files {
		out.Files[i].Name = strings.Clone(out.Files[i].Name)
	}
	return out
}

// namesFor are those of the catalog, and some about them that are not there.
func namesFor(c impl.Catalog) []string {
	out := []string{"", "a", "zz", "no_file", "A", "a b", "0", "_", "\x00", "\xff", strings.Repeat("a", 20), strings.Repeat("a", 21), strings.Repeat("a", 20000)}
	for _, f := range c.Files {
		out = append(out, f.Name, f.Name+"0", f.Name[:len(f.Name)/2], strings.ToUpper(f.Name), f.Name+"\x00", " "+f.Name)
	}
	return out
}

func blocksFor(c impl.Catalog) []int64 {
	out := []int64{0, -1, 1, 2, 3, c.Next - 1, c.Next, c.Next + 1, mostNext, math.MaxInt64, math.MinInt64, 1<<32 + 1}
	for _, b := range c.Blocks {
		out = append(out, b.Id, -b.Id, b.Id+1, b.Id+1<<32)
	}
	return out
}

// droppedWell is what promise 12 says of a right catalog without a file.
func droppedWell(t *testing.T, what string, c impl.Catalog, name string) impl.Catalog {
	t.Helper()
	out := impl.CatalogDrop(c, name)
	sameCatalog(t, what+" without "+name, out, plainDrop(c, name))
	is(t, what+", right", impl.CatalogRight(out), true)
	is(t, what+", gone", impl.FileOf(out, name), impl.File{})
	for _, f := range c.Files {
		if f.Name != name {
			is(t, what+", there", impl.FileOf(out, f.Name), f)
		}
	}
	return out
}

// asRight asks of a right catalog all that promise 12 and the chapter say.
func asRight(t *testing.T, what string, c impl.Catalog) {
	t.Helper()
	was := keptCatalog(c)
	is(t, what+", right by the chapter's words", plainCatalogRight(c), true)
	is(t, what+", right", impl.CatalogRight(c), true)
	text := impl.CatalogBytes(c)
	is(t, what+", its bytes", text, catalogText(c))
	readsAs(t, what+", back", text, impl.CatalogOut{Catalog: c})
	for _, name := range namesFor(c) {
		is(t, what+", file "+name, impl.FileOf(c, name), plainFileOf(c, name))
		droppedWell(t, what, c, name)
	}
	for _, block := range blocksFor(c) {
		is(t, fmt.Sprint(what, ", live in ", block), impl.Live(c, block), plainLive(c, block))
	}
	sameCatalog(t, what+", as it was", c, was)
}

// asWrong asks that a catalog that is not right is refused everywhere, and left as it is.
func asWrong(t *testing.T, what string, c impl.Catalog) {
	t.Helper()
	was := keptCatalog(c)
	is(t, what+", right by the chapter's words", plainCatalogRight(c), false)
	is(t, what+", right", impl.CatalogRight(c), false)
	is(t, what+", its bytes", impl.CatalogBytes(c), "")
	text, code := catalogText(c), int64(impl.ErrSyntax)
	if len(text) > impl.MaxBytes {
		code = impl.ErrSize
	}
	refusedText(t, what+", read", text, code)
	for _, name := range []string{"", "a", "b", "c", "no_file"} {
		is(t, what+", file "+name, impl.FileOf(c, name), impl.File{})
		sameCatalog(t, what+", dropped", impl.CatalogDrop(c, name), was)
	}
	for _, block := range blocksFor(impl.Catalog{Next: c.Next}) {
		is(t, fmt.Sprint(what, ", live in ", block), impl.Live(c, block), 0)
	}
	sameCatalog(t, what+", as it was", c, was)
}

// threeFiles is what most edges are tried on: b and c stand in one block, a alone.
func threeFiles() impl.Catalog {
	return impl.Catalog{
		Next:   6,
		Blocks: []impl.Block{{Id: 2, At: 7, Many: 40, Size: 4000}, {Id: 5, At: 9, Many: 100, Size: 900}},
		Files: []impl.File{
			{Name: "a", Time: 5, Block: 5, From: 10, Size: 700, Crc: 77}, {Name: "b", Time: 4, Block: 2, Size: 2000, Crc: 1 << 31},
			{Name: "c", Time: 3, Block: 2, From: 2000, Size: 2000, Crc: 9},
		},
	}
}

// someName draws any name of so many bytes.
func someName(r *rand.Rand, many int) string {
	const all = "abcdefghijklmnopqrstuvwxyz0123456789_"
	out := []byte{all[r.Intn(26)]}
	for len(out) < many {
		out = append(out, all[r.Intn(len(all))])
	}
	return string(out)
}

// drawnCatalog is a right one of so many blocks and files, of which there are not fewer.
func drawnCatalog(seed int64, blocks, files int) impl.Catalog {
	r := rand.New(rand.NewSource(seed))
	c := impl.Catalog{Next: 1 + int64(r.Intn(3))}
	for range blocks {
		c.Blocks = append(c.Blocks, impl.Block{Id: c.Next, At: r.Int63n(621), Many: 18 + r.Int63n(19983), Size: 1 + r.Int63n(4000)})
		c.Next += 1 + r.Int63n(int64(2+40*r.Intn(3)))
	}
	names := map[string]bool{}
	for len(names) < files {
		names[someName(r, 1+r.Intn(20))] = true
	}
	for name := range names {
		c.Files = append(c.Files, impl.File{Name: name})
	}
	slices.SortFunc(c.Files, func(a, b impl.File) int { return strings.Compare(a.Name, b.Name) })
	for i, at := range r.Perm(files) {
		b := c.Blocks[i%blocks]
		if i >= blocks {
			b = c.Blocks[r.Intn(blocks)]
		}
		f := &c.Files[at]
		f.Time, f.Block, f.From, f.Crc = r.Int63n(1000000001), b.Id, r.Int63n(b.Size+1), r.Int63n(1<<32)
		f.Size = r.Int63n(min(b.Size-f.From, 2000) + 1)
	}
	return c
}

func someCatalogs() []impl.Catalog {
	out := []impl.Catalog{
		{Next: 1}, {Next: 2}, {Next: mostNext}, threeFiles(),
		{Next: 2, Blocks: []impl.Block{{Id: 1, Many: 18, Size: 1}}, Files: []impl.File{{Name: "a", Block: 1}}},
	}
	for seed := range int64(20) {
		out = append(out, drawnCatalog(1400+seed, 1+int(seed)%6, 6+int(seed)%5))
	}
	for _, s := range [][2]int{{1, 1}, {1, 2}, {1, 40}, {2, 2}, {29, 29}, {29, 39}, {30, 30}, {30, 31}, {30, 40}, {15, 40}} {
		out = append(out, drawnCatalog(int64(1420+s[0]+s[1]), s[0], s[1]))
	}
	return out
}

func TestCatalogConstants(t *testing.T) {
	is(t, "MaxBlocks", impl.MaxBlocks, 30)
	is(t, "MaxFiles", impl.MaxFiles, 40)
	is(t, "MaxFile", impl.MaxFile, 2000)
}

func TestCatalogKnown(t *testing.T) {
	c := impl.Catalog{
		Next:   3,
		Blocks: []impl.Block{{Id: 1, At: 2, Many: 20, Size: 9}, {Id: 2, At: 3, Many: 100, Size: 5}},
		Files: []impl.File{
			{Name: "a", Time: 1, Block: 1, Size: 4, Crc: 64}, {Name: "b_1", Block: 1, From: 4, Size: 5, Crc: 63}, {Name: "c", Block: 2},
		},
	}
	text := "\x06\x04" + "\x02\x04\x28\x12" + "\x04\x06\xc8\x01\x0a" + "\x06" +
		"\x02a\x02\x02\x00\x08\x80\x01" + "\x06b_1\x00\x02\x08\x0a\x7e" + "\x02c\x00\x04\x00\x00\x00"
	is(t, "its bytes", impl.CatalogBytes(c), text)
	readsAs(t, "back", text, impl.CatalogOut{Catalog: c})
	is(t, "none", impl.CatalogBytes(impl.Catalog{Next: 1}), "\x02\x00\x00")
	readsAs(t, "none back", "\x02\x00\x00", impl.CatalogOut{Catalog: impl.Catalog{Next: 1}})
	for id, want := range []int64{0, 9, 0, 0} {
		is(t, fmt.Sprint("live in ", id), impl.Live(c, int64(id)), want)
	}
	is(t, "file", impl.FileOf(c, "b_1"), impl.File{Name: "b_1", Block: 1, From: 4, Size: 5, Crc: 63})
	sameCatalog(t, "alone", impl.CatalogDrop(c, "c"), impl.Catalog{Next: 3, Blocks: c.Blocks[:1], Files: c.Files[:2]})
	sameCatalog(t, "not alone", impl.CatalogDrop(c, "a"), impl.Catalog{Next: 3, Blocks: c.Blocks, Files: c.Files[1:]})
	sameCatalog(t, "not there", impl.CatalogDrop(c, "d"), c)
}

// Promise 12.
func TestCatalogsComeBackAndAreDroppedFrom(t *testing.T) {
	for i, c := range someCatalogs() {
		asRight(t, fmt.Sprint("catalog ", i), c)
	}
}

// Promise 12, until nothing is there.
func TestFilesDroppedOneByOne(t *testing.T) {
	for seed := range int64(25) {
		c := drawnCatalog(1500+seed, 1+int(seed)%10, 10+int(seed))
		next := c.Next
		for _, at := range rand.New(rand.NewSource(seed)).Perm(len(c.Files)) {
			left := len(c.Files)
			c = droppedWell(t, "one by one", c, c.Files[at%left].Name)
			is(t, "one fewer", len(c.Files), left-1)
			sameCatalog(t, "back", impl.CatalogRead(impl.CatalogBytes(c)).Catalog, c)
		}
		sameCatalog(t, "nothing left", c, impl.Catalog{Next: next})
		sameCatalog(t, "none to go", impl.CatalogDrop(c, "a"), c)
	}
}

func TestADroppedFileIsDroppedOnce(t *testing.T) {
	for i, c := range someCatalogs() {
		for _, f := range c.Files {
			once := impl.CatalogDrop(c, f.Name)
			sameCatalog(t, fmt.Sprint("catalog ", i, ", twice"), impl.CatalogDrop(once, f.Name), once)
		}
	}
}

// In whatever order a map is gone through, the answer is the same.
func TestCatalogAnswersHaveOneOrder(t *testing.T) {
	c := drawnCatalog(1530, 30, 40)
	for _, f := range c.Files {
		want := plainDrop(c, f.Name)
		for range 20 {
			sameCatalog(t, f.Name, impl.CatalogDrop(c, f.Name), want)
		}
	}
}

// edge changes threeFiles at one place, and says whether it is right then.
type edge struct {
	what   string
	right  bool
	change func(c *impl.Catalog)
}

func (e edge) ask(t *testing.T, c impl.Catalog) {
	t.Helper()
	e.change(&c)
	if e.right {
		asRight(t, e.what, c)
	} else {
		asWrong(t, e.what, c)
	}
}

// numEdges are of one number, which must be between two others.
func numEdges(what string, least, most int64, place func(c *impl.Catalog) *int64) []edge {
	var out []edge
	for _, n := range []int64{
		least, least + 1, most - 1, most, least - 1, least - 2, most + 1, most + 2, least - 1<<32, most + 1<<32, -least - 1, -most - 1,
		math.MinInt64, math.MinInt64 + 1, math.MaxInt64, math.MaxInt64 - 1, math.MinInt64 + most, math.MaxInt64 - most, 1 << 32, 1 << 62, -1 << 62,
	} {
		right := n >= least && n <= most
		out = append(out, edge{fmt.Sprint(what, " ", n), right, func(c *impl.Catalog) { *place(c) = n }})
	}
	return out
}

func TestNextOfNoBlocks(t *testing.T) {
	for _, e := range numEdges("Next", 1, mostNext, func(c *impl.Catalog) *int64 { return &c.Next }) {
		e.ask(t, impl.Catalog{})
	}
}

func TestNextOfBlocks(t *testing.T) {
	for _, e := range numEdges("Next", 6, mostNext, func(c *impl.Catalog) *int64 { return &c.Next }) {
		e.ask(t, threeFiles())
	}
	for _, n := range []int64{0, 1, 2, 3, 4, 5} {
		edge{fmt.Sprint("Next ", n), false, func(c *impl.Catalog) { c.Next = n }}.ask(t, threeFiles())
	}
}

func TestIdsOfBlocks(t *testing.T) {
	first := func(id int64) func(c *impl.Catalog) {
		return func(c *impl.Catalog) {
			c.Blocks[0].Id, c.Files[1].Block, c.Files[2].Block = id, id, id
		}
	}
	last := func(id, next int64) func(c *impl.Catalog) {
		return func(c *impl.Catalog) { c.Next, c.Blocks[1].Id, c.Files[0].Block = next, id, id }
	}
	for _, e := range []edge{
		{"the first 0", false, first(0)}, {"the first -1", false, first(-1)}, {"the first 1", true, first(1)}, {"the first 4", true, first(4)},
		{"the first the least", false, first(math.MinInt64)}, {"the first the greatest", false, first(math.MaxInt64)}, {"none rises", false, first(6)},
		{"two of one Id", false, first(5)}, {"the last Next", false, last(6, 6)}, {"the last Next less 1", true, last(6, 7)}, {"above Next", false, last(7, 6)},
		{"the last the greatest", false, last(math.MaxInt64, 6)}, {"the last of all", true, last(mostNext-1, mostNext)}, {"one more", false, last(mostNext, mostNext)},
		{"one more, and Next", false, last(mostNext, mostNext+1)}, {"the last below the first", false, last(1, 6)}, {"the last as the first", false, last(2, 6)},
	} {
		e.ask(t, threeFiles())
	}
}

func TestBlocksRise(t *testing.T) {
	for _, e := range []edge{
		{"turned about", false, func(c *impl.Catalog) { slices.Reverse(c.Blocks) }},
		{"one twice", false, func(c *impl.Catalog) { c.Blocks = append(c.Blocks, c.Blocks[1]) }},
		{"the first twice", false, func(c *impl.Catalog) { c.Blocks = slices.Insert(c.Blocks, 0, c.Blocks[0]) }},
		{"one twice, of another place", false, func(c *impl.Catalog) { c.Blocks = append(c.Blocks, impl.Block{Id: 5, At: 20, Many: 40, Size: 4000}) }},
		{"the first again behind the last", false, func(c *impl.Catalog) { c.Blocks = append(c.Blocks, c.Blocks[0]) }},
	} {
		e.ask(t, threeFiles())
	}
	for at := range 29 {
		c := drawnCatalog(1540, 30, 40)
		c.Blocks[at], c.Blocks[at+1] = c.Blocks[at+1], c.Blocks[at]
		asWrong(t, fmt.Sprint(at, " and the next one turned about"), c)
	}
}

func TestNumbersOfBlocks(t *testing.T) {
	for at := range 2 {
		of := func(c *impl.Catalog) *impl.Block { return &c.Blocks[at] }
		edges := numEdges("At", 0, impl.MaxSectors, func(c *impl.Catalog) *int64 { return &of(c).At })
		edges = append(edges, numEdges("Many", 18, impl.MaxBytes, func(c *impl.Catalog) *int64 { return &of(c).Many })...)
		for _, e := range edges {
			e.ask(t, threeFiles())
		}
	}
	for _, e := range numEdges("Size", 1, 4000, func(c *impl.Catalog) *int64 { return &c.Blocks[1].Size }) {
		c := threeFiles()
		c.Files[0].From, c.Files[0].Size = 0, 0
		e.ask(t, c)
	}
}

func TestHowManyBlocksAndFiles(t *testing.T) {
	for _, s := range [][2]int{{30, 40}, {31, 31}, {31, 40}, {30, 41}, {1, 41}, {29, 41}, {31, 41}, {100, 100}, {1, 256}, {1, 401}, {401, 401}} {
		c := drawnCatalog(int64(1550+s[0]), s[0], s[1])
		what := fmt.Sprint(s[0], " blocks, ", s[1], " files")
		if s[0] <= 30 && s[1] <= 40 {
			asRight(t, what, c)
		} else {
			asWrong(t, what, c)
		}
	}
}

func TestNamesOfFiles(t *testing.T) {
	long := strings.Repeat("z", 40)
	for _, name := range []string{
		"", "A", "0", "_", "1a", "_a", "c d", "cD", "c-", "c.", "d\x00", "d\n", "d\x80", "é", "dé", long[:21], long, " c", "d ", "\x00", "\xff", "d/",
		strings.Repeat("z", impl.MaxBytes), strings.Repeat("z", impl.MaxBytes+1), "d{", "d`", "`", "{", "d/", "d:", "d@", "d[", "d^",
	} {
		for at := range 3 {
			c := threeFiles()
			c.Files[at].Name = name
			// Also where it rises with the others.
			asWrong(t, fmt.Sprintf("%d: %.30q", at, name), c)
			slices.SortFunc(c.Files, func(a, b impl.File) int { return strings.Compare(a.Name, b.Name) })
			asWrong(t, fmt.Sprintf("%d, rising: %.30q", at, name), c)
		}
	}
	for _, name := range []string{"d", "z", "c0", "c_", "ca", long[:20], "d0123456789_abcdefgh", "zzz"} {
		c := threeFiles()
		c.Files[2].Name = name
		asRight(t, name, c)
	}
}

func TestFilesRise(t *testing.T) {
	for _, names := range []string{
		"a b c", "a a0 a00", "a a_ aa", "a a0 a_", "a a9 aa", "y z z0", "aa ab b", "a0 a1 a10", "az b ba", "a aaaaaaaaaaaaaaaaaaa aaaaaaaaaaaaaaaaaaaa",
	} {
		c := threeFiles()
		for _, p := range [][3]int{{0, 1, 2}, {0, 2, 1}, {1, 0, 2}, {1, 2, 0}, {2, 0, 1}, {2, 1, 0}, {0, 0, 1}, {0, 1, 1}, {0, 1, 0}, {2, 2, 2}, {1, 1, 2}} {
			for i := range 3 {
				c.Files[i].Name = strings.Fields(names)[p[i]]
			}
			if p == [3]int{0, 1, 2} {
				asRight(t, names, c)
			} else {
				asWrong(t, fmt.Sprint(names, p), c)
			}
		}
	}
	for at := range 39 {
		c := drawnCatalog(1560, 30, 40)
		c.Files[at], c.Files[at+1] = c.Files[at+1], c.Files[at]
		asWrong(t, fmt.Sprint(at, " and the next one turned about"), c)
		c.Files[at] = c.Files[at+1]
		asWrong(t, fmt.Sprint(at, " twice"), c)
	}
}

func TestNumbersOfFiles(t *testing.T) {
	for at := range 3 {
		of := func(c *impl.Catalog) *impl.File { return &c.Files[at] }
		edges := numEdges("Time", 0, impl.MaxTime, func(c *impl.Catalog) *int64 { return &of(c).Time })
		edges = append(edges, numEdges("Crc", 0, mostCrc, func(c *impl.Catalog) *int64 { return &of(c).Crc })...)
		for _, e := range edges {
			e.ask(t, threeFiles())
		}
	}
}

func TestFilesOfBlocksThatAreNotThere(t *testing.T) {
	for at := range 3 {
		for _, id := range []int64{0, -1, 1, 3, 4, 6, 7, -2, -5, mostNext, 1<<32 + 2, 1<<32 + 5, math.MaxInt64, math.MinInt64} {
			c := threeFiles()
			c.Files[at].Block = id
			asWrong(t, fmt.Sprint(at, " of ", id), c)
			// Nothing of it is needed, but it must be there.
			c.Files[at].From, c.Files[at].Size = 0, 0
			asWrong(t, fmt.Sprint(at, " of ", id, ", no bytes"), c)
		}
	}
	asWrong(t, "no blocks", impl.Catalog{Next: 6, Files: threeFiles().Files})
	asWrong(t, "no blocks, of block 0", impl.Catalog{Next: 6, Files: []impl.File{{Name: "a"}}})
	asWrong(t, "no blocks, the zero file", impl.Catalog{Next: 6, Files: []impl.File{{}}})
}

func TestBlocksWithoutAFile(t *testing.T) {
	for _, e := range []edge{
		{"no files", false, func(c *impl.Catalog) { c.Files = nil }},
		{"the first", false, func(c *impl.Catalog) { c.Files = c.Files[:1] }},
		{"the last", false, func(c *impl.Catalog) { c.Files = c.Files[1:] }},
		{"one of two files", true, func(c *impl.Catalog) { c.Files = c.Files[:2] }},
		{"one more block, ahead", false, func(c *impl.Catalog) { c.Blocks = slices.Insert(c.Blocks, 0, impl.Block{Id: 1, Many: 18, Size: 1}) }},
		{"one more block, between", false, func(c *impl.Catalog) { c.Blocks = slices.Insert(c.Blocks, 1, impl.Block{Id: 3, Many: 18, Size: 1}) }},
		{"one more block, behind", false, func(c *impl.Catalog) {
			c.Next, c.Blocks = 7, append(c.Blocks, impl.Block{Id: 6, Many: 18, Size: 1})
		}},
		{"files without bytes", true, func(c *impl.Catalog) {
			for i := range c.Files {
				c.Files[i].Size, c.Files[i].From = 0, 0
			}
		}},
		{"all in one block", false, func(c *impl.Catalog) { c.Files[0].Block = 2 }},
		{"all in one block, and no other", true, func(c *impl.Catalog) { c.Files[0].Block, c.Blocks = 2, c.Blocks[:1] }},
	} {
		e.ask(t, threeFiles())
	}
	for at := range 30 {
		c := drawnCatalog(1570, 30, 30)
		without := slices.DeleteFunc(slices.Clone(c.Files), func(f impl.File) bool { return f.Block == c.Blocks[at].Id })
		asWrong(t, fmt.Sprint("no file of ", at), impl.Catalog{Next: c.Next, Blocks: c.Blocks, Files: without})
	}
}

// inBlock has one file at such a place in a block of such a Size.
func inBlock(whole, from, size int64) impl.Catalog {
	return impl.Catalog{Next: 2, Blocks: []impl.Block{{Id: 1, Many: 18, Size: whole}}, Files: []impl.File{{Name: "a", Block: 1, From: from, Size: size}}}
}

func TestWhereFilesStand(t *testing.T) {
	far := []int64{-1, -2, -4000, math.MinInt64, math.MinInt64 + 1, math.MinInt64 + 2000, math.MaxInt64, math.MaxInt64 - 1, math.MaxInt64 - 1999, math.MaxInt64 - 2000, 1 << 32, 1 << 63 >> 1}
	for _, whole := range []int64{1, 2, 1999, 2000, 2001, 3999, 4000} {
		for _, from := range append(far, 0, 1, whole-1, whole, whole+1, whole-2000, whole-1999, 2000, 4000) {
			for _, size := range append(far, 0, 1, whole-from, whole-from+1, whole-from-1, 1999, 2000, 2001, -from, whole, 4000) {
				c := inBlock(whole, from, size)
				what := fmt.Sprint("from ", from, " so many ", size, " of ", whole)
				if plainCatalogRight(c) {
					asRight(t, what, c)
				} else {
					asWrong(t, what, c)
				}
			}
		}
	}
}

func TestKnownPlacesOfFiles(t *testing.T) {
	for _, c := range []struct {
		whole, from, size int64
		right             bool
	}{
		{10, 0, 10, true}, {10, 0, 11, false}, {10, 1, 9, true}, {10, 1, 10, false}, {10, 10, 0, true}, {10, 11, 0, false}, {10, 9, 1, true}, {10, 10, 1, false},
		{10, -1, 5, false}, {10, 5, -1, false}, {10, -1, -1, false}, {10, 11, -1, false}, {10, -1, 11, false}, {1, 0, 0, true}, {1, 1, 0, true}, {1, 0, 1, true},
		{4000, 0, 2000, true}, {4000, 0, 2001, false}, {4000, 2000, 2000, true}, {4000, 2001, 2000, false}, {4000, 1999, 2001, false}, {4000, 4000, 0, true},
		{4000, math.MaxInt64, 1, false}, {4000, math.MaxInt64, 2000, false}, {4000, math.MaxInt64 - 1999, 2000, false}, {4000, 1, math.MaxInt64, false},
		{4000, math.MaxInt64, math.MaxInt64, false}, {4000, math.MinInt64, math.MinInt64, false}, {4000, math.MinInt64, 2000, false}, {4000, 0, math.MinInt64, false},
	} {
		is(t, fmt.Sprint(c), impl.CatalogRight(inBlock(c.whole, c.from, c.size)), c.right)
	}
}

// Files may stand over one another; each of them has its bytes.
func TestLiveOfFilesOverOneAnother(t *testing.T) {
	c := impl.Catalog{Next: 3, Blocks: []impl.Block{{Id: 1, Many: 18, Size: 3000}, {Id: 2, Many: 18, Size: 7}}}
	for i := range 39 {
		c.Files = append(c.Files, impl.File{Name: fmt.Sprintf("a%02d", i), Block: 1, From: int64(i), Size: 2000})
	}
	c.Files = append(c.Files, impl.File{Name: "b", Block: 2, From: 3, Size: 4})
	asRight(t, "over one another", c)
	is(t, "live", impl.Live(c, 1), 78000)
	is(t, "the other", impl.Live(c, 2), 4)
	is(t, "one fewer", impl.Live(impl.CatalogDrop(c, "a07"), 1), 76000)
}

func TestNoListsAndEmptyLists(t *testing.T) {
	for _, next := range []int64{0, 1, 2, mostNext, mostNext + 1} {
		for i, c := range []impl.Catalog{
			{Next: next}, {Next: next, Blocks: []impl.Block{}}, {Next: next, Files: []impl.File{}}, {Next: next, Blocks: []impl.Block{}, Files: []impl.File{}},
		} {
			what := fmt.Sprint(i, " of Next ", next)
			if next >= 1 && next <= mostNext {
				asRight(t, what, c)
			} else {
				asWrong(t, what, c)
			}
		}
	}
	asWrong(t, "blocks and an empty list", impl.Catalog{Next: 6, Blocks: threeFiles().Blocks, Files: []impl.File{}})
	asWrong(t, "files and an empty list", impl.Catalog{Next: 6, Blocks: []impl.Block{}, Files: threeFiles().Files})
}

func TestCatalogTextsCutOffAndWithMore(t *testing.T) {
	for i, c := range someCatalogs() {
		text := impl.CatalogBytes(c)
		for many := range len(text) {
			refusedText(t, fmt.Sprint("catalog ", i, " cut at ", many), text[:many], impl.ErrSyntax)
		}
		for _, more := range []string{"\x00", "\x01", "\x02", "a", "\x80", "\xff", "\x00\x00", text} {
			refusedText(t, fmt.Sprint("catalog ", i, " and more"), text+more, impl.ErrSyntax)
		}
		for at := range text {
			readsAs(t, "a byte less", text[:at]+text[at+1:], plainCatalogRead(text[:at]+text[at+1:]))
			readsAs(t, "a byte more", text[:at]+"\x02"+text[at:], plainCatalogRead(text[:at]+"\x02"+text[at:]))
		}
	}
}

func TestCatalogTextsWithAByteTurned(t *testing.T) {
	other := 0
	for i, c := range append(someCatalogs()[:12], drawnCatalog(1580, 30, 40)) {
		text := []byte(impl.CatalogBytes(c))
		for at := range text {
			for turn := 1; turn < 256; turn += 1 + i*5 {
				text[at] ^= byte(turn)
				want := plainCatalogRead(string(text))
				readsAs(t, fmt.Sprint("catalog ", i, ", byte ", at), string(text), want)
				if want.Code == impl.OK {
					is(t, "just its bytes", impl.CatalogBytes(want.Catalog), string(text))
					is(t, "another one", catalogSame(want.Catalog, c), false)
					other++
				}
				text[at] ^= byte(turn)
			}
		}
	}
	is(t, "some are of another catalog", other > 0, true)
}

func TestCatalogTextsWithNumbersInMoreBytes(t *testing.T) {
	for _, c := range []impl.Catalog{{Next: 1}, threeFiles(), drawnCatalog(1590, 5, 9), drawnCatalog(1591, 30, 40)} {
		pieces, nums := catalogPieces(c)
		for i, n := range nums {
			if n < 0 {
				continue
			}
			for _, drawn := range drawnOut(n) {
				text := strings.Join(pieces[:i], "") + drawn + strings.Join(pieces[i+1:], "")
				refusedText(t, fmt.Sprint("piece ", i, " in ", len(drawn)), text, impl.ErrSyntax)
			}
		}
	}
}

// Each number of the text is another one: counts that tell too much or too little are among them.
func TestCatalogTextsWithOtherNumbers(t *testing.T) {
	for _, c := range []impl.Catalog{{Next: 1}, threeFiles(), drawnCatalog(1592, 30, 40)} {
		pieces, nums := catalogPieces(c)
		for i, was := range nums {
			if pieces[i] != plainNumText(was) {
				continue
			}
			for _, n := range []int64{
				0, 1, -1, was + 1, was - 1, -was, 2 * was, 30, 31, 40, 41, 400, 401, 20000, 20001, 1 << 31, 1 << 32, was + 1<<32, 1 << 62, -1 << 62,
				math.MaxInt64, math.MaxInt64 - 1, math.MinInt64, math.MinInt64 + 1,
			} {
				text := strings.Join(pieces[:i], "") + plainNumText(n) + strings.Join(pieces[i+1:], "")
				readsAs(t, fmt.Sprint("piece ", i, " is ", n), text, plainCatalogRead(text))
			}
		}
	}
}

func TestCatalogTextsWithWrongCounts(t *testing.T) {
	c := threeFiles()
	blocks, files := "", ""
	for _, b := range c.Blocks {
		blocks += plainNumText(b.Id) + plainNumText(b.At) + plainNumText(b.Many) + plainNumText(b.Size)
	}
	text := catalogText(c)
	files = text[len(plainNumText(6)+plainNumText(2)+blocks+plainNumText(3)):]
	of := func(blocksTold, filesTold int64) string {
		return plainNumText(6) + plainNumText(blocksTold) + blocks + plainNumText(filesTold) + files
	}
	readsAs(t, "as it is", of(2, 3), impl.CatalogOut{Catalog: c})
	for _, n := range []int64{0, 1, 4, 5, 29, 30, 31, 40, 41, 255, 256, 401, 20001, 1 << 31, 1 << 32, 1<<32 + 2, 1<<32 + 3, 1 << 61, 1 << 62, math.MaxInt64, math.MaxInt64 - 1, -1, -2, -3, math.MinInt64} {
		refusedText(t, fmt.Sprint(n, " blocks"), of(n, 3), impl.ErrSyntax)
		refusedText(t, fmt.Sprint(n, " files"), of(2, n), impl.ErrSyntax)
		refusedText(t, fmt.Sprint(n, " of both"), of(n, n), impl.ErrSyntax)
		refusedText(t, fmt.Sprint(n, " blocks and nothing behind"), plainNumText(6)+plainNumText(n), impl.ErrSyntax)
		if n != 0 {
			refusedText(t, fmt.Sprint(n, " files and nothing behind"), plainNumText(6)+plainNumText(0)+plainNumText(n), impl.ErrSyntax)
			refusedText(t, fmt.Sprint(n, " blocks, none there"), plainNumText(6)+plainNumText(n)+plainNumText(0), impl.ErrSyntax)
		}
	}
}

// The length of a name is as great as it likes: nothing is read from behind the text.
func TestCatalogTextsWithWrongNames(t *testing.T) {
	front := plainNumText(2) + plainNumText(1) + plainNumText(1) + plainNumText(0) + plainNumText(18) + plainNumText(1) + plainNumText(1)
	behind := plainNumText(0) + plainNumText(1) + plainNumText(0) + plainNumText(0) + plainNumText(0)
	readsAs(t, "as it is", front+plainNumText(1)+"a"+behind, impl.CatalogOut{Catalog: impl.Catalog{
		Next: 2, Blocks: []impl.Block{{Id: 1, Many: 18, Size: 1}}, Files: []impl.File{{Name: "a", Block: 1}},
	}})
	for _, n := range []int64{0, 2, 3, 6, 7, 21, 20000, 20001, 1 << 32, 1<<32 + 1, math.MaxInt64, math.MaxInt64 - 1, math.MaxInt64 - 20, -1, -2, math.MinInt64} {
		refusedText(t, fmt.Sprint(n), front+plainNumText(n)+"a"+behind, impl.ErrSyntax)
		refusedText(t, fmt.Sprint(n, ", nothing behind"), front+plainNumText(n), impl.ErrSyntax)
	}
	refusedText(t, "no name", front+plainNumText(0)+behind, impl.ErrSyntax)
	refusedText(t, "a long one", front+plainNumText(21)+strings.Repeat("a", 21)+behind, impl.ErrSyntax)
	readsAs(t, "the longest one", front+plainNumText(20)+strings.Repeat("a", 20)+behind, impl.CatalogOut{Catalog: impl.Catalog{
		Next: 2, Blocks: []impl.Block{{Id: 1, Many: 18, Size: 1}}, Files: []impl.File{{Name: strings.Repeat("a", 20), Block: 1}},
	}})
}

func TestTextsThatAreNoCatalog(t *testing.T) {
	for _, text := range []string{"", "\x00", "\x02", "\x02\x00", "\x00\x00\x00", "\x01\x00\x00", "\x02\x00\x00\x00", "\x80", "\xff", "\x02\x80", "\x02\x00\x80", "a catalog", blank} {
		refusedText(t, fmt.Sprintf("%q", text), text, impl.ErrSyntax)
	}
	for seed := range int64(500) {
		text := someText(1600+seed, int(seed%60))
		readsAs(t, "any", text, plainCatalogRead(text))
		readsAs(t, "any of small numbers", fewBytes(1600+seed, int(seed%60), 4), plainCatalogRead(fewBytes(1600+seed, int(seed%60), 4)))
	}
	for _, bad := range []string{strings.Repeat("\xff", 9) + "\x02", strings.Repeat("\xff", 10), strings.Repeat("\x80", 10), strings.Repeat("\xff", 30)} {
		pieces, _ := catalogPieces(threeFiles())
		for i := range pieces {
			refusedText(t, "no number", strings.Join(pieces[:i], "")+bad+strings.Join(pieces[i+1:], ""), impl.ErrSyntax)
		}
	}
}

func TestCatalogTextsAtTheLimit(t *testing.T) {
	for _, c := range []impl.Catalog{{Next: 1}, threeFiles(), drawnCatalog(1593, 30, 40)} {
		text := impl.CatalogBytes(c)
		for _, fill := range []string{"\x00", "\x80", "a"} {
			for _, more := range []int{-1, 0, 1, 2, impl.MaxBytes} {
				code := int64(impl.ErrSyntax)
				if more > 0 {
					code = impl.ErrSize
				}
				refusedText(t, fmt.Sprint(more), text+strings.Repeat(fill, impl.MaxBytes+more-len(text)), code)
			}
		}
	}
}

// The longest names, and numbers of as many bytes as may be.
func TestTheLongestCatalog(t *testing.T) {
	c := impl.Catalog{Next: mostNext}
	for i := range int64(30) {
		c.Blocks = append(c.Blocks, impl.Block{Id: mostNext - 30 + i, At: 620, Many: 20000, Size: 4000})
	}
	for i := range int64(40) {
		c.Files = append(c.Files, impl.File{Name: fmt.Sprintf("a_%018d", i), Time: impl.MaxTime, Block: mostNext - 1 - i%30, From: 2000, Size: 2000, Crc: mostCrc})
	}
	asRight(t, "the longest", c)
	is(t, "as long", len(impl.CatalogBytes(c)), 3+1+30*(3+2+3+2)+1+40*(1+20+5+3+2+2+5))
}

func TestNamesTooLongToLookFor(t *testing.T) {
	long := strings.Repeat("a", 2*impl.MaxBytes)
	wrong := threeFiles()
	wrong.Next = 0
	for i, c := range append(someCatalogs()[:8], wrong, impl.Catalog{}) {
		for _, many := range []int{impl.MaxBytes - 1, impl.MaxBytes} {
			is(t, fmt.Sprint("no file, catalog ", i), impl.FileOf(c, long[:many]), impl.File{})
			sameCatalog(t, fmt.Sprint("as it is, catalog ", i), impl.CatalogDrop(c, long[:many]), c)
		}
		for _, many := range []int{impl.MaxBytes + 1, impl.MaxBytes + 2, 2 * impl.MaxBytes} {
			is(t, fmt.Sprint("no file, catalog ", i), impl.FileOf(c, long[:many]), impl.File{})
			sameCatalog(t, fmt.Sprint("refused, catalog ", i), impl.CatalogDrop(c, long[:many]), impl.Catalog{})
		}
	}
}

// A wrong one that has the name that is asked for, even as that name, is left as it is.
func TestNamesThatAreNoneAreNotFoundInWrongCatalogs(t *testing.T) {
	long := strings.Repeat("a", impl.MaxBytes+1)
	for _, name := range []string{"", "A", "a b", strings.Repeat("a", 21), long[:impl.MaxBytes]} {
		c := inBlock(10, 0, 5)
		c.Files[0].Name = name
		is(t, "no file", impl.FileOf(c, name), impl.File{})
		sameCatalog(t, "as it is", impl.CatalogDrop(c, name), c)
	}
	c := inBlock(10, 0, 5)
	c.Files[0].Name = long
	is(t, "no file", impl.FileOf(c, long), impl.File{})
	sameCatalog(t, "refused", impl.CatalogDrop(c, long), impl.Catalog{})
}

// roomyCatalog has room behind its lists, filled, where an append that is not looked after would write.
func roomyCatalog(c impl.Catalog) impl.Catalog {
	out := keptCatalog(c)
	out.Blocks = append(out.Blocks, impl.Block{Id: -7}, impl.Block{Id: -7})[:len(c.Blocks)]
	out.Files = append(out.Files, impl.File{Name: "room"}, impl.File{Name: "room"})[:len(c.Files)]
	return out
}

func catalogRoomLeft(c impl.Catalog) bool {
	blocks, files := c.Blocks[:len(c.Blocks)+2], c.Files[:len(c.Files)+2]
	room, left := impl.File{Name: "room"}, impl.Block{Id: -7}
	return blocks[len(c.Blocks)] == left && blocks[len(c.Blocks)+1] == left && files[len(c.Files)] == room && files[len(c.Files)+1] == room
}

// spoilCatalog writes over all that a catalog's lists have, and behind them.
func spoilCatalog(c impl.Catalog) {
	blocks, files := c.Blocks[:cap(c.Blocks)], c.Files[:cap(c.Files)]
	for i := range blocks {
		blocks[i] = impl.Block{Id: -9}
	}
	for i := range files {
		files[i] = impl.File{Name: "spoilt"}
	}
}

// namesApart asks that no name of the answer lies in a text that was handed in, nor in another name of it.
func namesApart(t *testing.T, what string, out []impl.File, given []string) {
	t.Helper()
	for i, f := range out {
		// All texts of one byte may stand in a table of the language's own.
		if len(f.Name) < 2 {
			continue
		}
		for _, g := range given {
			is(t, what+", a name apart", within(g, f.Name) || within(f.Name, g), false)
		}
		for _, other := range out[:i] {
			is(t, what+", two names apart", within(other.Name, f.Name), false)
		}
	}
}

func namesOf(c impl.Catalog) []string {
	var out []string
	for _, f := range c.Files {
		out = append(out, f.Name)
	}
	return out
}

func TestCatalogsAreNewMemoryAndLeftAsTheyWere(t *testing.T) {
	wrong := threeFiles()
	wrong.Files[1].Crc = -1
	turned := threeFiles()
	slices.Reverse(turned.Blocks)
	for i, c := range append(someCatalogs(), wrong, turned, drawnCatalog(1594, 100, 200)) {
		given, was := roomyCatalog(c), keptCatalog(c)
		for _, name := range append(namesFor(c)[:20%len(namesFor(c))], "b", "no_file") {
			what := fmt.Sprint("catalog ", i, " without ", name)
			want := keptCatalog(plainDrop(c, name))
			out := impl.CatalogDrop(given, name)
			namesApart(t, what, out.Files, append(namesOf(given), name))
			again := impl.CatalogDrop(given, name)
			spoilCatalog(out)
			sameCatalog(t, what+", handed in", given, was)
			is(t, what+", room left", catalogRoomLeft(given), true)
			sameCatalog(t, what+", another answer", again, want)
			sameCatalog(t, what+", asked again", impl.CatalogDrop(given, name), want)
		}
	}
}

func TestWhatIsHandedInMayChangeBehindAnAnswer(t *testing.T) {
	wrong := threeFiles()
	wrong.Next = mostNext + 1
	for i, c := range append(someCatalogs(), wrong) {
		given := roomyCatalog(c)
		out, asIs := impl.CatalogDrop(given, "b"), impl.CatalogDrop(given, "no_file")
		spoilCatalog(given)
		sameCatalog(t, fmt.Sprint("catalog ", i), out, plainDrop(c, "b"))
		sameCatalog(t, fmt.Sprint("catalog ", i, ", as it is"), asIs, c)
	}
}

func TestWhatIsReadOfACatalogIsNewMemory(t *testing.T) {
	for i, c := range someCatalogs() {
		what := fmt.Sprint("catalog ", i)
		given := roomyCatalog(c)
		text := impl.CatalogBytes(given)
		sealed := strings.Clone(text)
		for _, name := range namesOf(given) {
			is(t, what+", bytes apart", len(name) > 1 && within(text, name), false)
			namesApart(t, what+", a file", []impl.File{impl.FileOf(given, name)}, append(namesOf(given), name))
		}
		out := impl.CatalogRead(text).Catalog
		namesApart(t, what+", read", out.Files, append(namesOf(given), text))
		spoilCatalog(out)
		is(t, what+", the text", text, sealed)
		readsAs(t, what+", read again", text, impl.CatalogOut{Catalog: c})
		impl.CatalogRight(given)
		impl.Live(given, 1)
		is(t, what+", room left", catalogRoomLeft(given), true)
		sameCatalog(t, what+", handed in", given, c)
	}
}
