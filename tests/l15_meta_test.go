package tests

import (
	"fmt"
	"math"
	"math/rand"
	"slices"
	"strings"
	"testing"

	"loop.example/g00322/impl"
)

var (
	_ func(impl.Meta) bool              = impl.MetaOk
	_ func(impl.Meta) []byte            = impl.PutMeta
	_ func([]byte) (impl.Meta, bool)    = impl.GetMeta
	_ func(impl.Disk) (impl.Meta, bool) = impl.BestMeta
	_ func(int, []impl.Fault) impl.Disk = impl.Format
	_ struct{ Gen, Root int }           = struct{ Gen, Root int }(impl.Meta{})
)

func meta(gen int, root int) impl.Meta { return impl.Meta{Gen: gen, Root: root} }

// wordsMetaOk is what the chapter tells of a root.
func wordsMetaOk(m impl.Meta) bool {
	return m.Gen >= 0 && m.Gen <= 1000000 && (m.Root == 0 || m.Root >= 2 && m.Root <= 47)
}

// wordsMeta has a root's bytes by the chapter's words.
func wordsMeta(m impl.Meta) string {
	if !wordsMetaOk(m) {
		return ""
	}
	return wordsPage(2, wordsGroups(m.Gen)+wordsGroups(m.Root))
}

// groupsNumber has what groups of seven bits come to, whether they are as they should be or not.
func groupsNumber(s string) int {
	n, by := 0, 1
	for i := range len(s) {
		n += int(s[i]) % 128 * by
		by *= 128
	}
	return n
}

// metaRead reads a root by the words alone: one that some cut of a page's body makes.
func metaRead(b string) (impl.Meta, bool) {
	_, body, _ := pageRead(b)
	for cut := range min(len(body), 4) {
		if len(body)-cut > 3 {
			continue
		}
		m := meta(groupsNumber(body[:cut]), groupsNumber(body[cut:]))
		if wordsMetaOk(m) && wordsMeta(m) == b {
			return m, true
		}
	}
	return impl.Meta{}, false
}

// wordsBest has the root that counts by the chapter's words.
func wordsBest(d impl.Disk) (impl.Meta, bool) {
	var all []impl.Meta
	for _, n := range []int{0, 1} {
		sec, _ := wordsReadSec(d, n)
		if m, ok := metaRead(sec); ok && m.Gen%2 == n {
			all = append(all, m)
		}
	}
	if len(all) == 0 {
		return impl.Meta{}, false
	}
	return slices.MaxFunc(all, func(a impl.Meta, b impl.Meta) int { return a.Gen - b.Gen }), true
}

func rightGens() []int {
	return []int{0, 1, 2, 3, 47, 48, 127, 128, 129, 255, 256, 257, 16383, 16384, 16385, 65536, 99999, 100000, 999998, 999999, 1000000}
}

func wrongGens() []int {
	return []int{-1, -2, -128, -1000000, -1 << 32, math.MinInt, math.MinInt + 1, 1000001, 1000002, 1 << 20, 1 << 21, 1<<21 + 5, 1 << 32, 1<<32 + 5, math.MaxInt - 1, math.MaxInt}
}

// rightRoots has each sector that a tree may stand in, and none.
func rightRoots() []int {
	out := []int{0}
	for n := 2; n < 48; n++ {
		out = append(out, n)
	}
	return out
}

func wrongRoots() []int {
	return []int{1, 48, 49, 50, 127, 128, 130, 255, 256, 258, 16384, 16386, 1000000, 1000001, -1, -2, -3, -46, -47, -48, -256, 1 << 32, 1<<32 + 2, math.MinInt, math.MinInt + 2, math.MaxInt - 1, math.MaxInt}
}

func rightMetas() []impl.Meta {
	var out []impl.Meta
	for _, gen := range rightGens() {
		for _, root := range rightRoots() {
			out = append(out, meta(gen, root))
		}
	}
	return out
}

// wrongMetas have a wrong Gen, a wrong Root, or both.
func wrongMetas() []impl.Meta {
	var out []impl.Meta
	for _, gen := range wrongGens() {
		for _, root := range append(wrongRoots(), 0, 2, 9, 47) {
			out = append(out, meta(gen, root))
		}
	}
	for _, root := range wrongRoots() {
		for _, gen := range rightGens() {
			out = append(out, meta(gen, root))
		}
	}
	return out
}

// fewMetas has each length that the numbers may have, and the edges.
func fewMetas() []impl.Meta {
	return []impl.Meta{meta(0, 0), meta(0, 2), meta(0, 47), meta(1, 0), meta(5, 9), meta(127, 47), meta(128, 2), meta(16383, 3), meta(16384, 0), meta(999999, 47), meta(1000000, 0), meta(1000000, 47)}
}

func isMeta(t *testing.T, m impl.Meta) {
	t.Helper()
	want := wordsMeta(m)
	if !impl.MetaOk(m) {
		t.Fatalf("MetaOk(%v) is false", m)
	}
	if b := impl.PutMeta(m); string(b) != want {
		t.Fatalf("PutMeta(%v) = %x, not %x", m, b, want)
	}
	if got, ok := impl.GetMeta([]byte(want)); got != m || !ok {
		t.Fatalf("GetMeta(%x) = %v, %v, not %v", want, got, ok, m)
	}
}

func isNoMeta(t *testing.T, m impl.Meta) {
	t.Helper()
	if impl.MetaOk(m) {
		t.Errorf("MetaOk(%v) is true", m)
	}
	if b := impl.PutMeta(m); len(b) != 0 {
		t.Errorf("PutMeta(%v) = %x", m, b)
	}
}

// noMetaOf asks that GetMeta refuses, with nothing beside it.
func noMetaOf(t *testing.T, what string, b string) {
	t.Helper()
	if m, ok := impl.GetMeta([]byte(b)); m != (impl.Meta{}) || ok {
		t.Fatalf("%s: GetMeta(%x) = %v, %v", what, b, m, ok)
	}
}

func isBest(t *testing.T, what string, d impl.Disk, want impl.Meta) {
	t.Helper()
	if got, ok := impl.BestMeta(d); got != want || !ok {
		t.Errorf("%s: BestMeta(%s) = %v, %v, not %v", what, diskText(d), got, ok, want)
	}
}

func hasNoBest(t *testing.T, what string, d impl.Disk) {
	t.Helper()
	if got, ok := impl.BestMeta(d); got != (impl.Meta{}) || ok {
		t.Errorf("%s: BestMeta(%s) = %v, %v", what, diskText(d), got, ok)
	}
}

func bestAs(t *testing.T, what string, d impl.Disk) {
	t.Helper()
	got, ok := impl.BestMeta(d)
	if want, wanted := wordsBest(d); got != want || ok != wanted {
		t.Fatalf("%s: BestMeta(%s) = %v, %v, not %v, %v", what, diskText(d), got, ok, want, wanted)
	}
}

func TestMetasThatAreRight(t *testing.T) {
	for _, m := range rightMetas() {
		isMeta(t, m)
	}
	for gen := 0; gen <= 1000000; gen += 61 {
		isMeta(t, meta(gen, 0))
		isMeta(t, meta(gen, 2+gen%46))
	}
}

func TestMetasThatAreNotRight(t *testing.T) {
	for _, m := range wrongMetas() {
		isNoMeta(t, m)
	}
}

// Each Root that is near: those of the sectors, but not the second of the roots' own.
func TestRootsOneByOne(t *testing.T) {
	for root := -300; root <= 300; root++ {
		want := root == 0 || root > 1 && root < 48
		if got := impl.MetaOk(meta(7, root)); got != want {
			t.Errorf("MetaOk of the Root %d = %v", root, got)
		}
		if got := len(impl.PutMeta(meta(7, root))) > 0; got != want {
			t.Errorf("PutMeta of the Root %d: %v", root, got)
		}
	}
}

func TestMetasAsBytes(t *testing.T) {
	for _, c := range []struct {
		m    impl.Meta
		want string
	}{
		{meta(0, 0), summed("\x02\x02\x00\x00")},
		{meta(5, 9), summed("\x02\x02\x05\x09")},
		{meta(9, 5), summed("\x02\x02\x09\x05")},
		{meta(127, 47), summed("\x02\x02\x7f\x2f")},
		{meta(128, 2), summed("\x02\x03\x80\x01\x02")},
		{meta(16383, 0), summed("\x02\x03\xff\x7f\x00")},
		{meta(16384, 3), summed("\x02\x04\x80\x80\x01\x03")},
		{meta(1000000, 47), summed("\x02\x04\xc0\x84\x3d\x2f")},
	} {
		if got := impl.PutMeta(c.m); string(got) != c.want {
			t.Errorf("PutMeta(%v) = %x, not %x", c.m, got, c.want)
		}
		if got, ok := impl.GetMeta([]byte(c.want)); got != c.m || !ok {
			t.Errorf("GetMeta(%x) = %v, %v", c.want, got, ok)
		}
	}
}

// A root is a page of its kind, and of no other.
func TestMetasArePages(t *testing.T) {
	for _, m := range fewMetas() {
		k, body, ok := impl.GetPage(impl.PutMeta(m))
		if k != impl.PgMeta || string(body) != wordsGroups(m.Gen)+wordsGroups(m.Root) || !ok {
			t.Errorf("GetPage(PutMeta(%v)) = %d, %x, %v", m, k, body, ok)
		}
		noMetaOf(t, "the other kind", wordsPage(1, string(body)))
		noMetaOf(t, "the body alone", string(body))
		noMetaOf(t, "the body with a sum", summed(string(body)))
		for k := range 300 {
			if k != 2 {
				noMetaOf(t, fmt.Sprint("the kind ", k), summed(countForm(k)+countForm(len(body))+string(body)))
			}
		}
	}
}

func TestMetasCutAnywhere(t *testing.T) {
	for _, m := range rightMetas() {
		b := wordsMeta(m)
		for from := range b {
			noMetaOf(t, "cut behind", b[:from])
			noMetaOf(t, "cut ahead", b[from+1:])
		}
	}
	for _, m := range fewMetas() {
		b := wordsMeta(m)
		for from := range len(b) {
			for to := from + 1; to <= len(b); to++ {
				noMetaOf(t, "cut between", b[:from]+b[to:])
			}
		}
	}
}

func TestMetasWithOneBitTurned(t *testing.T) {
	for _, m := range rightMetas() {
		b := []byte(wordsMeta(m))
		for i := range b {
			for bit := range 8 {
				b[i] ^= 1 << bit
				noMetaOf(t, fmt.Sprint("bit ", bit, " of byte ", i), string(b))
				b[i] ^= 1 << bit
			}
		}
	}
}

func TestMetasWithBytesBehindOrAhead(t *testing.T) {
	for _, m := range fewMetas() {
		b := wordsMeta(m)
		for c := range 256 {
			more := string([]byte{byte(c)})
			noMetaOf(t, "a byte behind", b+more)
			noMetaOf(t, "a byte ahead", more+b)
		}
		noMetaOf(t, "twice", b+b)
		noMetaOf(t, "up to the sector's end", b+strings.Repeat("\x00", 256-len(b)))
	}
}

// The page is whole, but its body has more than two numbers, or fewer.
func TestMetasOfOtherBodies(t *testing.T) {
	for _, m := range fewMetas() {
		gen, root := wordsGroups(m.Gen), wordsGroups(m.Root)
		for _, more := range []string{"\x00", "\x01", "\x02", "\x80", "\x80\x00", "\xff", gen, root, gen + root, strings.Repeat("\x00", 200), wordsMeta(m)} {
			noMetaOf(t, "bytes behind the numbers", wordsPage(2, gen+root+more))
		}
		noMetaOf(t, "no Root", wordsPage(2, gen))
		noMetaOf(t, "a Root that goes on", wordsPage(2, gen+"\x82"))
		noMetaOf(t, "a Root with a needless group", wordsPage(2, gen+string([]byte{root[0] + 128, 0})))
		last := len(gen) - 1
		noMetaOf(t, "a Gen with a needless group", wordsPage(2, gen[:last]+string([]byte{gen[last] + 128, 0})+root))
		noMetaOf(t, "a Gen that goes on", wordsPage(2, gen[:last]+string([]byte{gen[last] + 128})))
		noMetaOf(t, "a number ahead of the two", wordsPage(2, "\x00"+gen+root))
		noMetaOf(t, "groups ahead of the two numbers", wordsPage(2, "\x80\x80\x80"+gen+root))
		noMetaOf(t, "two texts", wordsPage(2, "\x01"+gen+"\x01"+root))
	}
	noMetaOf(t, "no number", wordsPage(2, ""))
}

// The two numbers are there whole, but no Meta that is right has them.
func TestMetasOfNumbersThatAreNotRight(t *testing.T) {
	for _, gen := range rightGens() {
		for _, root := range wrongRoots() {
			if root >= 0 && root <= 1000000 {
				noMetaOf(t, fmt.Sprint("the Root ", root), wordsPage(2, wordsGroups(gen)+wordsGroups(root)))
			}
		}
	}
	for _, gen := range []string{"\xc1\x84\x3d", "\xc2\x84\x3d", "\xff\xff\x7f", "\x80\x80\x80\x01", "\xff\xff\xff\x01", "\xff\xff\xff\xff\x7f"} {
		for _, root := range rightRoots() {
			noMetaOf(t, "a Gen above MaxNum", wordsPage(2, gen+wordsGroups(root)))
		}
	}
	for _, root := range []string{"\xc1\x84\x3d", "\xff\xff\x7f", "\x80\x80\x80\x01", "\x82\x80\x80\x80\x10"} {
		noMetaOf(t, "a Root above MaxNum", wordsPage(2, "\x05"+root))
	}
}

func TestGetMetaOfWhatIsNoPage(t *testing.T) {
	if m, ok := impl.GetMeta(nil); m != (impl.Meta{}) || ok {
		t.Errorf("nil: %v, %v", m, ok)
	}
	for n := range 300 {
		noMetaOf(t, "noughts", strings.Repeat("\x00", n))
		noMetaOf(t, "all bits", strings.Repeat("\xff", n))
		noMetaOf(t, "mixed", string(mixed(n)))
		noMetaOf(t, "a page of something", wordsPage(2, string(mixed(min(n+5, 240)))))
	}
	noMetaOf(t, "a node", string(impl.PutPage(impl.PgNode, impl.PutNode(leafOf("a", "v")))))
	noMetaOf(t, "much", strings.Repeat("\x02", 1000000))
}

func readsMeta(t *testing.T, b string) bool {
	t.Helper()
	m, ok := impl.GetMeta([]byte(b))
	if want, wanted := metaRead(b); m != want || ok != wanted {
		t.Fatalf("GetMeta(%x) = %v, %v, not %v, %v", b, m, ok, want, wanted)
	}
	if ok && (string(impl.PutMeta(m)) != b || !impl.MetaOk(m)) {
		t.Fatalf("GetMeta(%x) = %v, whose bytes are %x", b, m, impl.PutMeta(m))
	}
	return ok
}

// All short bodies of both kinds that the form leans on: what is read is just what is made.
func TestGetMetaReadsJustWhatIsMade(t *testing.T) {
	metas := 0
	for _, body := range textsOf("\x00\x01\x02\x2f\x30\x3d\x80\x84\xc0", 4) {
		if readsMeta(t, wordsPage(2, body)) {
			metas++
		}
		if readsMeta(t, wordsPage(1, body)) {
			t.Fatalf("a page of the other kind: %x", body)
		}
		readsMeta(t, body)
	}
	// A Gen of one group, of two and of three; of these last three are above MaxNum: 61 times 16384, and 64 times 128.
	gens := 6 + 3*5 + 3*3*5 - 3
	// Each with the Roots 0, 2 and 47.
	if metas != gens*3 {
		t.Errorf("%d roots, not %d", metas, gens*3)
	}
}

func TestMetasByTheWords(t *testing.T) {
	r := rand.New(rand.NewSource(15))
	right, wrong := 0, 0
	for range 40000 {
		m := someMeta(r)
		if wordsMetaOk(m) {
			right++
			isMeta(t, m)
		} else {
			wrong++
			isNoMeta(t, m)
		}
		body := []byte(wordsGroups(m.Gen) + wordsGroups(m.Root))
		readsMeta(t, wordsPage(2, string(body)))
		switch at := r.Intn(len(body)); r.Intn(4) {
		case 0:
			body[at] = byte(r.Intn(256))
		case 1:
			body = append(body[:at:at], body[at+1:]...)
		case 2:
			body = append(body, byte(r.Intn(256)))
		case 3:
			body[at] ^= 1 << r.Intn(8)
		}
		readsMeta(t, wordsPage(2, string(body)))
		readsMeta(t, wordsPage(1+r.Intn(2), string(body))[:r.Intn(7)])
	}
	if right < 10000 || wrong < 5000 {
		t.Errorf("%d right, %d wrong", right, wrong)
	}
}

// someMeta is right more often than not.
func someMeta(r *rand.Rand) impl.Meta {
	m := meta(r.Intn([]int{4, 300, 20000, 1000001}[r.Intn(4)]), r.Intn(52))
	switch r.Intn(8) {
	case 0:
		m.Gen = -r.Intn(5)
	case 1:
		m.Gen = 999998 + r.Intn(5)
	case 2:
		m.Root = r.Intn(300) - 150
	}
	return m
}

// The edges that the chapter leans on, one disk each.
func TestTheRootThatCounts(t *testing.T) {
	none := ""
	zero, two, four := wordsMeta(meta(0, 0)), wordsMeta(meta(2, 7)), wordsMeta(meta(4, 8))
	one, three, five := wordsMeta(meta(1, 5)), wordsMeta(meta(3, 6)), wordsMeta(meta(5, 9))
	for _, c := range []struct {
		what       string
		even, odd  string
		want       impl.Meta
		thereIsOne bool
	}{
		{"nothing", none, none, meta(0, 0), false},
		{"the first of all", zero, none, meta(0, 0), true},
		{"sector 0 alone", two, none, meta(2, 7), true},
		{"sector 1 alone", none, one, meta(1, 5), true},
		{"sector 1 alone, greater", none, five, meta(5, 9), true},
		{"the newer in sector 1", zero, one, meta(1, 5), true},
		{"the newer in sector 0", two, one, meta(2, 7), true},
		{"the newer in sector 1 by one", four, five, meta(5, 9), true},
		{"the newer in sector 0 by one", four, three, meta(4, 8), true},
		{"the newer in sector 1 by far", zero, five, meta(5, 9), true},
		{"the newer in sector 0 by far", four, one, meta(4, 8), true},
		{"an odd one in sector 0", one, none, meta(0, 0), false},
		{"an even one in sector 1", none, two, meta(0, 0), false},
		{"the first of all in sector 1", none, zero, meta(0, 0), false},
		{"both in the other's place", one, two, meta(0, 0), false},
		{"both in the other's place, turned", five, zero, meta(0, 0), false},
		{"an odd one in sector 0, greater", five, one, meta(1, 5), true},
		{"an even one in sector 1, greater", two, four, meta(2, 7), true},
		{"one and the same in both, odd", three, three, meta(3, 6), true},
		{"one and the same in both, even", four, four, meta(4, 8), true},
		{"the first of all in both", zero, zero, meta(0, 0), true},
		{"a cut one in sector 0", four[:5], three, meta(3, 6), true},
		{"a cut one in sector 1", two, three[:5], meta(2, 7), true},
		{"both cut", four[:7], three[:7], meta(0, 0), false},
		{"a node in sector 0", wordsPage(1, "\x04\x08"), three, meta(3, 6), true},
		{"a node in sector 1", two, wordsPage(1, "\x03\x06"), meta(2, 7), true},
		{"a wrong Root in sector 0", wordsPage(2, "\x04\x01"), three, meta(3, 6), true},
		{"a wrong Root in sector 1", two, wordsPage(2, "\x03\x30"), meta(2, 7), true},
		{"more behind the numbers", wordsPage(2, "\x04\x08\x00"), three, meta(3, 6), true},
		{"more behind the page", two, three + "\x00", meta(2, 7), true},
		{"the greatest", wordsMeta(meta(1000000, 47)), wordsMeta(meta(999999, 46)), meta(1000000, 47), true},
		{"the greatest but one", wordsMeta(meta(999998, 47)), wordsMeta(meta(999999, 46)), meta(999999, 46), true},
		{"the greatest in sector 1", none, wordsMeta(meta(1000000, 47)), meta(0, 0), false},
		{"a greater Root of an older one", wordsMeta(meta(2, 47)), wordsMeta(meta(3, 0)), meta(3, 0), true},
		{"a greater Root of an older one, turned", wordsMeta(meta(4, 0)), wordsMeta(meta(3, 47)), meta(4, 0), true},
		{"more bytes of a newer one", wordsMeta(meta(128, 2)), wordsMeta(meta(127, 3)), meta(128, 2), true},
		{"bytes in another order than Gens", wordsMeta(meta(256, 2)), wordsMeta(meta(255, 3)), meta(256, 2), true},
	} {
		d := diskOf(c.even, c.odd, "", "")
		if got, ok := impl.BestMeta(d); got != c.want || ok != c.thereIsOne {
			t.Errorf("%s: %v, %v, not %v, %v", c.what, got, ok, c.want, c.thereIsOne)
		}
		bestAs(t, c.what, d)
		// As well from the cache, over whatever stands below.
		d = diskOf(five, four, "", "")
		d.Cache = []impl.Write{write(0, four), write(2, one), write(1, c.odd), write(0, c.even), write(3, zero)}
		if got, ok := impl.BestMeta(d); got != c.want || ok != c.thereIsOne {
			t.Errorf("%s, in the cache: %v, %v, not %v, %v", c.what, got, ok, c.want, c.thereIsOne)
		}
	}
}

// Roots in other sectors count for nothing.
func TestRootsInOtherSectors(t *testing.T) {
	d := impl.DiskNew(48, nil)
	for n := 2; n < 48; n++ {
		d.Secs[n] = impl.PutMeta(meta(n, 0))
	}
	hasNoBest(t, "from sector 2 on", d)
	d.Cache = []impl.Write{write(2, wordsMeta(meta(2, 2))), write(3, wordsMeta(meta(3, 3)))}
	hasNoBest(t, "in the cache", d)
	d.Secs[1] = impl.PutMeta(meta(1, 2))
	isBest(t, "one in sector 1", d, meta(1, 2))
	d.Secs[0] = impl.PutMeta(meta(0, 0))
	isBest(t, "one in each", d, meta(1, 2))
}

// A root stands in the cache alone, or is written over there.
func TestRootsInTheCache(t *testing.T) {
	d := impl.DiskNew(4, nil)
	d.Cache = []impl.Write{write(1, wordsMeta(meta(7, 3)))}
	isBest(t, "in the cache alone", d, meta(7, 3))
	d.Secs[0] = impl.PutMeta(meta(6, 2))
	isBest(t, "the newer in the cache", d, meta(7, 3))
	d.Secs[0] = impl.PutMeta(meta(8, 2))
	isBest(t, "the older in the cache", d, meta(8, 2))
	d.Cache = append(d.Cache, write(0, ""))
	isBest(t, "written over with nothing", d, meta(7, 3))
	d.Cache = append(d.Cache, write(1, wordsMeta(meta(7, 3))[:4]))
	hasNoBest(t, "both written over", d)
	d.Cache = append(d.Cache, write(0, wordsMeta(meta(4, 5))))
	isBest(t, "with an older one", d, meta(4, 5))
	d.Cache = append(d.Cache, write(0, wordsMeta(meta(5, 5))))
	hasNoBest(t, "with one of the other sector", d)
	d.Cache = append(d.Cache, write(1, wordsMeta(meta(1, 0))))
	isBest(t, "with one in sector 1", d, meta(1, 0))
	d, code := impl.Flush(d)
	if code != impl.CoGood {
		t.Fatalf("a Flush: %d", code)
	}
	isBest(t, "flushed", d, meta(1, 0))
	// A Write of a sector that is not there is no sector 0 or 1 either.
	d.Cache = []impl.Write{write(-1, wordsMeta(meta(9, 0))), write(256, wordsMeta(meta(10, 0)))}
	isBest(t, "Writes of no sector", d, meta(1, 0))
}

// Reading asks neither for power, nor for operations that are left, nor for a disk that is right.
func TestRootsOfDisksThatAreOffOrNotRight(t *testing.T) {
	d := diskOf(wordsMeta(meta(2, 7)), wordsMeta(meta(3, 8)), "", "")
	d.Down = true
	isBest(t, "off", d, meta(3, 8))
	d.Ops = 100000
	isBest(t, "no operation left", d, meta(3, 8))
	d.Faults = []impl.Fault{fault(0, 0, 0)}
	isBest(t, "Faults", d, meta(3, 8))
	isBest(t, "two sectors", diskOf(wordsMeta(meta(2, 7)), wordsMeta(meta(3, 8))), meta(3, 8))
	isBest(t, "one sector", diskOf(wordsMeta(meta(2, 7))), meta(2, 7))
	hasNoBest(t, "one sector with one of the other", diskOf(wordsMeta(meta(3, 8))))
	for what, d := range someDisks() {
		bestAs(t, what, d)
		for n := range min(len(d.Secs), 2) {
			d := diskCopy(d)
			d.Secs[n] = impl.PutMeta(meta(10+n, 2))
			bestAs(t, what, d)
			d.Cache = append(d.Cache, write(n, wordsMeta(meta(20+n, 3))))
			isBest(t, what, d, meta(20+n, 3))
		}
	}
}

func TestDisksWithoutSectors(t *testing.T) {
	root := []impl.Write{write(0, wordsMeta(meta(2, 7))), write(1, wordsMeta(meta(3, 8)))}
	hasNoBest(t, "zero", impl.Disk{})
	hasNoBest(t, "no sectors", impl.Disk{Secs: [][]byte{}})
	hasNoBest(t, "off", impl.Disk{Down: true})
	hasNoBest(t, "Writes without sectors", impl.Disk{Cache: root})
	// Sector 0 is there, sector 1 is not.
	isBest(t, "Writes with one sector", impl.Disk{Secs: make([][]byte, 1), Cache: root}, meta(2, 7))
}

// rootForms has what may stand in the sectors 0 and 1, right and not.
func rootForms() []string {
	out := []string{"", "x", wordsPage(1, "\x04\x02"), wordsPage(2, "\x04\x01"), wordsPage(2, "\x05\x30"), wordsPage(2, "\x04\x02\x02"), wordsMeta(meta(6, 2))[:6], wordsMeta(meta(7, 2))[1:]}
	for gen := range 8 {
		out = append(out, wordsMeta(meta(gen, 0)), wordsMeta(meta(gen, 2+gen)))
	}
	return append(out, wordsMeta(meta(999999, 47)), wordsMeta(meta(1000000, 47)), wordsMeta(meta(127, 3)), wordsMeta(meta(128, 3)))
}

func TestAllPairsOfRoots(t *testing.T) {
	for _, even := range rootForms() {
		for _, odd := range rootForms() {
			d := diskOf(even, odd, wordsMeta(meta(98, 2)), wordsMeta(meta(99, 2)))
			bestAs(t, "a pair", d)
			for _, w := range []impl.Write{write(0, wordsMeta(meta(3, 9))), write(0, wordsMeta(meta(4, 9))), write(1, wordsMeta(meta(5, 9))), write(1, ""), write(2, wordsMeta(meta(96, 2)))} {
				d.Cache = []impl.Write{write(w.N, even), w}
				bestAs(t, "a pair below a Write", d)
			}
		}
	}
}

// The Gens, as large as they may be, are told apart by one.
func TestTheNewerOfTwoNeighbours(t *testing.T) {
	for _, gen := range rightGens() {
		for _, ahead := range []int{1, 3, 127, 129, 9999} {
			older := gen - ahead
			if older < 0 {
				continue
			}
			d := diskOf("", "", "", "")
			d.Secs[gen%2], d.Secs[older%2] = impl.PutMeta(meta(gen, 0)), impl.PutMeta(meta(older, 47))
			isBest(t, "neighbours", d, meta(gen, 0))
			d.Secs[gen%2] = d.Secs[gen%2][:len(d.Secs[gen%2])-1]
			isBest(t, "the newer is cut", d, meta(older, 47))
			d.Secs[gen%2], d.Secs[older%2] = impl.PutMeta(meta(older, 0)), impl.PutMeta(meta(gen, 0))
			hasNoBest(t, "turned", d)
		}
	}
}

func TestNewDisksWithARoot(t *testing.T) {
	for _, n := range []int{4, 5, 6, 17, 47, 48} {
		for _, l := range faultLists() {
			want := impl.Disk{Secs: make([][]byte, n), Faults: l}
			want.Secs[0] = []byte(summed("\x02\x02\x00\x00"))
			d := impl.Format(n, l)
			if !sameDisk(d, want) || len(d.Secs) != n || !impl.DiskOk(d) {
				t.Errorf("Format(%d, %v) = %s", n, l, diskText(d))
			}
			isBest(t, "a new one", d, meta(0, 0))
		}
	}
}

func TestNoNewDisksWithARoot(t *testing.T) {
	for _, n := range []int{3, 2, 1, 0, -1, -4, -48, 49, 50, 1 << 40, math.MaxInt, math.MinInt} {
		for _, l := range faultLists() {
			if d := impl.Format(n, l); !isZeroDisk(d) || impl.DiskOk(d) {
				t.Errorf("Format(%d, %v) = %s", n, l, diskText(d))
			}
		}
		hasNoBest(t, "no disk", impl.Format(n, nil))
	}
	for what, l := range wrongFaults() {
		for _, n := range []int{3, 4, 48, 49} {
			d := impl.Format(n, l)
			if !isZeroDisk(d) || impl.DiskOk(d) {
				t.Errorf("%s: Format(%d, %v) = %s", what, n, l, diskText(d))
			}
			hasNoBest(t, what, d)
		}
	}
	many := make([]impl.Fault, 1000000)
	for i := range many {
		many[i].At = i
	}
	if d := impl.Format(4, many); !isZeroDisk(d) {
		t.Error("a million Faults")
	}
}

// A Fault at the first operation keeps the root, and waits: Format makes no operation.
func TestFormatMakesNoOperation(t *testing.T) {
	for _, f := range []impl.Fault{fault(0, 0, 0), fault(0, 1, 0), fault(0, 1, 3), fault(0, 1048575, 256)} {
		d := impl.Format(4, []impl.Fault{f})
		if d.Ops != 0 || d.Down || len(d.Cache) != 0 || len(d.Faults) != 1 || string(d.Secs[0]) != wordsMeta(meta(0, 0)) {
			t.Errorf("%+v: %s", f, diskText(d))
		}
		isBest(t, "a Fault at the first operation", d, meta(0, 0))
		d, code := impl.Flush(d)
		if code != impl.CoDown || !d.Down || d.Ops != 1 {
			t.Errorf("%+v: %s, %d", f, diskText(d), code)
		}
		isBest(t, "the power went", d, meta(0, 0))
		isBest(t, "the power is back", impl.TurnOn(d), meta(0, 0))
	}
}

// Roots take turns; wherever one is cut when the power goes, the one ahead counts, or it.
func TestRootsCutByThePower(t *testing.T) {
	for _, m := range []impl.Meta{meta(1, 5), meta(2, 6), meta(128, 7), meta(999999, 47), meta(1000000, 2)} {
		ahead := meta(m.Gen-1, 9)
		b := impl.PutMeta(m)
		for cut := range impl.SecSize + 1 {
			for keep := range 2 {
				d := impl.Format(4, []impl.Fault{fault(0, keep, cut)})
				d.Secs[ahead.Gen%2] = impl.PutMeta(ahead)
				d.Secs[m.Gen%2] = nil
				if m.Gen > 1 {
					d.Secs[m.Gen%2] = impl.PutMeta(meta(m.Gen-2, 3))
				}
				d, code := impl.WriteSec(d, m.Gen%2, b)
				if code != impl.CoDown || !d.Down {
					t.Fatalf("the power did not go: %d", code)
				}
				want := ahead
				if keep == 1 && cut >= len(b) {
					want = m
				}
				what := fmt.Sprint(m, " kept ", keep, " cut at ", cut)
				isBest(t, what+", off", d, want)
				isBest(t, what, impl.TurnOn(d), want)
			}
		}
	}
}

func TestRootsTakeTurns(t *testing.T) {
	d := impl.Format(6, nil)
	for gen := 1; gen <= 40; gen++ {
		m := meta(gen, 2+gen%4)
		ahead, _ := impl.BestMeta(d)
		d, _ = impl.WriteSec(d, gen%2, impl.PutMeta(m))
		isBest(t, "written", d, m)
		lost := diskCopy(d)
		lost.Cache = nil
		isBest(t, "lost", lost, ahead)
		d, _ = impl.Flush(d)
		isBest(t, "flushed", d, m)
	}
}

func TestRootsByTheWords(t *testing.T) {
	r := rand.New(rand.NewSource(150))
	there := 0
	for range 20000 {
		d := someDisk(r)
		for range 1 + r.Intn(4) {
			b := wordsMeta(someMeta(r))
			if len(b) > 0 && r.Intn(5) == 0 {
				b = b[:r.Intn(len(b))]
			}
			if n := r.Intn(3); r.Intn(2) == 0 {
				d.Secs[n] = []byte(b)
			} else {
				d.Cache = append(d.Cache, write(n, b))
			}
		}
		bestAs(t, "some", d)
		if _, ok := wordsBest(d); ok {
			there++
		}
	}
	if there < 5000 {
		t.Errorf("%d disks with a root", there)
	}
}

// What was asked ahead leaves nothing behind.
func TestRootsKeepNothing(t *testing.T) {
	d, none := diskOf(wordsMeta(meta(2, 7)), wordsMeta(meta(3, 8)), "", ""), impl.DiskNew(4, nil)
	for range 3 {
		isBest(t, "the disk", d, meta(3, 8))
		hasNoBest(t, "between them", none)
		isMeta(t, meta(5, 9))
		isNoMeta(t, meta(5, 1))
		noMetaOf(t, "between them", wordsMeta(meta(5, 9))[:6])
		impl.Format(3, nil)
		if got := impl.Format(4, []impl.Fault{fault(3, 1, 1)}); !sameDisk(got, impl.Format(4, []impl.Fault{fault(3, 1, 1)})) {
			t.Errorf("Format: %s", diskText(got))
		}
	}
	// A disk that was formatted, and turned since, is not the next one.
	turned := impl.Format(4, nil)
	overwriteDisk(turned)
	isBest(t, "the next one", impl.Format(4, nil), meta(0, 0))
}

func TestBytesOfRootsAreNewMemory(t *testing.T) {
	for _, m := range append(fewMetas(), meta(0, 1), meta(-1, 0)) {
		first, second := impl.PutMeta(m), impl.PutMeta(m)
		overwrite(first)
		if string(second) != wordsMeta(m) || string(impl.PutMeta(m)) != wordsMeta(m) {
			t.Errorf("PutMeta(%v): two answers share memory", m)
		}
	}
}

func TestBytesOfRootsAreNotWrittenTo(t *testing.T) {
	all := []string{"", "x", wordsPage(1, "\x05\x09"), wordsPage(2, "\x05\x01"), wordsPage(2, "\x05\x09\x00")}
	for _, m := range fewMetas() {
		all = append(all, wordsMeta(m), wordsMeta(m)[:5])
	}
	for _, s := range all {
		b := spared(s)
		impl.GetMeta(b)
		untouched(t, "GetMeta", b, s)
	}
}

// The spare room goes on with what would make each of these whole.
func TestRootSpareRoomIsNotRead(t *testing.T) {
	for _, m := range fewMetas() {
		b := []byte(wordsMeta(m))
		for n := range b {
			if got, ok := impl.GetMeta(b[:n]); got != (impl.Meta{}) || ok {
				t.Errorf("%d of %d bytes: %v, %v", n, len(b), got, ok)
			}
			d := diskOf("", "", "", "")
			d.Secs[m.Gen%2] = b[:n]
			hasNoBest(t, "a sector with room behind it", d)
			d.Secs[m.Gen%2] = nil
			d.Cache = []impl.Write{{N: m.Gen % 2, B: b[:n]}, {N: m.Gen % 2, B: b}}[:1]
			hasNoBest(t, "a Write with room behind it", d)
		}
	}
	secs := [][]byte{[]byte(wordsMeta(meta(2, 7))), []byte(wordsMeta(meta(3, 8)))}
	isBest(t, "a sector in the room behind", impl.Disk{Secs: secs[:1]}, meta(2, 7))
	hasNoBest(t, "sectors in the room behind", impl.Disk{Secs: secs[:0]})
}

func TestDisksAskedForTheirRootAreNotWrittenTo(t *testing.T) {
	all := someDisks()
	all["two roots"] = diskOf(wordsMeta(meta(2, 7)), wordsMeta(meta(3, 8)), "", "")
	cached := diskOf(wordsMeta(meta(2, 7)), "", "", "")
	cached.Cache = []impl.Write{write(1, wordsMeta(meta(3, 8))), write(0, wordsMeta(meta(4, 8)))}
	all["roots in the cache"] = cached
	for what, d := range all {
		arg := roomyDisk(d)
		ahead := allDisk(arg)
		bestAs(t, what, arg)
		if allDisk(arg) != ahead {
			t.Errorf("%s: the disk turned into %s", what, allDisk(arg))
		}
	}
}

func TestNewDisksWithARootAreNewMemory(t *testing.T) {
	for _, l := range faultLists() {
		roomy := append(slices.Clone(l), fault(0, 1, 1), fault(1, 1, 1))[:len(l)]
		ahead := fmt.Sprint(roomy[:len(l)+2])
		second := impl.Format(5, roomy)
		want := diskText(second)
		if want != diskText(impl.Format(5, slices.Clone(l))) {
			t.Errorf("the spare room is read: %s", want)
		}
		overwriteDisk(impl.Format(5, roomy))
		if got := fmt.Sprint(roomy[:len(l)+2]); got != ahead {
			t.Errorf("the Faults %s turned into %s", ahead, got)
		}
		if diskText(second) != want {
			t.Errorf("two answers share memory: %s", diskText(second))
		}
		for i := range roomy {
			roomy[i] = fault(77, 77, 77)
		}
		if diskText(second) != want {
			t.Errorf("the answer shares memory with the Faults: %s", diskText(second))
		}
		// No two sectors of it share any, nor the room behind them.
		for n := range second.Secs {
			overwrite(second.Secs[n])
			for other, sec := range second.Secs {
				if other > n && len(sec) != 0 {
					t.Errorf("the sectors %d and %d share memory", n, other)
				}
			}
		}
	}
}
