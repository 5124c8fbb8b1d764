package tests

import (
	"bytes"
	"fmt"
	"math"
	"math/rand"
	"slices"
	"strings"
	"testing"

	"loop.example/g00322/impl"
)

var (
	_ func(int, []byte) []byte                 = impl.PutPage
	_ func([]byte) (int, []byte, bool)         = impl.GetPage
	_ func(impl.Disk, int, int) ([]byte, bool) = impl.PageAt
)

const mostBody = 240

// countForm has the bytes of how many there are, of less than 16384.
func countForm(n int) string {
	if n < 128 {
		return string([]byte{byte(n)})
	}
	return string([]byte{byte(n%128 + 128), byte(n / 128)})
}

// wordsPage has a page by the chapter's words.
func wordsPage(k int, body string) string {
	if k != 1 && k != 2 || len(body) > mostBody {
		return ""
	}
	return summed(string([]byte{byte(k)}) + countForm(len(body)) + body)
}

// pageForm is a kind, a body, and the page of both.
type pageForm struct {
	k    int
	body string
	want string
}

// pageBodies has all lengths that a body may have, and bytes that look like something.
func pageBodies() []string {
	out := []string{"\x00", "\x00\x00\x00\x00", "\x01", "\x02\x02ab", "\xff\xff", summed("ab"), wordsPage(1, "within"), wordsPage(2, ""), strings.Repeat("\x00", mostBody), strings.Repeat("\xff", mostBody)}
	for n := range mostBody + 1 {
		out = append(out, string(mixed(n)))
	}
	return out
}

func pageForms() []pageForm {
	var out []pageForm
	for _, body := range pageBodies() {
		for _, k := range []int{impl.PgNode, impl.PgMeta} {
			out = append(out, pageForm{k, body, wordsPage(k, body)})
		}
	}
	return out
}

// fewPages has the shortest and the longest, those at which the count has a byte more, and some between.
func fewPages() []pageForm {
	var out []pageForm
	for _, body := range []string{"", "a", "ab", "\x00\x01\xff", string(mixed(127)), string(mixed(128)), string(mixed(mostBody - 1)), string(mixed(mostBody)), wordsPage(1, "within")} {
		for _, k := range []int{impl.PgNode, impl.PgMeta} {
			out = append(out, pageForm{k, body, wordsPage(k, body)})
		}
	}
	return out
}

// noKinds has numbers that are no kind, among them such whose low bits are one.
func noKinds() []int {
	return []int{0, 3, 4, 5, -1, -2, 127, 128, 129, 130, 255, 256, 257, 258, 385, 16385, 1000000, 1000001, 1000002, 1<<32 + 1, 1<<32 + 2, math.MinInt, math.MinInt + 1, math.MinInt + 2, math.MaxInt, -255, -254}
}

// noPage asks that GetPage refuses, with nothing beside it.
func noPage(t *testing.T, what string, b string) {
	t.Helper()
	if k, body, ok := impl.GetPage([]byte(b)); k != 0 || len(body) != 0 || ok {
		t.Fatalf("%s: GetPage(%x) = %d, %x, %v", what, b, k, body, ok)
	}
}

// notAt asks that PageAt refuses, with nothing beside it.
func notAt(t *testing.T, what string, d impl.Disk, n int, k int) {
	t.Helper()
	if body, ok := impl.PageAt(d, n, k); len(body) != 0 || ok {
		t.Errorf("%s: PageAt(%s, %d, %d) = %x, %v", what, diskText(d), n, k, body, ok)
	}
}

// isAt asks that this sector has this body, of this kind alone.
func isAt(t *testing.T, what string, d impl.Disk, n int, p pageForm) {
	t.Helper()
	if body, ok := impl.PageAt(d, n, p.k); string(body) != p.body || !ok {
		t.Errorf("%s: PageAt(%s, %d, %d) = %x, %v", what, diskText(d), n, p.k, body, ok)
	}
	notAt(t, what+", the other kind", d, n, 3-p.k)
	for _, k := range noKinds() {
		notAt(t, what+", no kind", d, n, k)
	}
}

// noneAt asks that this sector has no page of any kind.
func noneAt(t *testing.T, what string, d impl.Disk, n int) {
	t.Helper()
	for _, k := range append(noKinds(), impl.PgNode, impl.PgMeta) {
		notAt(t, what, d, n, k)
	}
}

func TestPageLimits(t *testing.T) {
	if impl.PgNode != 1 || impl.PgMeta != 2 || impl.MaxBody != 240 {
		t.Error(impl.PgNode, impl.PgMeta, impl.MaxBody)
	}
}

func TestPagesAsBytes(t *testing.T) {
	known := []pageForm{
		{impl.PgNode, "", summed("\x01\x00")},
		{impl.PgMeta, "", summed("\x02\x00")},
		{impl.PgMeta, "ab", summed("\x02\x02ab")},
		{impl.PgNode, strings.Repeat("x", 127), summed("\x01\x7f" + strings.Repeat("x", 127))},
		{impl.PgNode, strings.Repeat("x", 128), summed("\x01\x80\x01" + strings.Repeat("x", 128))},
		{impl.PgMeta, strings.Repeat("x", 240), summed("\x02\xf0\x01" + strings.Repeat("x", 240))},
	}
	for _, p := range append(known, pageForms()...) {
		if got := impl.PutPage(p.k, []byte(p.body)); string(got) != p.want {
			t.Errorf("PutPage(%d, %x) = %x, not %x", p.k, p.body, got, p.want)
		}
	}
	for _, k := range []int{impl.PgNode, impl.PgMeta} {
		if got := impl.PutPage(k, nil); string(got) != wordsPage(k, "") {
			t.Errorf("PutPage(%d, nil) = %x", k, got)
		}
	}
}

// The longest page has room in a sector.
func TestPagesFitIntoSectors(t *testing.T) {
	for _, k := range []int{impl.PgNode, impl.PgMeta} {
		if n := len(impl.PutPage(k, make([]byte, impl.MaxBody))); n != 247 || n > impl.SecSize {
			t.Errorf("the kind %d: %d bytes", k, n)
		}
	}
}

func TestPagesOfNoKind(t *testing.T) {
	for _, k := range noKinds() {
		for _, body := range []string{"", "ab", string(mixed(mostBody)), string(mixed(mostBody + 1))} {
			if got := impl.PutPage(k, []byte(body)); len(got) != 0 {
				t.Errorf("PutPage(%d, %x) = %x", k, body, got)
			}
		}
	}
}

// longBodies pass MaxBody by one, by what a sector has, and by what a count can tell.
func longBodies() []int {
	return []int{241, 242, 247, 248, 255, 256, 257, 260, 300, 496, 512, 16383, 16384, 16384 + 240, 65536, 65536 + 240, 999999, 1000000, 1000001, 1000000 + 240, 1 << 21}
}

func TestPagesOfBodiesThatAreTooLong(t *testing.T) {
	for _, n := range longBodies() {
		for _, k := range []int{impl.PgNode, impl.PgMeta} {
			if got := impl.PutPage(k, make([]byte, n)); len(got) != 0 {
				t.Errorf("PutPage(%d, of %d bytes) has %d", k, n, len(got))
			}
		}
	}
}

// Kind, count, body and sum are right, but the body is too long for a page.
func TestGetPageOfBodiesThatAreTooLong(t *testing.T) {
	for _, k := range []int{impl.PgNode, impl.PgMeta} {
		for _, n := range longBodies() {
			inner := impl.PutText(impl.PutU(nil, k), string(mixed(n)))
			noPage(t, fmt.Sprint("a body of ", n, " bytes"), string(impl.PutSum(inner)))
		}
		for n := mostBody - 5; n <= mostBody; n++ {
			inner := impl.PutText(impl.PutU(nil, k), string(mixed(n)))
			if got, body, ok := impl.GetPage(impl.PutSum(inner)); got != k || string(body) != string(mixed(n)) || !ok {
				t.Errorf("a body of %d bytes: %d, %x, %v", n, got, body, ok)
			}
		}
	}
}

func TestPagesComeBack(t *testing.T) {
	for _, p := range pageForms() {
		for _, b := range [][]byte{[]byte(p.want), impl.PutPage(p.k, []byte(p.body))} {
			if k, body, ok := impl.GetPage(b); k != p.k || string(body) != p.body || !ok {
				t.Fatalf("GetPage(%x) = %d, %x, %v", b, k, body, ok)
			}
		}
	}
}

func TestPagesCutAnywhere(t *testing.T) {
	for _, p := range pageForms() {
		for n := range len(p.want) {
			noPage(t, "cut behind", p.want[:n])
			noPage(t, "cut ahead", p.want[n+1:])
		}
	}
	// And between, any length of it.
	for _, p := range fewPages() {
		for from := range len(p.want) {
			for to := from + 1; to <= len(p.want); to += 1 + (to-from)/8 {
				noPage(t, "cut between", p.want[:from]+p.want[to:])
			}
		}
	}
}

func TestPagesWithOneBitTurned(t *testing.T) {
	for _, p := range fewPages() {
		b := []byte(p.want)
		for i := range b {
			for bit := range 8 {
				b[i] ^= 1 << bit
				noPage(t, fmt.Sprint("bit ", bit, " of byte ", i), string(b))
				b[i] ^= 1 << bit
			}
		}
	}
}

func TestPagesWithBytesBehindOrAhead(t *testing.T) {
	for _, p := range fewPages() {
		for c := range 256 {
			more := string([]byte{byte(c)})
			noPage(t, "a byte behind", p.want+more)
			noPage(t, "a byte ahead", more+p.want)
		}
		for _, more := range []string{"\x00\x00\x00\x00", "more", p.want, p.want[len(p.want)-4:], strings.Repeat("\x00", 256), strings.Repeat("\xff", 300)} {
			noPage(t, "bytes behind", p.want+more)
			noPage(t, "bytes ahead", more+p.want)
		}
		// What fills the sector behind a page is not part of it.
		noPage(t, "up to the sector's end", p.want+strings.Repeat("\x00", 256-len(p.want)))
	}
}

// What stands within the sum is not a page's, though the sum is right.
func TestInnerBytesCutOrWithBytesBehind(t *testing.T) {
	for _, p := range fewPages() {
		inner := p.want[:len(p.want)-4]
		for n := range len(inner) {
			noPage(t, "cut within", summed(inner[:n]))
		}
		for _, more := range []string{"\x00", "\x01", "\xff", "more", inner, p.want, p.want[len(inner):]} {
			noPage(t, "bytes behind within", summed(inner+more))
		}
		for _, more := range []string{"\x00", "\x03", "\x80", "\xff"} {
			noPage(t, "bytes ahead within", summed(more+inner))
		}
	}
}

func TestGetPageOfWhatIsNotRight(t *testing.T) {
	for _, c := range []struct{ name, inner string }{
		{"nothing within", ""},
		{"a kind alone", "\x01"},
		{"the other kind alone", "\x02"},
		{"the kind 0", "\x00\x02ab"},
		{"the kind 0 without a body", "\x00\x00"},
		{"the kind 3", "\x03\x02ab"},
		{"the kind 127", "\x7f\x02ab"},
		{"the kind 128", "\x80\x01\x02ab"},
		{"the kind 129", "\x81\x01\x02ab"},
		{"the kind 130", "\x82\x01\x02ab"},
		{"the kind 256", "\x80\x02\x02ab"},
		{"the kind 257", "\x81\x02\x02ab"},
		{"the kind MaxNum", "\xc0\x84\x3d\x02ab"},
		{"a kind above MaxNum", "\xc1\x84\x3d\x02ab"},
		{"a kind with a needless group", "\x81\x00\x02ab"},
		{"the other with a needless group", "\x82\x00\x02ab"},
		{"a kind with two needless groups", "\x81\x80\x00\x02ab"},
		{"a kind that goes on", "\x81"},
		{"a count that goes on", "\x01\x82"},
		{"a count with a needless group", "\x01\x82\x00ab"},
		{"a count of 0 with a needless group", "\x01\x80\x00"},
		{"a count of one more", "\x01\x03ab"},
		{"a count of one fewer", "\x01\x01ab"},
		{"a count of 0 with bytes", "\x01\x00ab"},
		{"a count of MaxNum", "\x01\xc0\x84\x3dab"},
		{"a count above MaxNum", "\x01\xff\xff\xffab"},
		{"no count", "\x02ab"},
		{"the count ahead", "\x02\x01ab\x01"},
		{"a text that ends by a mark", "\x01ab\x00\x01"},
	} {
		noPage(t, c.name, summed(c.inner))
	}
	for n := range 300 {
		noPage(t, "noughts", strings.Repeat("\x00", n))
		noPage(t, "all bits", strings.Repeat("\xff", n))
		noPage(t, "mixed", string(mixed(n)))
	}
	if k, body, ok := impl.GetPage(nil); k != 0 || len(body) != 0 || ok {
		t.Errorf("nil: %d, %x, %v", k, body, ok)
	}
}

// All kinds in one byte and in two, with right sums: two of them are pages.
func TestGetPageOfAllKinds(t *testing.T) {
	for k := range 16384 {
		b := summed(countForm(k) + "\x02ab")
		if k != 1 && k != 2 {
			noPage(t, fmt.Sprint("the kind ", k), b)
		} else if got, body, ok := impl.GetPage([]byte(b)); got != k || string(body) != "ab" || !ok {
			t.Errorf("the kind %d: %d, %x, %v", k, got, body, ok)
		}
	}
}

// The sum's other forms are none: the lowest byte first, all bits turned, that of the body alone, or of another page.
func TestGetPageOfOtherSums(t *testing.T) {
	for _, p := range fewPages() {
		inner, sum := p.want[:len(p.want)-4], []byte(p.want[len(p.want)-4:])
		back := slices.Clone(sum)
		slices.Reverse(back)
		noPage(t, "the lowest first", inner+string(back))
		noPage(t, "all bits turned", inner+turned(string(sum)))
		noPage(t, "noughts", inner+"\x00\x00\x00\x00")
		noPage(t, "none", inner)
		other := wordsPage(3-p.k, p.body)
		noPage(t, "that of the other kind", inner+other[len(other)-4:])
		if whole := summed(p.body); p.body != "" {
			noPage(t, "that of the body", inner+whole[len(whole)-4:])
		}
	}
}

// pageRead reads a page by the words alone: one that some kind and some body make.
func pageRead(b string) (int, string, bool) {
	if len(b) < 6 || b[0] != 1 && b[0] != 2 {
		return 0, "", false
	}
	for _, from := range []int{2, 3} {
		if from+4 <= len(b) && wordsPage(int(b[0]), b[from:len(b)-4]) == b {
			return int(b[0]), b[from : len(b)-4], true
		}
	}
	return 0, "", false
}

func readsPage(t *testing.T, b string) bool {
	t.Helper()
	k, body, ok := impl.GetPage([]byte(b))
	wantK, want, wanted := pageRead(b)
	if k != wantK || string(body) != want || ok != wanted {
		t.Fatalf("GetPage(%x) = %d, %x, %v, not %d, %x, %v", b, k, body, ok, wantK, want, wanted)
	}
	if ok && string(impl.PutPage(k, body)) != b {
		t.Fatalf("GetPage(%x) = %d, %x, whose page is %x", b, k, body, impl.PutPage(k, body))
	}
	return ok
}

// All short bytes that the form leans on, with right sums and without: what is read is just what is made.
func TestGetPageReadsJustWhatIsMade(t *testing.T) {
	pages := 0
	for _, inner := range textsOf("\x00\x01\x02\x03\x04\x80\x81\xff", 5) {
		if readsPage(t, summed(inner)) {
			pages++
		}
		readsPage(t, inner)
		readsPage(t, inner+"\x00\x00\x00\x00")
	}
	// Of both kinds the bodies of 0 to 3 bytes.
	if want := 2 * (1 + 8 + 64 + 512); pages != want {
		t.Errorf("%d pages, not %d", pages, want)
	}
}

func TestPagesByTheWords(t *testing.T) {
	r := rand.New(rand.NewSource(13))
	for range 20000 {
		k, body := r.Intn(4), make([]byte, r.Intn(260))
		r.Read(body)
		b := impl.PutPage(k, body)
		if string(b) != wordsPage(k, string(body)) {
			t.Fatalf("PutPage(%d, %x) = %x", k, body, b)
		}
		readsPage(t, string(b))
		if len(b) == 0 {
			continue
		}
		switch at := r.Intn(len(b)); r.Intn(4) {
		case 0:
			b[at] = byte(r.Intn(256))
		case 1:
			b = append(b[:at:at], b[at+1:]...)
		case 2:
			b = append(b, body...)
		case 3:
			// The sum is right again, so that what is within must tell.
			inner := bytes.Clone(b[:len(b)-4])
			inner[r.Intn(min(len(inner), 3))] = byte(r.Intn(256))
			b = []byte(summed(string(inner)))
		}
		readsPage(t, string(b))
	}
}

func TestPagesOfSectors(t *testing.T) {
	for _, p := range pageForms() {
		d := diskOf("", "x", p.want, wordsPage(3-p.k, "other"))
		if body, ok := impl.PageAt(d, 2, p.k); string(body) != p.body || !ok {
			t.Fatalf("PageAt(%s, 2, %d) = %x, %v", diskText(d), p.k, body, ok)
		}
		notAt(t, "the other kind", d, 2, 3-p.k)
	}
	for _, p := range fewPages() {
		for n := range 4 {
			d := diskOf("", "", "", "")
			d.Secs[n] = []byte(p.want)
			for at := range d.Secs {
				if at == n {
					isAt(t, "the page", d, at, p)
				} else {
					noneAt(t, "an empty sector", d, at)
				}
			}
			for _, at := range noSector(4) {
				noneAt(t, "no sector", d, at)
			}
		}
	}
}

// No sector, no kind: nothing and nothing are not alike enough to be a page.
func TestPagesOfSectorsThatAreNotThere(t *testing.T) {
	full := impl.Disk{}
	for range 48 {
		full.Secs = append(full.Secs, []byte(wordsPage(1, "ab")))
	}
	for _, d := range []impl.Disk{{}, impl.DiskNew(4, nil), full} {
		for _, n := range noSector(len(d.Secs)) {
			noneAt(t, "no sector", d, n)
		}
	}
	// Nor is there one, though a Write of it is in the cache.
	for _, n := range noSector(4) {
		d := diskOf("", "", "", "")
		d.Cache = []impl.Write{write(n, wordsPage(1, "ab"))}
		noneAt(t, "a Write of no sector", d, n)
	}
	isAt(t, "the last", full, 47, pageForm{k: 1, body: "ab"})
}

func TestSectorsThatHaveNoPage(t *testing.T) {
	page := wordsPage(1, "ab")
	for _, sec := range []string{"", "x", "\x00", "\x00\x00\x00\x00", "\x01", "\x02", page + "\x00", page[1:], page[:len(page)-1], page + page, fullSec("\x00"), fullSec("\xff"), summed("\x03\x00"), summed("\x00\x00"), summed("\x01\xf1\x01" + strings.Repeat("x", 241)), summed("")} {
		d := diskOf("", "", sec, "")
		noneAt(t, "a sector", d, 2)
		d = diskOf("", "", page, "")
		d.Cache = []impl.Write{write(2, sec)}
		noneAt(t, "a Write", d, 2)
	}
}

// A sector is what its last Write has, whether that is a page or not.
func TestPagesInTheCache(t *testing.T) {
	first, second, third := pageForm{1, "first", wordsPage(1, "first")}, pageForm{2, "second", wordsPage(2, "second")}, pageForm{1, "", wordsPage(1, "")}
	d := diskOf("", "", first.want, "")
	isAt(t, "the sector", d, 2, first)
	d.Cache = []impl.Write{write(2, second.want)}
	isAt(t, "a Write", d, 2, second)
	d.Cache = append(d.Cache, write(1, first.want))
	isAt(t, "a Write of another", d, 2, second)
	isAt(t, "another", d, 1, first)
	d.Cache = append(d.Cache, write(2, third.want))
	isAt(t, "the last Write", d, 2, third)
	d.Cache = append(d.Cache, write(2, third.want[:3]))
	noneAt(t, "a Write that is cut", d, 2)
	isAt(t, "another still", d, 1, first)
	d.Cache = append(d.Cache, write(2, ""))
	noneAt(t, "a Write of nothing", d, 2)
	noneAt(t, "an empty sector", d, 3)
}

func TestPagesWrittenAndFlushed(t *testing.T) {
	for _, p := range fewPages() {
		d, code := impl.WriteSec(impl.DiskNew(4, nil), 3, impl.PutPage(p.k, []byte(p.body)))
		if code != impl.CoGood {
			t.Fatalf("a Write: %d", code)
		}
		isAt(t, "written", d, 3, p)
		d, code = impl.Flush(d)
		if code != impl.CoGood || len(d.Cache) != 0 {
			t.Fatalf("a Flush: %d", code)
		}
		isAt(t, "flushed", d, 3, p)
	}
}

// Wherever a page is cut when the power goes, it is none, but where nothing is missing.
func TestPagesCutByThePower(t *testing.T) {
	for _, p := range fewPages() {
		for cut := range impl.SecSize + 1 {
			d := impl.DiskNew(4, []impl.Fault{fault(0, 1, cut)})
			d.Secs[2] = []byte(wordsPage(3-p.k, "ahead"))
			d, code := impl.WriteSec(d, 2, impl.PutPage(p.k, []byte(p.body)))
			if code != impl.CoDown || !d.Down {
				t.Fatalf("the power did not go: %d", code)
			}
			what := fmt.Sprint("cut at ", cut)
			if cut >= len(p.want) {
				isAt(t, what, impl.TurnOn(d), 2, p)
				isAt(t, what+", off", d, 2, p)
			} else {
				noneAt(t, what, impl.TurnOn(d), 2)
			}
		}
		d := impl.DiskNew(4, []impl.Fault{fault(0, 0, 256)})
		ahead := pageForm{3 - p.k, "ahead", wordsPage(3-p.k, "ahead")}
		d.Secs[2] = []byte(ahead.want)
		d, _ = impl.WriteSec(d, 2, impl.PutPage(p.k, []byte(p.body)))
		isAt(t, "not kept", d, 2, ahead)
	}
}

// A page is read as its sector is: of a disk that is off, or not right, too.
func TestPagesOfDisksThatAreNotRight(t *testing.T) {
	p := pageForm{2, "ab", wordsPage(2, "ab")}
	for what, d := range someDisks() {
		for n := range d.Secs {
			d := diskCopy(d)
			d.Secs[n] = []byte(p.want)
			has, _ := wordsReadSec(d, n)
			if has == p.want {
				isAt(t, what, d, n, p)
			} else {
				noneAt(t, what, d, n)
			}
		}
	}
	d := diskOf("", p.want)
	isAt(t, "two sectors", d, 1, p)
	long := diskOf("", "", "", p.want+fullSec("x"))
	noneAt(t, "a sector that is too long", long, 3)
}

// What was read ahead, whole or not, leaves nothing behind.
func TestPagesKeepNothing(t *testing.T) {
	first, second := wordsPage(1, "first"), wordsPage(2, "the second")
	d := diskOf(first, second, "", "")
	for range 3 {
		if k, body, ok := impl.GetPage([]byte(first)); k != 1 || string(body) != "first" || !ok {
			t.Errorf("the first: %d, %q, %v", k, body, ok)
		}
		noPage(t, "between them", second[:5])
		impl.PutPage(3, []byte("left"))
		impl.PutPage(1, make([]byte, 241))
		notAt(t, "between them", d, 2, 1)
		if k, body, ok := impl.GetPage([]byte(second)); k != 2 || string(body) != "the second" || !ok {
			t.Errorf("the second: %d, %q, %v", k, body, ok)
		}
		isAt(t, "the first", d, 0, pageForm{k: 1, body: "first"})
		isAt(t, "the second", d, 1, pageForm{k: 2, body: "the second"})
	}
}

func TestPageAnswersAreNewMemory(t *testing.T) {
	getBody := func(b []byte) []byte { _, body, _ := impl.GetPage(b); return body }
	cases := []bytesAnswer{
		{"PutPage of no kind", "abc", func(b []byte) []byte { return impl.PutPage(0, b) }},
		{"PutPage of too much", string(mixed(mostBody + 1)), func(b []byte) []byte { return impl.PutPage(1, b) }},
		{"GetPage of nothing", "", getBody},
		{"GetPage refused", "abcdefgh", getBody},
		{"GetPage of a sum alone", summed(""), getBody},
	}
	for _, p := range fewPages() {
		cases = append(cases,
			bytesAnswer{"PutPage", p.body, func(b []byte) []byte { return impl.PutPage(p.k, b) }},
			bytesAnswer{"GetPage", p.want, getBody},
			bytesAnswer{"GetPage of one that is cut", p.want[:len(p.want)-1], getBody})
	}
	answersAreNew(t, cases)
}

func TestPagesOfSectorsAreNewMemory(t *testing.T) {
	for _, p := range fewPages() {
		for _, cached := range []bool{false, true} {
			d := diskOf("", "", p.want, "")
			if cached {
				d = diskOf("", "", "x", "")
				d.Cache = []impl.Write{write(2, p.want)}
			}
			arg := roomyDisk(d)
			ahead := allDisk(arg)
			first, _ := impl.PageAt(arg, 2, p.k)
			second, ok := impl.PageAt(arg, 2, p.k)
			other, _ := impl.PageAt(arg, 2, 3-p.k)
			overwrite(first)
			overwrite(other)
			if allDisk(arg) != ahead {
				t.Errorf("the disk turned into %s", allDisk(arg))
			}
			overwriteDisk(arg)
			if string(second) != p.body || !ok {
				t.Errorf("the body %x turned into %x, %v", p.body, second, ok)
			}
		}
	}
}

// The spare room goes on with what would make each of these another one.
func TestPageSpareRoomIsNotRead(t *testing.T) {
	for _, p := range fewPages() {
		b := []byte(p.want)
		for n := range b {
			if k, body, ok := impl.GetPage(b[:n]); k != 0 || len(body) != 0 || ok {
				t.Errorf("%d of %d bytes: %d, %x, %v", n, len(b), k, body, ok)
			}
			d := diskOf("", "", "", "")
			d.Secs[1] = b[:n]
			d.Secs = append(d.Secs, b)[:4]
			notAt(t, "a sector with room behind it", d, 1, p.k)
			notAt(t, "a sector in the room behind", d, 4, p.k)
		}
		body := []byte(p.body)
		for n := range body {
			if got := impl.PutPage(p.k, body[:n]); string(got) != wordsPage(p.k, p.body[:n]) {
				t.Errorf("PutPage of %d of %d bytes: %x", n, len(body), got)
			}
		}
	}
	long := make([]byte, mostBody+60)
	if got := impl.PutPage(1, long[:mostBody]); string(got) != wordsPage(1, string(long[:mostBody])) {
		t.Errorf("MaxBody bytes with room behind them: %x", got)
	}
}
