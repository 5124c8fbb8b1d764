package tests

import (
	"encoding/binary"
	"math"
	"slices"
	"strings"
	"testing"

	"loop.example/g00322/impl"
)

var (
	_ func([]byte, int) []byte           = impl.PutFix
	_ func([]byte, int) (int, int, bool) = impl.GetFix
	_ func([]byte, int) []byte           = impl.PutVar
	_ func([]byte, int) (int, int, bool) = impl.GetVar
)

const (
	leastFix = -2147483648
	mostFix  = 2147483647
)

// numBytes is a number and its bytes.
type numBytes struct {
	n    int
	want string
}

func fixNumbers() []numBytes {
	return []numBytes{
		{leastFix, "\x00\x00\x00\x00"},
		{leastFix + 1, "\x00\x00\x00\x01"},
		{-16777217, "\x7e\xff\xff\xff"},
		{-16777216, "\x7f\x00\x00\x00"},
		{-65537, "\x7f\xfe\xff\xff"},
		{-65536, "\x7f\xff\x00\x00"},
		{-257, "\x7f\xff\xfe\xff"},
		{-256, "\x7f\xff\xff\x00"},
		{-255, "\x7f\xff\xff\x01"},
		{-2, "\x7f\xff\xff\xfe"},
		{-1, "\x7f\xff\xff\xff"},
		{0, "\x80\x00\x00\x00"},
		{1, "\x80\x00\x00\x01"},
		{255, "\x80\x00\x00\xff"},
		{256, "\x80\x00\x01\x00"},
		{65535, "\x80\x00\xff\xff"},
		{65536, "\x80\x01\x00\x00"},
		{16777215, "\x80\xff\xff\xff"},
		{16777216, "\x81\x00\x00\x00"},
		{305419896, "\x92\x34\x56\x78"},
		{mostFix - 1, "\xff\xff\xff\xfe"},
		{mostFix, "\xff\xff\xff\xff"},
	}
}

// fixBeyond has what is outside, with the bytes of the end that is next to it.
func fixBeyond() []numBytes {
	least, most := "\x00\x00\x00\x00", "\xff\xff\xff\xff"
	return []numBytes{
		{leastFix - 1, least},
		{-4294967296, least},
		{-billiard, least},
		{math.MinInt + 1, least},
		{math.MinInt, least},
		{mostFix + 1, most},
		{4294967295, most},
		{4294967296, most},
		{billiard, most},
		{math.MaxInt - 2147483648, most},
		{math.MaxInt - 2147483647, most},
		{math.MaxInt, most},
	}
}

func varNumbers() []numBytes {
	return []numBytes{
		{-billiard, "\x78\xfc\x72\x81\x5b\x39\x80\x00"},
		{-billiard + 1, "\x78\xfc\x72\x81\x5b\x39\x80\x01"},
		{-281474976710657, "\x78\xfe\xff\xff\xff\xff\xff\xff"},
		{-281474976710656, "\x79\x00\x00\x00\x00\x00\x00"},
		{-1099511627777, "\x79\xfe\xff\xff\xff\xff\xff"},
		{-1099511627776, "\x7a\x00\x00\x00\x00\x00"},
		{-4294967297, "\x7a\xfe\xff\xff\xff\xff"},
		{-4294967296, "\x7b\x00\x00\x00\x00"},
		{-16777217, "\x7b\xfe\xff\xff\xff"},
		{-16777216, "\x7c\x00\x00\x00"},
		{-65537, "\x7c\xfe\xff\xff"},
		{-65536, "\x7d\x00\x00"},
		{-257, "\x7d\xfe\xff"},
		{-256, "\x7e\x00"},
		{-255, "\x7e\x01"},
		{-3, "\x7e\xfd"},
		{-2, "\x7e\xfe"},
		{-1, "\x7f"},
		{0, "\x80"},
		{1, "\x81\x01"},
		{2, "\x81\x02"},
		{127, "\x81\x7f"},
		{128, "\x81\x80"},
		{255, "\x81\xff"},
		{256, "\x82\x01\x00"},
		{65535, "\x82\xff\xff"},
		{65536, "\x83\x01\x00\x00"},
		{1193046, "\x83\x12\x34\x56"},
		{16777215, "\x83\xff\xff\xff"},
		{16777216, "\x84\x01\x00\x00\x00"},
		{4294967295, "\x84\xff\xff\xff\xff"},
		{4294967296, "\x85\x01\x00\x00\x00\x00"},
		{1099511627775, "\x85\xff\xff\xff\xff\xff"},
		{1099511627776, "\x86\x01\x00\x00\x00\x00\x00"},
		{281474976710655, "\x86\xff\xff\xff\xff\xff\xff"},
		{281474976710656, "\x87\x01\x00\x00\x00\x00\x00\x00"},
		{billiard - 1, "\x87\x03\x8d\x7e\xa4\xc6\x7f\xff"},
		{billiard, "\x87\x03\x8d\x7e\xa4\xc6\x80\x00"},
	}
}

func varBeyond() []numBytes {
	least, most := "\x78\xfc\x72\x81\x5b\x39\x80\x00", "\x87\x03\x8d\x7e\xa4\xc6\x80\x00"
	return []numBytes{
		{-billiard - 1, least},
		{-1 << 56, least},
		{-1<<56 - 1, least},
		{math.MinInt + 1, least},
		{math.MinInt, least},
		{billiard + 1, most},
		{1<<56 - 1, most},
		{1 << 56, most},
		{math.MaxInt - 1, most},
		{math.MaxInt, most},
	}
}

// numForm is one of the two forms of numbers.
type numForm struct {
	name  string
	put   func([]byte, int) []byte
	get   func([]byte, int) (int, int, bool)
	least int
	most  int
	nums  []numBytes
	more  []numBytes
}

func numForms() []numForm {
	return []numForm{
		{"Fix", impl.PutFix, impl.GetFix, leastFix, mostFix, fixNumbers(), fixBeyond()},
		{"Var", impl.PutVar, impl.GetVar, -billiard, billiard, varNumbers(), varBeyond()},
	}
}

// numbersAround has, ascending, the numbers next to each power of two, above and below 0, from the least to the most.
func numbersAround(least int, most int) []int {
	out := []int{least, least + 1, most - 1, most}
	for bit := range 50 {
		for d := -2; d <= 2; d++ {
			out = append(out, 1<<bit+d, -(1<<bit)+d)
		}
	}
	slices.Sort(out)
	out = slices.Compact(out)
	return slices.DeleteFunc(out, func(n int) bool { return n < least || n > most })
}

func TestPutNumbersBytes(t *testing.T) {
	for _, f := range numForms() {
		for _, c := range append(f.nums, f.more...) {
			for _, ahead := range []string{"", "\x00", "\x80", "\xff", "ahead\x7f", strings.Repeat("m", 1000)} {
				if got := f.put([]byte(ahead), c.n); string(got) != ahead+c.want {
					t.Errorf("Put%s(%q, %d) = %x", f.name, ahead, c.n, got)
				}
			}
			if got := f.put(nil, c.n); string(got) != c.want {
				t.Errorf("Put%s(nil, %d) = %x", f.name, c.n, got)
			}
		}
	}
}

func TestNumbersInOrderComeBack(t *testing.T) {
	for _, f := range numForms() {
		for _, c := range f.nums {
			for _, ahead := range []string{"", "\x00", "\x87\x81", "\x7f\x7f\x7f"} {
				for _, behind := range []string{"", "\x00", "\x01", "\xff", "\x80\x00", "\xff\xff\xff\xff\xff\xff\xff\xff"} {
					b := []byte(ahead + c.want + behind)
					n, next, ok := f.get(b, len(ahead))
					if n != c.n || next != len(ahead)+len(c.want) || !ok {
						t.Errorf("Get%s(%x, %d) = %d, %d, %v", f.name, b, len(ahead), n, next, ok)
					}
				}
			}
		}
	}
}

// What is put for a number that is outside comes back as the end that is next to it.
func TestNumbersOutsideComeBackAsTheEnds(t *testing.T) {
	for _, f := range numForms() {
		for _, c := range f.more {
			want := f.most
			if c.n < 0 {
				want = f.least
			}
			b := f.put(nil, c.n)
			if n, next, ok := f.get(b, 0); n != want || next != len(b) || !ok {
				t.Errorf("%s: %d as %x came back as %d, %d, %v", f.name, c.n, b, n, next, ok)
			}
		}
	}
}

func TestNumbersAroundEachPowerComeBack(t *testing.T) {
	for _, f := range numForms() {
		for _, want := range numbersAround(f.least, f.most) {
			b := f.put([]byte("\x80"), want)
			if n, next, ok := f.get(b, 1); n != want || next != len(b) || !ok {
				t.Errorf("%s: %d as %x came back as %d, %d, %v", f.name, want, b, n, next, ok)
			}
		}
	}
}

// Steps from end to end, so that no byte of the numbers keeps to few values.
func TestManyNumbersComeBack(t *testing.T) {
	for _, f := range numForms() {
		step := (f.most/997 | 1) * 2
		for want := f.least; want <= f.most; want += step {
			b := f.put(nil, want)
			if n, next, ok := f.get(b, 0); n != want || next != len(b) || !ok {
				t.Errorf("%s: %d as %x came back as %d, %d, %v", f.name, want, b, n, next, ok)
			}
		}
	}
}

func TestSmallNumbersInOrderComeBack(t *testing.T) {
	for _, f := range numForms() {
		ahead := f.put(nil, -70001)
		for want := -70000; want <= 70000; want++ {
			b := f.put(nil, want)
			if n, next, ok := f.get(b, 0); n != want || next != len(b) || !ok {
				t.Fatalf("%s: %d as %x came back as %d, %d, %v", f.name, want, b, n, next, ok)
			}
			if !impl.Before(ahead, b) || impl.Before(b, ahead) {
				t.Fatalf("%s: %x, of %d, is not behind %x", f.name, b, want, ahead)
			}
			ahead = b
		}
	}
}

func TestNumbersInOrderStandBehindEachOther(t *testing.T) {
	for _, f := range numForms() {
		b := []byte("ahead")
		for _, c := range f.nums {
			b = f.put(b, c.n)
		}
		at := len("ahead")
		for _, c := range f.nums {
			n, next, ok := f.get(b, at)
			if n != c.n || !ok {
				t.Fatalf("%s at %d: %d, %v, not %d", f.name, at, n, ok, c.n)
			}
			at = next
		}
		if at != len(b) {
			t.Errorf("%s: the last ends at %d of %d", f.name, at, len(b))
		}
	}
}

func TestNumbersKeepTheirOrder(t *testing.T) {
	for _, f := range numForms() {
		nums := numbersAround(f.least, f.most)
		bytesOf := make([][]byte, len(nums))
		for i, n := range nums {
			bytesOf[i] = f.put([]byte("k"), n)
		}
		for i, a := range nums {
			for j, b := range nums {
				if got := impl.Before(bytesOf[i], bytesOf[j]); got != (a < b) {
					t.Fatalf("%s: %d ahead of %d: %v, as %x and %x", f.name, a, b, got, bytesOf[i], bytesOf[j])
				}
				if a != b && strings.HasPrefix(string(bytesOf[j]), string(bytesOf[i])) {
					t.Fatalf("%s: %d, as %x, is the beginning of %d, as %x", f.name, a, bytesOf[i], b, bytesOf[j])
				}
			}
		}
	}
}

func TestFlippedNumbersStandTheOtherWayRound(t *testing.T) {
	for _, f := range numForms() {
		nums := numbersAround(f.least, f.most)
		for i, n := range nums[1:] {
			x, y := impl.Flip(f.put(nil, nums[i]), 0), impl.Flip(f.put(nil, n), 0)
			if !impl.Before(y, x) || impl.Before(x, y) {
				t.Errorf("%s: %d and %d stand as %x and %x, flipped", f.name, nums[i], n, x, y)
			}
		}
	}
}

func TestNumbersAreReadAtTheirPlaceAlone(t *testing.T) {
	for _, f := range numForms() {
		for _, c := range f.nums {
			b := []byte(c.want)
			for _, at := range []int{math.MinInt, math.MinInt + 1, -len(b), -2, -1, len(b), len(b) + 1, len(b) + 8, math.MaxInt - 8, math.MaxInt - 1, math.MaxInt} {
				if n, next, ok := f.get(b, at); n != 0 || next != 0 || ok {
					t.Errorf("Get%s(%x, %d) = %d, %d, %v", f.name, b, at, n, next, ok)
				}
			}
		}
		for _, at := range []int{math.MinInt, -1, 0, 1, math.MaxInt} {
			if n, next, ok := f.get(nil, at); n != 0 || next != 0 || ok {
				t.Errorf("Get%s(nil, %d) = %d, %d, %v", f.name, at, n, next, ok)
			}
		}
	}
}

func TestEveryCutNumberIsNone(t *testing.T) {
	for _, f := range numForms() {
		for _, c := range f.nums {
			for cut := range len(c.want) {
				b := []byte("ab" + c.want[:cut])
				if n, next, ok := f.get(b, 2); n != 0 || next != 0 || ok {
					t.Errorf("Get%s(%x, 2) = %d, %d, %v", f.name, b, n, next, ok)
				}
			}
		}
	}
}

// Any four bytes are a number.
func TestGetFixReadsAnyFourBytes(t *testing.T) {
	for _, x := range []uint32{0, 1, 0x7fffffff, 0x80000000, 0xffffffff, 0x00ff00ff, 0xff00ff00, 0x01020304, 0xfefdfcfb, 0x80808080} {
		b := binary.BigEndian.AppendUint32([]byte("ab"), x)
		if n, next, ok := impl.GetFix(b, 2); n != int(x)-2147483648 || next != 6 || !ok {
			t.Errorf("GetFix(%x, 2) = %d, %d, %v", b, n, next, ok)
		}
		if n, next, ok := impl.GetFix(b, 3); n != 0 || next != 0 || ok {
			t.Errorf("GetFix(%x, 3) = %d, %d, %v", b, n, next, ok)
		}
	}
}

func TestGetVarRefuses(t *testing.T) {
	cases := []struct {
		name string
		b    string
	}{
		{"a needless byte alone", "\x81\x00"},
		{"a needless byte alone, below 0", "\x7e\xff"},
		{"a needless byte ahead of another one", "\x82\x00\x01"},
		{"a needless byte ahead of the greatest byte", "\x82\x00\xff"},
		{"a needless byte ahead of a needless byte", "\x82\x00\x00"},
		{"a needless byte ahead of another one, below 0", "\x7d\xff\xfe"},
		{"a needless byte ahead of the least byte, below 0", "\x7d\xff\x00"},
		{"a needless byte ahead of a needless byte, below 0", "\x7d\xff\xff"},
		{"a needless byte of seven", "\x87\x00\xff\xff\xff\xff\xff\xff"},
		{"a needless byte of seven, below 0", "\x78\xff\x00\x00\x00\x00\x00\x00"},
		{"one above the most", "\x87\x03\x8d\x7e\xa4\xc6\x80\x01"},
		{"a higher byte above the most", "\x87\x04\x00\x00\x00\x00\x00\x00"},
		{"the most of seven bytes", "\x87\xff\xff\xff\xff\xff\xff\xff"},
		{"one below the least", "\x78\xfc\x72\x81\x5b\x39\x7f\xff"},
		{"a higher byte below the least", "\x78\xfb\xff\xff\xff\xff\xff\xff"},
		{"the least of seven bytes", "\x78\x00\x00\x00\x00\x00\x00\x00"},
		{"the least of eight bytes", "\x88\x01\x00\x00\x00\x00\x00\x00\x00"},
		{"eight bytes that make the least int", "\x88\x80\x00\x00\x00\x00\x00\x00\x00"},
		{"the most of eight bytes", "\x88\xff\xff\xff\xff\xff\xff\xff\xff"},
		{"a small number in eight bytes", "\x88\x00\x00\x00\x00\x00\x00\x00\x01"},
		{"the most in eight bytes", "\x88\x00\x03\x8d\x7e\xa4\xc6\x80\x00"},
		{"the greatest of eight bytes, below 0", "\x77\xfe\xff\xff\xff\xff\xff\xff\xff"},
		{"the least of eight bytes, below 0", "\x77\x00\x00\x00\x00\x00\x00\x00\x00"},
		{"a small number in eight bytes, below 0", "\x77\xff\xff\xff\xff\xff\xff\xff\xfe"},
		{"the least in eight bytes", "\x77\xff\xfc\x72\x81\x5b\x39\x80\x00"},
		{"nine bytes, the last eight of which are a number", "\x89\x01\x00\x00\x00\x00\x00\x00\x00\x01"},
		{"nine bytes, the last eight of which are a number, below 0", "\x76\xfe\xff\xff\xff\xff\xff\xff\xff\xfe"},
	}
	for _, c := range cases {
		for _, behind := range []string{"", "\x00", "\x81\x01"} {
			b := []byte("a" + c.b + behind)
			if n, next, ok := impl.GetVar(b, 1); n != 0 || next != 0 || ok {
				t.Errorf("%s: GetVar(%x, 1) = %d, %d, %v", c.name, b, n, next, ok)
			}
		}
	}
}

// Heads that ask for more than seven bytes are refused, however many stand there.
func TestHeadsOfVar(t *testing.T) {
	for head := range 256 {
		for _, fill := range []string{"\x00", "\x01", "\xfe", "\xff"} {
			for _, room := range []int{0, 1, 6, 7, 8, 127, 128, 200} {
				b := string([]byte{byte(head)}) + strings.Repeat(fill, room)
				wantN, wantNext, wantOk := varRead(b)
				if n, next, ok := impl.GetVar([]byte(b), 0); n != wantN || next != wantNext || ok != wantOk {
					t.Errorf("GetVar of %x and %d of %x = %d, %d, %v", head, room, fill, n, next, ok)
				}
			}
		}
	}
}

// varRead reads a number without asking for its form, and then asks whether that number's form is what b begins with.
func varRead(b string) (int, int, bool) {
	if b == "" {
		return 0, 0, false
	}
	count, below := int(b[0])-128, b[0] < 128
	if below {
		count = 127 - int(b[0])
	}
	if count > 7 || count > len(b)-1 {
		return 0, 0, false
	}
	n := 0
	for i := range count {
		digit := int(b[1+i])
		if below {
			digit = 255 - digit
		}
		n = n*256 + digit
	}
	if below {
		n = -1 - n
	}
	if n < -billiard || n > billiard || varForm(n) != b[:1+count] {
		return 0, 0, false
	}
	return n, 1 + count, true
}

// varForm has the bytes of a number by division, the lowest first, turned round at the end.
func varForm(n int) string {
	size := n
	if n < 0 {
		size = -1 - n
	}
	var form []byte
	for ; size > 0; size /= 256 {
		form = append(form, byte(size%256))
	}
	form = append(form, byte(128+len(form)))
	slices.Reverse(form)
	if n < 0 {
		for i := range form {
			form[i] = 255 - form[i]
		}
	}
	return string(form)
}

// All short bytes of those that the form leans on: what is read is just what is put.
func TestGetVarReadsJustWhatIsPut(t *testing.T) {
	for _, b := range textsOf("\x00\x01\x7d\x7e\x7f\x80\x81\x82\xfe\xff", 4) {
		wantN, wantNext, wantOk := varRead(b)
		n, next, ok := impl.GetVar([]byte(b), 0)
		if n != wantN || next != wantNext || ok != wantOk {
			t.Fatalf("GetVar(%x, 0) = %d, %d, %v", b, n, next, ok)
		}
		if ok && string(impl.PutVar(nil, n)) != b[:next] {
			t.Fatalf("GetVar(%x, 0) = %d, which is put as %x", b, n, impl.PutVar(nil, n))
		}
	}
}

// One byte that is turned makes another number, or none.
func TestVarNumbersHaveOneForm(t *testing.T) {
	for _, c := range varNumbers() {
		for i := range c.want {
			for x := range 256 {
				b := []byte(c.want)
				b[i] = byte(x)
				wantN, wantNext, wantOk := varRead(string(b))
				if n, next, ok := impl.GetVar(b, 0); n != wantN || next != wantNext || ok != wantOk {
					t.Fatalf("GetVar(%x, 0) = %d, %d, %v", b, n, next, ok)
				}
			}
		}
	}
}

func TestNumAnswersAreNewMemory(t *testing.T) {
	answersAreNew(t, []bytesAnswer{
		{"PutFix", "abc", func(b []byte) []byte { return impl.PutFix(b, 300) }},
		{"PutFix behind nothing", "", func(b []byte) []byte { return impl.PutFix(b, -300) }},
		{"PutVar", "abc", func(b []byte) []byte { return impl.PutVar(b, 300) }},
		{"PutVar of 0", "abc", func(b []byte) []byte { return impl.PutVar(b, 0) }},
		{"PutVar below 0", "abc", func(b []byte) []byte { return impl.PutVar(b, -300) }},
		{"PutVar of the most", "abc", func(b []byte) []byte { return impl.PutVar(b, billiard) }},
		{"PutVar behind nothing", "", func(b []byte) []byte { return impl.PutVar(b, 300) }},
		{"PutVar below 0 behind nothing", "", func(b []byte) []byte { return impl.PutVar(b, -300) }},
	})
}

func TestNumReadersWriteNothing(t *testing.T) {
	for _, s := range []string{"", "\x80", "\x7f", "\x81\x01", "\x7e\xfe", "\x7d\xfe\xff", "\x7e\xff", "\x81", "\x78\xfc\x72\x81\x5b\x39\x80\x00", "\x00\x01\x02\x03"} {
		b := spared(s)
		impl.GetFix(b, 0)
		impl.GetVar(b, 0)
		untouched(t, "reading", b, s)
	}
}

// The spare room goes on with what would make each of these whole.
func TestNumSpareRoomIsNotRead(t *testing.T) {
	for _, f := range numForms() {
		for _, c := range f.nums {
			b := []byte(c.want)
			for n := range b {
				if x, next, ok := f.get(b[:n], 0); x != 0 || next != 0 || ok {
					t.Errorf("Get%s of %d bytes of %x: %d, %d, %v", f.name, n, b, x, next, ok)
				}
				if x, next, ok := f.get(b[:n], n); x != 0 || next != 0 || ok {
					t.Errorf("Get%s at the end of %d bytes of %x: %d, %d, %v", f.name, n, b, x, next, ok)
				}
			}
		}
	}
}
