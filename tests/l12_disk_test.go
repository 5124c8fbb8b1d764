package tests

import (
	"fmt"
	"math"
	"math/rand"
	"slices"
	"strings"
	"testing"

	"loop.example/g00322/impl"
)

// diskText has all of a disk as one text, in which an empty list and nil are the same.
func diskText(d impl.Disk) string {
	var b strings.Builder
	for _, sec := range d.Secs {
		fmt.Fprintf(&b, "%q ", sec)
	}
	for _, w := range d.Cache {
		fmt.Fprintf(&b, "%d<-%q ", w.N, w.B)
	}
	for _, f := range d.Faults {
		fmt.Fprintf(&b, "%+v ", f)
	}
	return b.String() + fmt.Sprint(d.Ops, d.Down)
}

func sameDisk(a impl.Disk, b impl.Disk) bool { return diskText(a) == diskText(b) }

// diskCopy has a disk that shares nothing with d.
func diskCopy(d impl.Disk) impl.Disk {
	out := impl.Disk{Ops: d.Ops, Down: d.Down, Faults: slices.Clone(d.Faults)}
	for _, sec := range d.Secs {
		out.Secs = append(out.Secs, slices.Clone(sec))
	}
	for _, w := range d.Cache {
		out.Cache = append(out.Cache, impl.Write{N: w.N, B: slices.Clone(w.B)})
	}
	return out
}

func write(n int, s string) impl.Write { return impl.Write{N: n, B: []byte(s)} }

func fault(at int, keep int, cut int) impl.Fault { return impl.Fault{At: at, Keep: keep, Cut: cut} }

// diskOf has these sectors.
func diskOf(secs ...string) impl.Disk {
	d := impl.Disk{}
	for _, s := range secs {
		d.Secs = append(d.Secs, []byte(s))
	}
	return d
}

// fullSec has as many bytes as a sector may have.
func fullSec(c string) string { return strings.Repeat(c, 256) }

// noSector has places where a disk of n sectors has none.
func noSector(n int) []int { return append(noPlace(n), -1) }

// wordsDiskOk is what the chapter tells of a disk.
func wordsDiskOk(d impl.Disk) bool {
	ok := len(d.Secs) >= 4 && len(d.Secs) <= 48 && len(d.Cache) <= 60 && len(d.Faults) <= 20
	for _, sec := range d.Secs {
		ok = ok && len(sec) <= 256
	}
	for _, w := range d.Cache {
		ok = ok && w.N >= 0 && w.N < len(d.Secs) && len(w.B) <= 256
	}
	ahead := -1
	for _, f := range d.Faults {
		ok = ok && f.At > ahead && f.At <= 100000 && f.Keep >= 0 && f.Keep <= 1048575 && f.Cut >= 0 && f.Cut <= 256
		ahead = f.At
	}
	if d.Down {
		ok = ok && len(d.Cache) == 0
	}
	return ok && d.Ops >= 0 && d.Ops <= 100000
}

// wordsKept has the places of the Writes that a Fault keeps.
func wordsKept(d impl.Disk, f impl.Fault) []int {
	var out []int
	bit := 1
	for i := range d.Cache {
		if i < 20 && f.Keep/bit%2 == 1 {
			out = append(out, i)
		}
		bit *= 2
	}
	return out
}

// wordsSecs has each sector behind the Writes of these places, the last of them cut.
func wordsSecs(d impl.Disk, kept []int, cut int) [][]byte {
	var out [][]byte
	for n, sec := range d.Secs {
		has := string(sec)
		for at, i := range kept {
			if d.Cache[i].N != n {
				continue
			}
			has = string(d.Cache[i].B)
			if at == len(kept)-1 && len(has) > cut {
				has = has[:cut]
			}
		}
		out = append(out, []byte(has))
	}
	return out
}

// wordsOperation has what comes of one operation, of a disk whose cache has the Write already, if it is one.
func wordsOperation(d impl.Disk, flushes bool) (impl.Disk, int) {
	at := d.Ops
	d.Ops = at + 1
	for _, f := range d.Faults {
		if f.At == at {
			d.Secs = wordsSecs(d, wordsKept(d, f), f.Cut)
			d.Cache, d.Down = nil, true
			return d, impl.CoDown
		}
	}
	if flushes {
		all := []int{}
		for i := range d.Cache {
			all = append(all, i)
		}
		d.Secs = wordsSecs(d, all, 256)
		d.Cache = nil
	}
	return d, impl.CoGood
}

func wordsWriteSec(d impl.Disk, n int, b string) (impl.Disk, int) {
	d = diskCopy(d)
	if !wordsDiskOk(d) || n < 0 || n >= len(d.Secs) || len(b) > 256 || len(d.Cache) == 60 {
		return d, impl.CoForm
	}
	if d.Down || d.Ops == 100000 {
		return d, impl.CoDown
	}
	d.Cache = append(d.Cache, write(n, b))
	return wordsOperation(d, false)
}

func wordsFlush(d impl.Disk) (impl.Disk, int) {
	d = diskCopy(d)
	if !wordsDiskOk(d) {
		return d, impl.CoForm
	}
	if d.Down || d.Ops == 100000 {
		return d, impl.CoDown
	}
	return wordsOperation(d, true)
}

func wordsReadSec(d impl.Disk, n int) (string, bool) {
	if n < 0 || n >= len(d.Secs) {
		return "", false
	}
	has := string(d.Secs[n])
	for _, w := range d.Cache {
		if w.N == n {
			has = string(w.B)
		}
	}
	return has, true
}

func writesAs(t *testing.T, what string, d impl.Disk, n int, b string) impl.Disk {
	t.Helper()
	got, code := impl.WriteSec(d, n, []byte(b))
	want, wanted := wordsWriteSec(d, n, b)
	if code != wanted || !sameDisk(got, want) {
		t.Fatalf("%s: WriteSec(%s, %d, %q) = %s, %d, not %s, %d", what, diskText(d), n, b, diskText(got), code, diskText(want), wanted)
	}
	return got
}

func flushesAs(t *testing.T, what string, d impl.Disk) impl.Disk {
	t.Helper()
	got, code := impl.Flush(d)
	want, wanted := wordsFlush(d)
	if code != wanted || !sameDisk(got, want) {
		t.Fatalf("%s: Flush(%s) = %s, %d, not %s, %d", what, diskText(d), diskText(got), code, diskText(want), wanted)
	}
	return got
}

func turnsOn(t *testing.T, what string, d impl.Disk) impl.Disk {
	t.Helper()
	want := diskCopy(d)
	want.Down = false
	got := impl.TurnOn(d)
	if !sameDisk(got, want) {
		t.Fatalf("%s: TurnOn(%s) = %s", what, diskText(d), diskText(got))
	}
	return got
}

func readsAs(t *testing.T, what string, d impl.Disk) {
	t.Helper()
	for _, n := range noSector(len(d.Secs)) {
		readAs(t, what, d, n)
	}
	for n := range d.Secs {
		readAs(t, what, d, n)
	}
}

func readAs(t *testing.T, what string, d impl.Disk, n int) {
	t.Helper()
	got, ok := impl.ReadSec(d, n)
	if want, wanted := wordsReadSec(d, n); string(got) != want || ok != wanted {
		t.Fatalf("%s: ReadSec(%s, %d) = %q, %v, not %q, %v", what, diskText(d), n, got, ok, want, wanted)
	}
}

// asksDisk asks all there is of one disk.
func asksDisk(t *testing.T, what string, d impl.Disk) {
	t.Helper()
	if got, want := impl.DiskOk(d), wordsDiskOk(d); got != want {
		t.Fatalf("%s: DiskOk(%s) = %v", what, diskText(d), got)
	}
	readsAs(t, what, d)
	for _, n := range append(noSector(len(d.Secs)), 0, 1, len(d.Secs)-1) {
		for _, b := range []string{"", "x", fullSec("y"), fullSec("z") + "z"} {
			writesAs(t, what, d, n, b)
		}
	}
	flushesAs(t, what, d)
	turnsOn(t, what, d)
}

func TestDiskLimits(t *testing.T) {
	if impl.MaxSecs != 48 || impl.SecSize != 256 {
		t.Error(impl.MaxSecs, impl.SecSize)
	}
}

// faultLists are right.
func faultLists() [][]impl.Fault {
	var many []impl.Fault
	for i := range 20 {
		many = append(many, fault(i*7, i, i))
	}
	return [][]impl.Fault{
		nil,
		{fault(0, 0, 0)},
		{fault(100000, 1048575, 256)},
		{fault(0, 5, 1), fault(1, 4, 2), fault(2, 3, 3)},
		{fault(99998, 1, 1), fault(99999, 1, 1), fault(100000, 1, 1)},
		many,
	}
}

// wrongFaults has lists that pass one limit each by one.
func wrongFaults() map[string][]impl.Fault {
	var many []impl.Fault
	for i := range 21 {
		many = append(many, fault(i, 0, 0))
	}
	return map[string][]impl.Fault{
		"At below 0":              {fault(-1, 0, 0)},
		"At past the last":        {fault(100001, 0, 0)},
		"Keep below 0":            {fault(0, -1, 0)},
		"Keep of 21 bits":         {fault(0, 1048576, 0)},
		"Cut below 0":             {fault(0, 0, -1)},
		"Cut past a sector":       {fault(0, 0, 257)},
		"one At twice":            {fault(2, 0, 0), fault(2, 1, 1)},
		"one At twice, the last":  {fault(1, 0, 0), fault(2, 0, 0), fault(2, 0, 0)},
		"descending":              {fault(3, 0, 0), fault(2, 0, 0)},
		"descending, the last":    {fault(1, 0, 0), fault(3, 0, 0), fault(2, 0, 0)},
		"21":                      many,
		"the second's At":         {fault(0, 0, 0), fault(100001, 0, 0)},
		"the second's Keep":       {fault(0, 0, 0), fault(1, 1048576, 0)},
		"the second's Keep low":   {fault(0, 0, 0), fault(1, -1, 0)},
		"the second's Cut":        {fault(0, 0, 0), fault(1, 0, 257)},
		"the second's Cut low":    {fault(0, 0, 0), fault(1, 0, -1)},
		"numbers without measure": {fault(math.MinInt, math.MinInt, math.MinInt), fault(math.MaxInt, math.MaxInt, math.MaxInt)},
		"Keep without measure":    {fault(0, math.MaxInt, 0)},
		"Keep at the lowest":      {fault(0, math.MinInt, 0)},
	}
}

func TestNewDisks(t *testing.T) {
	for _, n := range []int{4, 5, 17, 47, 48} {
		for _, l := range faultLists() {
			want := impl.Disk{Secs: make([][]byte, n), Faults: l}
			if got := impl.DiskNew(n, l); !sameDisk(got, want) || len(got.Secs) != n || !impl.DiskOk(got) {
				t.Errorf("DiskNew(%d, %v) = %s", n, l, diskText(got))
			}
		}
	}
}

func isZeroDisk(d impl.Disk) bool {
	return len(d.Secs) == 0 && len(d.Cache) == 0 && d.Ops == 0 && len(d.Faults) == 0 && !d.Down
}

func TestNewDisksThatWouldNotBeRight(t *testing.T) {
	for _, n := range []int{3, 2, 1, 0, -1, -4, 49, 50, 1 << 40, math.MaxInt, math.MinInt} {
		for _, l := range faultLists() {
			if got := impl.DiskNew(n, l); !isZeroDisk(got) || impl.DiskOk(got) {
				t.Errorf("DiskNew(%d, %v) = %s", n, l, diskText(got))
			}
		}
	}
	for what, l := range wrongFaults() {
		for _, n := range []int{3, 4, 48, 49} {
			if got := impl.DiskNew(n, l); !isZeroDisk(got) || impl.DiskOk(got) {
				t.Errorf("%s: DiskNew(%d, %v) = %s", what, n, l, diskText(got))
			}
		}
	}
}

// writes has so many Writes, of the sectors of a disk of four in turn.
func writes(n int) []impl.Write {
	var out []impl.Write
	for i := range n {
		out = append(out, write(i%4, fmt.Sprint("w", i)))
	}
	return out
}

// goodDisks are right, each limit met among them.
func goodDisks() map[string]impl.Disk {
	plain := diskOf("a", "bb", "", "dddd")
	out := map[string]impl.Disk{"plain": plain, "zero sectors": diskOf("", "", "", "")}
	with := func(what string, do func(d *impl.Disk)) {
		d := diskCopy(plain)
		do(&d)
		out[what] = d
	}
	with("one Write", func(d *impl.Disk) { d.Cache = writes(1) })
	with("Writes of one sector", func(d *impl.Disk) { d.Cache = []impl.Write{write(1, "x"), write(3, ""), write(1, "y"), write(1, "")} })
	with("59 Writes", func(d *impl.Disk) { d.Cache = writes(59) })
	with("60 Writes", func(d *impl.Disk) { d.Cache = writes(60) })
	with("a full Write", func(d *impl.Disk) { d.Cache = []impl.Write{write(3, fullSec("w"))} })
	with("full sectors", func(d *impl.Disk) { d.Secs[0], d.Secs[3] = []byte(fullSec("s")), []byte(fullSec("t")) })
	with("48 sectors", func(d *impl.Disk) {
		d.Secs = append(d.Secs, make([][]byte, 44)...)
		d.Cache = []impl.Write{write(47, "last")}
	})
	with("off", func(d *impl.Disk) { d.Down, d.Ops = true, 7 })
	with("one operation left", func(d *impl.Disk) { d.Ops, d.Cache = 99999, writes(2) })
	with("no operation left", func(d *impl.Disk) { d.Ops, d.Cache = 100000, writes(2) })
	with("no operation left, 60 Writes", func(d *impl.Disk) { d.Ops, d.Cache = 100000, writes(60) })
	with("off, no operation left", func(d *impl.Disk) { d.Ops, d.Down = 100000, true })
	with("Faults behind it", func(d *impl.Disk) { d.Ops, d.Faults = 9, []impl.Fault{fault(3, 1, 1), fault(8, 1, 1)} })
	for i, l := range faultLists() {
		with(fmt.Sprint("Faults ", i), func(d *impl.Disk) { d.Faults, d.Cache = l, writes(3) })
		with(fmt.Sprint("Faults to come ", i), func(d *impl.Disk) { d.Faults, d.Cache, d.Ops = l, writes(3), 99998 })
	}
	return out
}

// wrongDisks pass one limit each.
func wrongDisks() map[string]impl.Disk {
	plain := diskOf("a", "bb", "", "dddd")
	out := map[string]impl.Disk{"zero": {}, "three sectors": diskOf("a", "b", "c"), "three, off": {Secs: make([][]byte, 3), Down: true}}
	with := func(what string, do func(d *impl.Disk)) {
		d := diskCopy(plain)
		do(&d)
		out[what] = d
	}
	with("49 sectors", func(d *impl.Disk) { d.Secs = append(d.Secs, make([][]byte, 45)...) })
	for n := range plain.Secs {
		with(fmt.Sprint("the sector too long: ", n), func(d *impl.Disk) { d.Secs[n] = []byte(fullSec("s") + "s") })
	}
	with("61 Writes", func(d *impl.Disk) { d.Cache = writes(61) })
	with("200 Writes", func(d *impl.Disk) { d.Cache = writes(200) })
	for _, n := range noSector(4) {
		with(fmt.Sprint("a Write of the sector ", n), func(d *impl.Disk) { d.Cache = []impl.Write{write(0, "x"), write(n, "y")} })
		with(fmt.Sprint("the first Write of the sector ", n), func(d *impl.Disk) { d.Cache = []impl.Write{write(n, "y"), write(0, "x")} })
	}
	with("a Write too long", func(d *impl.Disk) { d.Cache = []impl.Write{write(0, fullSec("w")+"w"), write(1, "")} })
	with("the last Write too long", func(d *impl.Disk) { d.Cache = []impl.Write{write(0, ""), write(1, fullSec("w")+"w")} })
	for _, ops := range []int{-1, 100001, math.MinInt, math.MaxInt} {
		with(fmt.Sprint("Ops ", ops), func(d *impl.Disk) { d.Ops, d.Cache = ops, writes(2) })
	}
	with("off with a Write", func(d *impl.Disk) { d.Down, d.Cache = true, writes(1) })
	with("off with 60 Writes", func(d *impl.Disk) { d.Down, d.Cache = true, writes(60) })
	for what, l := range wrongFaults() {
		with(what, func(d *impl.Disk) { d.Faults, d.Cache = l, writes(2) })
		with(what+", off", func(d *impl.Disk) { d.Faults, d.Down = l, true })
	}
	return out
}

func TestDisksThatAreRight(t *testing.T) {
	for what, d := range goodDisks() {
		if !impl.DiskOk(d) {
			t.Errorf("%s: not DiskOk: %s", what, diskText(d))
		}
		asksDisk(t, what, d)
	}
}

func TestDisksThatAreNotRight(t *testing.T) {
	for what, d := range wrongDisks() {
		if impl.DiskOk(d) {
			t.Errorf("%s: DiskOk: %s", what, diskText(d))
		}
		if got, code := impl.WriteSec(d, 0, nil); code != impl.CoForm || !sameDisk(got, d) {
			t.Errorf("%s: WriteSec: %s, %d", what, diskText(got), code)
		}
		if got, code := impl.Flush(d); code != impl.CoForm || !sameDisk(got, d) {
			t.Errorf("%s: Flush: %s, %d", what, diskText(got), code)
		}
		asksDisk(t, what, d)
	}
}

func TestReadingSectors(t *testing.T) {
	d := diskOf("a", "bb", "", "dddd")
	d.Cache = []impl.Write{write(1, "first"), write(3, "third"), write(1, "second"), write(2, "x"), write(2, "")}
	for n, want := range []string{"a", "second", "", "third"} {
		if got, ok := impl.ReadSec(d, n); string(got) != want || !ok {
			t.Errorf("the sector %d: %q, %v", n, got, ok)
		}
	}
	for _, n := range []int{-1, 4, 5, math.MinInt, math.MaxInt} {
		if got, ok := impl.ReadSec(d, n); len(got) != 0 || ok {
			t.Errorf("the sector %d: %q, %v", n, got, ok)
		}
	}
}

// A sector that is not there has nothing, though a Write of it is in the cache.
func TestReadingSectorsThatAreNotThere(t *testing.T) {
	d := diskOf("a", "b", "c", "d")
	for _, n := range noSector(4) {
		d.Cache = []impl.Write{write(n, "x")}
		if got, ok := impl.ReadSec(d, n); len(got) != 0 || ok {
			t.Errorf("the sector %d: %q, %v", n, got, ok)
		}
	}
	if got, ok := impl.ReadSec(impl.Disk{Cache: []impl.Write{write(0, "x")}}, 0); len(got) != 0 || ok {
		t.Errorf("of no sectors: %q, %v", got, ok)
	}
}

// Reading asks for nothing but the sector: neither for power nor for a disk that is right.
func TestReadingDisksThatAreOff(t *testing.T) {
	d := diskOf("a", "b", "c", "d")
	d.Down, d.Ops = true, 100000
	if got, ok := impl.ReadSec(d, 3); string(got) != "d" || !ok {
		t.Errorf("off: %q, %v", got, ok)
	}
	if got, ok := impl.ReadSec(diskOf("a", "b"), 1); string(got) != "b" || !ok {
		t.Errorf("of two sectors: %q, %v", got, ok)
	}
	long := diskOf("a", "b", "c", fullSec("d")+"e")
	if got, ok := impl.ReadSec(long, 3); string(got) != fullSec("d")+"e" || !ok {
		t.Errorf("too long: %q, %v", got, ok)
	}
}

func TestWritingAndFlushing(t *testing.T) {
	d := impl.DiskNew(4, nil)
	d, code := impl.WriteSec(d, 3, []byte("one"))
	want := impl.Disk{Secs: make([][]byte, 4), Cache: []impl.Write{write(3, "one")}, Ops: 1}
	if code != impl.CoGood || !sameDisk(d, want) {
		t.Fatalf("a Write: %s, %d", diskText(d), code)
	}
	d, code = impl.WriteSec(d, 0, []byte(fullSec("z")))
	want.Cache, want.Ops = append(want.Cache, write(0, fullSec("z"))), 2
	if code != impl.CoGood || !sameDisk(d, want) {
		t.Fatalf("a full Write: %s, %d", diskText(d), code)
	}
	d, code = impl.Flush(d)
	want.Secs[3], want.Secs[0], want.Cache, want.Ops = []byte("one"), []byte(fullSec("z")), nil, 3
	if code != impl.CoGood || !sameDisk(d, want) {
		t.Fatalf("a Flush: %s, %d", diskText(d), code)
	}
	d, code = impl.WriteSec(d, 0, nil)
	if got, ok := impl.ReadSec(d, 0); code != impl.CoGood || len(got) != 0 || !ok || len(d.Secs[0]) != 256 {
		t.Fatalf("a Write of nothing: %q, %d", got, code)
	}
	d, code = impl.Flush(d)
	want.Secs[0], want.Ops = nil, 5
	if code != impl.CoGood || !sameDisk(d, want) {
		t.Fatalf("a Flush of nothing: %s, %d", diskText(d), code)
	}
	d, code = impl.Flush(d)
	want.Ops = 6
	if code != impl.CoGood || !sameDisk(d, want) {
		t.Fatalf("a Flush without Writes: %s, %d", diskText(d), code)
	}
}

// What is written twice has the last of both, and a shorter one leaves nothing of the longer.
func TestSectorsWrittenTwice(t *testing.T) {
	for _, c := range []struct{ first, second string }{{"one", "two"}, {"longer", "no"}, {"no", "longer"}, {"x", ""}, {"", "x"}, {"same", "same"}, {fullSec("a"), "b"}} {
		d := diskOf("a", "b", "before", "d")
		d = writesAs(t, "first", d, 2, c.first)
		d = writesAs(t, "between", d, 1, "between")
		d = writesAs(t, "second", d, 2, c.second)
		if len(d.Cache) != 3 || string(d.Cache[0].B) != c.first || string(d.Cache[2].B) != c.second || string(d.Secs[2]) != "before" {
			t.Errorf("the cache: %s", diskText(d))
		}
		if got, _ := impl.ReadSec(d, 2); string(got) != c.second {
			t.Errorf("ahead of the Flush: %q, not %q", got, c.second)
		}
		d = flushesAs(t, "twice", d)
		if got, _ := impl.ReadSec(d, 2); string(got) != c.second || string(d.Secs[2]) != c.second || string(d.Secs[1]) != "between" {
			t.Errorf("behind the Flush: %s", diskText(d))
		}
	}
}

// Of a sector that is written twice the power may leave either, cut or whole, or what was flushed.
func TestSectorsWrittenTwiceWhenThePowerGoes(t *testing.T) {
	for _, c := range []struct {
		keep, cut int
		two       string
	}{
		{0, 9, "flushed"}, {0, 0, "flushed"},
		{1, 9, "first"}, {1, 2, "fi"}, {1, 0, ""},
		{2, 9, "second"}, {2, 3, "sec"}, {2, 0, ""},
		{3, 9, "second"}, {3, 1, "s"}, {3, 0, ""},
		{4, 9, "flushed"}, {8, 0, "flushed"}, {5, 1, "first"}, {6, 1, "second"}, {7, 0, "second"}, {1048575, 0, "second"}, {1048568, 0, "flushed"},
	} {
		d := diskOf("", "", "flushed", "")
		d.Cache = []impl.Write{write(2, "first"), write(2, "second"), write(0, "other")}
		d.Faults = []impl.Fault{fault(0, c.keep, c.cut)}
		got, code := impl.Flush(d)
		if code != impl.CoDown || string(got.Secs[2]) != c.two || len(got.Cache) != 0 || !got.Down || got.Ops != 1 {
			t.Errorf("%d, %d: %s, %d", c.keep, c.cut, diskText(got), code)
		}
		flushesAs(t, "twice", d)
	}
}

// The Write in whose midst the power goes is the last in the cache.
func TestWritesInWhoseMidstThePowerGoes(t *testing.T) {
	for _, c := range []struct {
		keep, cut int
		one, two  string
	}{
		{0, 256, "a", "b"}, {1, 256, "first", "b"}, {2, 256, "a", "last"}, {3, 256, "first", "last"},
		{1, 2, "fi", "b"}, {2, 2, "a", "la"}, {3, 2, "first", "la"}, {3, 0, "first", ""}, {2, 4, "a", "last"}, {2, 5, "a", "last"}, {2, 3, "a", "las"}, {4, 0, "a", "b"},
	} {
		d := diskOf("", "a", "b", "")
		d.Ops, d.Cache, d.Faults = 5, []impl.Write{write(1, "first")}, []impl.Fault{fault(4, 0, 0), fault(5, c.keep, c.cut), fault(6, 0, 0)}
		got, code := impl.WriteSec(d, 2, []byte("last"))
		want := diskOf("", c.one, c.two, "")
		want.Ops, want.Down, want.Faults = 6, true, d.Faults
		if code != impl.CoDown || !sameDisk(got, want) {
			t.Errorf("%d, %d: %s, %d", c.keep, c.cut, diskText(got), code)
		}
	}
}

func TestSixtyWritesAndOneMore(t *testing.T) {
	d := impl.DiskNew(5, nil)
	for i := range 60 {
		d = writesAs(t, "up to sixty", d, i%5, fmt.Sprint(i))
		if len(d.Cache) != i+1 {
			t.Fatalf("%d Writes behind %d", len(d.Cache), i+1)
		}
	}
	got, code := impl.WriteSec(d, 0, []byte("61"))
	if code != impl.CoForm || !sameDisk(got, d) || got.Ops != 60 {
		t.Errorf("one more: %s, %d", diskText(got), code)
	}
	d = flushesAs(t, "sixty", d)
	for n, sec := range d.Secs {
		if string(sec) != fmt.Sprint(55+n) {
			t.Errorf("the sector %d: %q", n, sec)
		}
	}
	d = writesAs(t, "behind the Flush", d, 0, "61")
	if len(d.Cache) != 1 || d.Ops != 62 {
		t.Errorf("behind the Flush: %s", diskText(d))
	}
}

// The sixtieth Write goes, and may be lost; the one behind it is refused whether or not there is a Fault.
func TestTheSixtiethWriteWhenThePowerGoes(t *testing.T) {
	d := diskOf("", "", "", "")
	d.Cache, d.Ops, d.Faults = writes(59), 59, []impl.Fault{fault(59, 1048575, 1), fault(60, 1048575, 1)}
	if got := writesAs(t, "the sixtieth", d, 0, "x"); !got.Down {
		t.Errorf("it is on: %s", diskText(got))
	}
	d.Cache, d.Ops = writes(60), 60
	if got, code := impl.WriteSec(d, 0, nil); code != impl.CoForm || !sameDisk(got, d) {
		t.Errorf("one more: %s, %d", diskText(got), code)
	}
}

// No bit is there for what stands behind the twentieth Write; the twentieth is the last then, and cut.
func TestWritesBehindTheTwentiethAreNotKept(t *testing.T) {
	for _, n := range []int{19, 20, 21, 33, 59, 60} {
		d := impl.Disk{Secs: make([][]byte, 48), Faults: []impl.Fault{fault(0, 1048575, 2)}}
		for i := range n {
			d.Cache = append(d.Cache, write(i%48, fmt.Sprintf("w%02d", i)))
		}
		got := flushesAs(t, fmt.Sprint(n), d)
		last := min(n, 20) - 1
		for at, sec := range got.Secs {
			want := ""
			if at <= last {
				want = fmt.Sprintf("w%02d", at)
			}
			if at == last {
				want = want[:2]
			}
			if string(sec) != want {
				t.Errorf("of %d Writes the sector %d: %q, not %q", n, at, sec, want)
			}
		}
	}
}

func TestOneBitOfEach(t *testing.T) {
	for bit := range 20 {
		for _, cut := range []int{0, 1, 3, 256} {
			d := impl.Disk{Secs: make([][]byte, 24), Faults: []impl.Fault{fault(0, 1<<bit, cut)}}
			for i := range 24 {
				d.Cache = append(d.Cache, write(i, fmt.Sprintf("w%02d", i)))
			}
			got := flushesAs(t, "one bit", d)
			for at, sec := range got.Secs {
				want := ""
				if at == bit {
					want = fmt.Sprintf("w%02d", at)[:min(cut, 3)]
				}
				if string(sec) != want {
					t.Errorf("bit %d, cut %d: the sector %d: %q", bit, cut, at, sec)
				}
			}
		}
	}
}

func TestFaultsAtTheFirstOperation(t *testing.T) {
	l := []impl.Fault{fault(0, 1, 2)}
	d, code := impl.WriteSec(impl.DiskNew(4, l), 1, []byte("abc"))
	want := diskOf("", "ab", "", "")
	want.Ops, want.Faults, want.Down = 1, l, true
	if code != impl.CoDown || !sameDisk(d, want) {
		t.Errorf("a Write: %s, %d", diskText(d), code)
	}
	d, code = impl.Flush(impl.DiskNew(4, l))
	want.Secs[1] = nil
	if code != impl.CoDown || !sameDisk(d, want) {
		t.Errorf("a Flush: %s, %d", diskText(d), code)
	}
	// It was at the first operation alone.
	d = impl.TurnOn(d)
	d, code = impl.Flush(d)
	if code != impl.CoGood || d.Ops != 2 || d.Down {
		t.Errorf("the second: %s, %d", diskText(d), code)
	}
}

func TestFaultsAtTheLastOperation(t *testing.T) {
	for _, flushes := range []bool{false, true} {
		d := diskOf("a", "b", "c", "d")
		d.Ops, d.Cache = 99999, []impl.Write{write(2, "cache")}
		d.Faults = []impl.Fault{fault(99999, 1, 3), fault(100000, 1, 1)}
		if flushes {
			d = flushesAs(t, "the last", d)
		} else {
			d = writesAs(t, "the last", d, 3, "lost")
		}
		if d.Ops != 100000 || !d.Down || string(d.Secs[2]) != "cac" || string(d.Secs[3]) != "d" {
			t.Errorf("the last: %s", diskText(d))
		}
		for _, on := range []impl.Disk{d, turnsOn(t, "the last", d)} {
			if got, code := impl.WriteSec(on, 0, nil); code != impl.CoDown || !sameDisk(got, on) {
				t.Errorf("a Write behind the last: %s, %d", diskText(got), code)
			}
			if got, code := impl.Flush(on); code != impl.CoDown || !sameDisk(got, on) {
				t.Errorf("a Flush behind the last: %s, %d", diskText(got), code)
			}
		}
	}
}

// Where no operation is left the power does not go: nothing is lost, and nothing comes.
func TestNoOperationIsLeft(t *testing.T) {
	d := diskOf("a", "b", "c", "d")
	d.Ops, d.Cache, d.Faults = 99998, []impl.Write{write(2, "cache")}, []impl.Fault{fault(100000, 0, 0)}
	d = writesAs(t, "the last but one", d, 1, "more")
	d = writesAs(t, "the last", d, 1, "most")
	if d.Ops != 100000 || d.Down || len(d.Cache) != 3 {
		t.Errorf("the last: %s", diskText(d))
	}
	if got, code := impl.Flush(d); code != impl.CoDown || !sameDisk(got, d) {
		t.Errorf("a Flush: %s, %d", diskText(got), code)
	}
	if got, code := impl.WriteSec(d, 1, nil); code != impl.CoDown || !sameDisk(got, d) {
		t.Errorf("a Write: %s, %d", diskText(got), code)
	}
	readsAs(t, "no operation left", d)
}

// CoForm counts ahead of CoDown.
func TestReasonsInTheirOrder(t *testing.T) {
	off, worn := diskOf("a", "b", "c", "d"), diskOf("a", "b", "c", "d")
	off.Down, worn.Ops = true, 100000
	for _, d := range []impl.Disk{off, worn} {
		for _, n := range noSector(4) {
			if got, code := impl.WriteSec(d, n, nil); code != impl.CoForm || !sameDisk(got, d) {
				t.Errorf("the sector %d: %s, %d", n, diskText(got), code)
			}
		}
		if got, code := impl.WriteSec(d, 0, make([]byte, 257)); code != impl.CoForm || !sameDisk(got, d) {
			t.Errorf("257 bytes: %s, %d", diskText(got), code)
		}
		if got, code := impl.WriteSec(d, 0, make([]byte, 256)); code != impl.CoDown || !sameDisk(got, d) {
			t.Errorf("256 bytes: %s, %d", diskText(got), code)
		}
		if got, code := impl.Flush(d); code != impl.CoDown || !sameDisk(got, d) {
			t.Errorf("a Flush: %s, %d", diskText(got), code)
		}
	}
	worn.Cache = writes(60)
	if got, code := impl.WriteSec(worn, 0, nil); code != impl.CoForm || !sameDisk(got, worn) {
		t.Errorf("60 Writes: %s, %d", diskText(got), code)
	}
	if got, code := impl.Flush(worn); code != impl.CoDown || !sameDisk(got, worn) {
		t.Errorf("a Flush of 60 Writes: %s, %d", diskText(got), code)
	}
}

// What is refused begins no operation, so that a Fault there waits for the next one.
func TestRefusedOperationsMeetNoFault(t *testing.T) {
	d := diskOf("a", "b", "c", "d")
	d.Faults = []impl.Fault{fault(0, 1, 256)}
	for _, n := range noSector(4) {
		writesAs(t, "no sector", d, n, "x")
	}
	d = writesAs(t, "too long", d, 0, fullSec("x")+"x")
	if d.Ops != 0 || d.Down {
		t.Fatalf("refused: %s", diskText(d))
	}
	d = writesAs(t, "the first", d, 0, "x")
	if !d.Down || string(d.Secs[0]) != "x" {
		t.Errorf("the first: %s", diskText(d))
	}
}

func TestTurningOn(t *testing.T) {
	for what, d := range goodDisks() {
		got := turnsOn(t, what, d)
		if got.Down || !impl.DiskOk(got) {
			t.Errorf("%s: %s", what, diskText(got))
		}
		turnsOn(t, what+", twice", got)
	}
	// Nothing but the power turns, of one that is not right, too.
	for what, d := range wrongDisks() {
		turnsOn(t, what, d)
	}
}

// Off, and on again, and off at the next Fault: what was settled stays.
func TestThePowerGoesAgainAndAgain(t *testing.T) {
	l := []impl.Fault{fault(1, 1, 256), fault(3, 2, 1), fault(4, 1, 0), fault(6, 0, 256)}
	d := impl.DiskNew(4, l)
	d = writesAs(t, "0", d, 0, "zero")
	d = writesAs(t, "1", d, 1, "one")
	if !d.Down || string(d.Secs[0]) != "zero" || len(d.Secs[1]) != 0 {
		t.Fatalf("1: %s", diskText(d))
	}
	d = turnsOn(t, "1", d)
	d = writesAs(t, "2", d, 2, "two")
	d = writesAs(t, "3", d, 1, "three")
	if !d.Down || string(d.Secs[1]) != "t" || len(d.Secs[2]) != 0 || string(d.Secs[0]) != "zero" {
		t.Fatalf("3: %s", diskText(d))
	}
	d = turnsOn(t, "3", d)
	d = writesAs(t, "4", d, 0, "four")
	if !d.Down || len(d.Secs[0]) != 0 || string(d.Secs[1]) != "t" {
		t.Fatalf("4: %s", diskText(d))
	}
	d = turnsOn(t, "4", d)
	d = writesAs(t, "5", d, 3, "five")
	d = flushesAs(t, "6", d)
	if !d.Down || len(d.Secs[3]) != 0 || d.Ops != 7 {
		t.Fatalf("6: %s", diskText(d))
	}
	d = turnsOn(t, "6", d)
	d = writesAs(t, "7", d, 3, "seven")
	d = flushesAs(t, "8", d)
	want := diskOf("", "t", "", "seven")
	want.Ops, want.Faults = 9, l
	if !sameDisk(d, want) {
		t.Errorf("8: %s", diskText(d))
	}
}

// Each Keep of up to four Writes of two sectors, and each Cut that tells.
func TestAllThatMayBeKept(t *testing.T) {
	for form := range 3 * 3 * 3 * 3 {
		d := diskOf("a", "bb", "ccc", "dddd")
		for i, at := 0, form; i < 4; i, at = i+1, at/3 {
			if at%3 < 2 {
				d.Cache = append(d.Cache, write(1+at%3, strings.Repeat(fmt.Sprint(i), i)))
			}
		}
		for keep := range 32 {
			for _, cut := range []int{0, 1, 2, 3, 4, 256} {
				d.Faults = []impl.Fault{fault(0, keep, cut)}
				flushesAs(t, "kept", d)
				writesAs(t, "kept", d, 1, "new")
				writesAs(t, "kept", d, 3, "")
			}
		}
	}
}

// someDisk is right, nearly always.
func someDisk(r *rand.Rand) impl.Disk {
	d := impl.Disk{Secs: make([][]byte, 4+r.Intn(3)), Ops: r.Intn(5), Down: r.Intn(8) == 0}
	for n := range d.Secs {
		d.Secs[n] = someSec(r)
	}
	if !d.Down || r.Intn(9) == 0 {
		for range r.Intn(6) {
			d.Cache = append(d.Cache, impl.Write{N: r.Intn(len(d.Secs)), B: someSec(r)})
		}
	}
	for at := r.Intn(4); at < 30; at += 1 + r.Intn(9) {
		d.Faults = append(d.Faults, fault(at, r.Intn(64), r.Intn(6)))
	}
	switch r.Intn(30) {
	case 0:
		d.Ops = 99995 + r.Intn(8)
	case 1:
		d.Faults = append(d.Faults, fault(r.Intn(30), 0, 0))
	case 2:
		d.Cache = append(d.Cache, impl.Write{N: r.Intn(9) - 2})
	case 3:
		d.Cache = append(d.Cache, writes(53+r.Intn(6))...)
	}
	return d
}

func someSec(r *rand.Rand) []byte {
	out := make([]byte, r.Intn(6))
	for i := range out {
		out[i] = byte('a' + r.Intn(26))
	}
	if r.Intn(20) == 0 {
		out = []byte(strings.Repeat("q", 253+r.Intn(5)))
	}
	return out
}

func TestDisksByTheWords(t *testing.T) {
	r := rand.New(rand.NewSource(12))
	for range 3000 {
		d := someDisk(r)
		for range 25 {
			if impl.DiskOk(d) != wordsDiskOk(d) {
				t.Fatalf("DiskOk(%s) = %v", diskText(d), impl.DiskOk(d))
			}
			switch r.Intn(9) {
			case 0, 1, 2, 3:
				d = writesAs(t, "some", d, r.Intn(len(d.Secs)+2)-1, string(someSec(r)))
			case 4, 5:
				d = flushesAs(t, "some", d)
			case 6:
				d = turnsOn(t, "some", d)
			default:
				readAs(t, "some", d, r.Intn(len(d.Secs)+2)-1)
			}
		}
	}
}

// What was flushed is there: no Fault that keeps nothing takes it away, and one that keeps something turns but what was written since.
func TestWhatWasFlushedIsThere(t *testing.T) {
	r := rand.New(rand.NewSource(120))
	for range 2000 {
		at := 2 + r.Intn(8)
		d := impl.DiskNew(6, []impl.Fault{fault(at, r.Intn(1<<9), r.Intn(7))})
		var flushed [][]byte
		since := map[int][]string{}
		code := impl.CoGood
		for op := 0; code == impl.CoGood && op < 12; op++ {
			if r.Intn(3) == 0 {
				ahead := d
				d, code = impl.Flush(d)
				if code == impl.CoGood {
					for n := range ahead.Secs {
						b, _ := impl.ReadSec(ahead, n)
						if string(d.Secs[n]) != string(b) {
							t.Fatalf("the sector %d: %q, read as %q ahead of the Flush", n, d.Secs[n], b)
						}
					}
					flushed, since = d.Secs, map[int][]string{}
				}
				continue
			}
			n, b := r.Intn(6), strings.Repeat(fmt.Sprint(op), r.Intn(6))
			since[n] = append(since[n], b)
			d, code = impl.WriteSec(d, n, []byte(b))
		}
		if code != impl.CoDown || !d.Down || d.Ops != at+1 {
			t.Fatalf("the power did not go: %s, %d", diskText(d), code)
		}
		comesOf(t, d, flushed, since)
	}
}

// comesOf asks that each sector has what was flushed, or one of what was written since, of which one at most is cut.
func comesOf(t *testing.T, d impl.Disk, flushed [][]byte, since map[int][]string) {
	t.Helper()
	cut := 0
	for n, sec := range d.Secs {
		has, was := string(sec), ""
		if flushed != nil {
			was = string(flushed[n])
		}
		if has == was || slices.Contains(since[n], has) {
			continue
		}
		cut++
		if !slices.ContainsFunc(since[n], func(s string) bool { return strings.HasPrefix(s, has) }) {
			t.Errorf("the sector %d has %q, of %q and %q", n, has, was, since[n])
		}
	}
	if cut > 1 {
		t.Errorf("%d are cut: %s", cut, diskText(d))
	}
}

// What is refused, and what went ahead, leave nothing behind for the next call.
func TestDisksKeepNothing(t *testing.T) {
	d := diskOf("a", "bb", "", "dddd")
	d.Cache, d.Faults = writes(3), []impl.Fault{fault(1, 3, 1)}
	for what, other := range wrongDisks() {
		impl.DiskNew(len(other.Secs), other.Faults)
		impl.WriteSec(other, 0, []byte("left"))
		impl.Flush(other)
		impl.ReadSec(other, 9)
		asksDisk(t, "behind "+what, d)
	}
}

// roomyDisk has d with spare room behind each list, in which other things stand.
func roomyDisk(d impl.Disk) impl.Disk {
	out := impl.Disk{Ops: d.Ops, Down: d.Down}
	for _, sec := range d.Secs {
		out.Secs = append(out.Secs, spared(string(sec)))
	}
	for _, w := range d.Cache {
		out.Cache = append(out.Cache, impl.Write{N: w.N, B: spared(string(w.B))})
	}
	out.Faults = append(slices.Clone(d.Faults), fault(0, 1, 1), fault(1, 1, 1))[:len(d.Faults)]
	out.Cache = append(out.Cache, write(0, "behind"), write(1, "behind"))[:len(d.Cache)]
	out.Secs = append(out.Secs, spared("behind"), spared("behind"))[:len(d.Secs)]
	return out
}

// allDisk has a disk as a text with the spare room that roomyDisk made.
func allDisk(d impl.Disk) string {
	out := impl.Disk{Ops: d.Ops, Down: d.Down, Faults: d.Faults[:len(d.Faults)+2], Cache: d.Cache[:len(d.Cache)+2]}
	for _, sec := range d.Secs[:len(d.Secs)+2] {
		out.Secs = append(out.Secs, sec[:len(sec)+spareRoom])
	}
	for i, w := range d.Cache {
		out.Cache = slices.Clone(out.Cache)
		out.Cache[i].B = w.B[:len(w.B)+spareRoom]
	}
	return diskText(out)
}

// overwriteDisk fills a disk, and all the room that came with it.
func overwriteDisk(d impl.Disk) {
	for _, sec := range d.Secs {
		overwrite(sec)
	}
	for _, w := range d.Cache {
		overwrite(w.B)
	}
	for i := range d.Secs[:cap(d.Secs)] {
		d.Secs[:cap(d.Secs)][i] = []byte("gone")
	}
	for i := range d.Cache[:cap(d.Cache)] {
		d.Cache[:cap(d.Cache)][i] = write(77, "gone")
	}
	for i := range d.Faults[:cap(d.Faults)] {
		d.Faults[:cap(d.Faults)][i] = fault(77, 77, 77)
	}
}

// diskMakers has each way to a disk of one, and of bytes.
func diskMakers() map[string]func(d impl.Disk, b []byte) impl.Disk {
	return map[string]func(d impl.Disk, b []byte) impl.Disk{
		"WriteSec": func(d impl.Disk, b []byte) impl.Disk { out, _ := impl.WriteSec(d, 1, b); return out },
		"no WriteSec": func(d impl.Disk, b []byte) impl.Disk {
			out, _ := impl.WriteSec(d, -1, b)
			return out
		},
		"Flush":   func(d impl.Disk, b []byte) impl.Disk { out, _ := impl.Flush(d); return out },
		"TurnOn":  func(d impl.Disk, b []byte) impl.Disk { return impl.TurnOn(d) },
		"DiskNew": func(d impl.Disk, b []byte) impl.Disk { return impl.DiskNew(len(d.Secs), d.Faults) },
	}
}

// someDisks has right ones and wrong ones, among them such whose power goes at once, and keeps and cuts.
func someDisks() map[string]impl.Disk {
	out := goodDisks()
	for what, d := range wrongDisks() {
		out["wrong: "+what] = d
	}
	for keep := range 8 {
		d := diskOf("a", "bb", "", "dddd")
		d.Cache, d.Faults = []impl.Write{write(1, "first"), write(2, "second"), write(1, "third")}, []impl.Fault{fault(0, keep, 2)}
		out[fmt.Sprint("keep ", keep)] = d
	}
	return out
}

func TestDisksAreNewMemory(t *testing.T) {
	for what, d := range someDisks() {
		for name, do := range diskMakers() {
			arg, b := roomyDisk(d), spared("bytes")
			ahead := allDisk(arg)
			second := do(arg, b)
			want := diskText(second)
			if want != diskText(do(diskCopy(d), []byte("bytes"))) {
				t.Errorf("%s, %s: the spare room is read: %s", what, name, want)
			}
			overwriteDisk(do(arg, b))
			untouched(t, what+", "+name, b, "bytes")
			if allDisk(arg) != ahead {
				t.Errorf("%s, %s: the disk turned into %s", what, name, allDisk(arg))
			}
			if diskText(second) != want {
				t.Errorf("%s, %s: two answers share memory", what, name)
			}
			overwrite(b)
			overwriteDisk(arg)
			if diskText(second) != want {
				t.Errorf("%s, %s: the answer shares memory with the argument", what, name)
			}
		}
	}
}

// listsOf has all lists of bytes of one disk.
func listsOf(d impl.Disk) [][]byte {
	out := slices.Clone(d.Secs)
	for _, w := range d.Cache {
		out = append(out, w.B)
	}
	return out
}

// Bytes that an argument has in several places are told apart in the answer.
func TestListsOfOneDiskShareNothing(t *testing.T) {
	one := []byte("one and the same")
	for keep := range 16 {
		d := impl.Disk{Secs: [][]byte{one, one, one, one[:3]}, Cache: []impl.Write{{N: 0, B: one}, {N: 1, B: one}, {N: 0, B: one[:5]}, {N: 2, B: one[4:]}}}
		if keep > 0 {
			d.Faults = []impl.Fault{fault(0, keep, 4)}
		}
		for name, do := range diskMakers() {
			got := do(d, one)
			for i, b := range listsOf(got) {
				for j, other := range listsOf(got) {
					before := string(other)
					overwrite(b)
					if i != j && string(other) != before {
						t.Errorf("%s: %d and %d share memory", name, i, j)
					}
				}
			}
		}
		if string(one) != "one and the same" {
			t.Fatalf("the bytes turned into %q", one)
		}
	}
}

// What was cut off, and what was not kept, is not to be had out of the room behind the lists.
func TestWhatIsLostIsNotHandedOut(t *testing.T) {
	for keep := range 16 {
		d := diskOf("", "", "", "")
		d.Cache, d.Faults = []impl.Write{write(0, "?lost"), write(1, "?lost"), write(0, "?lost")}, []impl.Fault{fault(0, keep, 1)}
		flushed, _ := impl.Flush(d)
		written, _ := impl.WriteSec(d, 3, []byte("?lost"))
		for _, got := range []impl.Disk{flushed, written} {
			got.Cache = got.Cache[:cap(got.Cache)]
			for _, w := range got.Cache {
				if len(w.B) != 0 || w.N != 0 {
					t.Errorf("behind the cache: %d, %q", w.N, w.B)
				}
			}
			for n, sec := range got.Secs {
				if behind := string(sec[len(sec):cap(sec)]); strings.Contains(behind, "lost") {
					t.Errorf("behind the sector %d: %q", n, behind)
				}
			}
		}
	}
}

func TestReadSectorsAreNewMemory(t *testing.T) {
	for what, d := range someDisks() {
		for n := range d.Secs {
			arg := roomyDisk(d)
			ahead := allDisk(arg)
			second, _ := impl.ReadSec(arg, n)
			want := string(second)
			first, _ := impl.ReadSec(arg, n)
			overwrite(first)
			_ = append(first, 0x5a)
			if allDisk(arg) != ahead || string(second) != want {
				t.Errorf("%s: the sector %d is shared", what, n)
			}
			overwriteDisk(arg)
			if string(second) != want {
				t.Errorf("%s: the sector %d turned into %q", what, n, second)
			}
		}
	}
}

// Much that is wrong is told as soon as what is right.
func TestDisksOfVeryMany(t *testing.T) {
	many := make([]impl.Fault, 1000000)
	for i := range many {
		many[i].At = i
	}
	if got := impl.DiskNew(4, many); !isZeroDisk(got) {
		t.Error("a million Faults")
	}
	d := impl.Disk{Secs: make([][]byte, 100000), Cache: make([]impl.Write, 100000)}
	if got, code := impl.WriteSec(d, 0, make([]byte, 100000)); code != impl.CoForm || len(got.Secs) != 100000 || len(got.Cache) != 100000 {
		t.Error("many sectors", code)
	}
	if got, code := impl.Flush(d); code != impl.CoForm || len(got.Secs) != 100000 {
		t.Error("many sectors", code)
	}
}
