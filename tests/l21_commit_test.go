package tests

import (
	"fmt"
	"math/rand"
	"slices"
	"strings"
	"testing"

	"loop.example/g00322/impl"
)

var (
	_ func(impl.Txn) (impl.Disk, int) = impl.Commit
	_ func(impl.Disk) impl.Disk       = impl.Reopen
	_ func(impl.Disk) []impl.Pair     = impl.KeptOf
)

const allKept = 1<<20 - 1

// wordsCommit keeps what is under way by the chapter's words, one operation of the disk behind the other.
func wordsCommit(x impl.Txn) (impl.Disk, int) {
	if !wordsTxnOk(x) || len(x.D.Cache) > 0 || x.M.Gen == 1000000 {
		return x.D, impl.CoForm
	}
	if len(x.New) == 0 && x.Root == x.M.Root {
		return x.D, impl.CoGood
	}
	d, code := diskCopy(x.D), impl.CoGood
	write := func(n int, sec string) {
		if code == impl.CoGood {
			d, code = wordsWriteSec(d, n, sec)
		}
	}
	flush := func() {
		if code == impl.CoGood {
			d, code = wordsFlush(d)
		}
	}
	for _, f := range x.New {
		write(f.N, nodePage(f.X))
	}
	flush()
	gen := x.M.Gen + 1
	write(gen%2, wordsMeta(meta(gen, x.Root)))
	flush()
	if code != impl.CoGood {
		return d, impl.CoDown
	}
	return d, code
}

// wordsReopen has the disk with its power on.
func wordsReopen(d impl.Disk) impl.Disk {
	out := diskCopy(d)
	out.Down = false
	return out
}

func commitAs(t *testing.T, what string, x impl.Txn) (impl.Disk, int) {
	t.Helper()
	want, code := wordsCommit(x)
	got, c := impl.Commit(x)
	if !sameDisk(got, want) || c != code {
		t.Errorf("%s: Commit(%s) = %s, %d, not %s, %d", what, txnText(x), diskText(got), c, diskText(want), code)
	}
	return got, c
}

// commits asks for the code, and what is kept then.
func commits(t *testing.T, what string, x impl.Txn, code int, want []impl.Pair) impl.Disk {
	t.Helper()
	d, c := commitAs(t, what, x)
	if c != code {
		t.Errorf("%s: Commit(%s) = %d, not %d", what, txnText(x), c, code)
	}
	keeps(t, what, d, want)
	return d
}

// commitsNot asks that nothing is done, and why.
func commitsNot(t *testing.T, what string, x impl.Txn, code int) {
	t.Helper()
	commitAs(t, what, x)
	if d, c := impl.Commit(x); c != code || !sameDisk(d, x.D) {
		t.Errorf("%s: Commit(%s) = %s, %d, not %d", what, txnText(x), diskText(d), c, code)
	}
}

// keeps asks what is kept.
func keeps(t *testing.T, what string, d impl.Disk, want []impl.Pair) {
	t.Helper()
	if got := impl.KeptOf(d); !slices.Equal(got, want) {
		t.Errorf("%s: of %s there is kept %q, not %q", what, diskText(d), got, want)
	}
}

// reopens asks that the power is on, and that nothing else turned.
func reopens(t *testing.T, what string, d impl.Disk) impl.Disk {
	t.Helper()
	got := impl.Reopen(d)
	if !sameDisk(got, wordsReopen(d)) || got.Down {
		t.Errorf("%s: Reopen(%s) = %s", what, diskText(d), diskText(got))
	}
	return got
}

// oldPairs is what kept has, newPairs what underWay has.
func oldPairs() []impl.Pair { return pairsOf("a", "1", "b", "2", "m", "3", "z", "4") }
func newPairs() []impl.Pair { return pairsOf("a", "1", "c", "5", "m", "3", "z", "4") }

func TestWhatIsKept(t *testing.T) {
	commits(t, "nothing new", kept(), impl.CoGood, oldPairs())
	d := commits(t, "under way", underWay(), impl.CoGood, newPairs())
	begins(t, "under way", d, meta(2, 2))
	if d.Ops != 5 || len(d.Cache) != 0 || d.Down {
		t.Errorf("%d operations, %d in the cache, %v", d.Ops, len(d.Cache), d.Down)
	}
	x := kept()
	x.Root = 0
	begins(t, "no Root", commits(t, "no Root", x, impl.CoGood, nil), meta(2, 0))
	x.Root = 3
	begins(t, "a kept leaf alone", commits(t, "a kept leaf alone", x, impl.CoGood, oldPairs()[:2]), meta(2, 3))
	x.Root = 4
	begins(t, "a node that nobody kept", commits(t, "a node that nobody kept", x, impl.CoGood, pairsOf("old", "x")), meta(2, 4))
	x.Root, x.New = 2, []impl.Fresh{fresh(2, innerOf(nil, 6))}
	begins(t, "one above", commits(t, "one above", x, impl.CoGood, oldPairs()), meta(2, 2))
	y, _ := impl.Put(impl.TxNew(impl.Format(4, nil)), "a", "1")
	begins(t, "the first one", commits(t, "the first one", y, impl.CoGood, pairsOf("a", "1")), meta(1, 2))
	commits(t, "what is new, over no tree", newTree(leafOf("q", "1")), impl.CoGood, pairsOf("q", "1"))
}

// A Txn need be no tree to be kept: TxnOk is asked, nothing else.
func TestWhatIsKeptThoughItIsNoTree(t *testing.T) {
	for what, x := range unsound() {
		d := commits(t, what, x, impl.CoGood, wordsPairs(x))
		begins(t, what, d, meta(1, 2))
		if impl.TreeOk(impl.TxNew(d)) {
			t.Errorf("%s: it is a tree, kept", what)
		}
	}
}

// Where there is nothing new, nothing is done.
func TestNothingNew(t *testing.T) {
	commitsNot(t, "a new disk", impl.TxNew(impl.Format(4, nil)), impl.CoGood)
	commitsNot(t, "a new disk of 48", impl.TxNew(impl.Format(48, faultLists()[1])), impl.CoGood)
	commitsNot(t, "a tree", kept(), impl.CoGood)
	for what, turn := range map[string]func(d *impl.Disk){
		"off":               func(d *impl.Disk) { d.Down = true },
		"no operation left": func(d *impl.Disk) { d.Ops = 100000 },
		"a Fault at once":   func(d *impl.Disk) { d.Faults = []impl.Fault{fault(0, allKept, 256), fault(1, 0, 0)} },
		"off, none left":    func(d *impl.Disk) { d.Down, d.Ops = true, 100000 },
	} {
		x := kept()
		turn(&x.D)
		commitsNot(t, what, x, impl.CoGood)
		keeps(t, what, x.D, oldPairs())
	}
	d := commits(t, "under way", underWay(), impl.CoGood, newPairs())
	commitsNot(t, "again", impl.TxNew(d), impl.CoGood)
	// New is empty, and so it is not a matter of the tree, but of Root alone.
	x := kept()
	x.Root = 0
	gone := commits(t, "no Root", x, impl.CoGood, nil)
	commitsNot(t, "no Root, again", impl.TxNew(gone), impl.CoGood)
	y := impl.TxNew(gone)
	y.Root = 6
	begins(t, "what was kept ahead", commits(t, "what was kept ahead", y, impl.CoGood, oldPairs()), meta(3, 6))
}

func TestWhatIsNotKept(t *testing.T) {
	for _, c := range wrongTxns() {
		x := underWay()
		c.turn(&x)
		commitsNot(t, c.what, x, impl.CoForm)
	}
	commitsNot(t, "the zero one", impl.Txn{}, impl.CoForm)
	commitsNot(t, "no root", impl.TxNew(impl.DiskNew(8, nil)), impl.CoForm)
	commitsNot(t, "a disk without a root", impl.Txn{D: impl.DiskNew(8, nil)}, impl.CoForm)
	for _, x := range []impl.Txn{kept(), underWay()} {
		for what, l := range map[string][]impl.Write{
			"a Write":                      {write(4, "x")},
			"a Write of nothing":           {write(4, "")},
			"a Write of what is there":     {write(3, nodePage(leafOf("a", "1", "b", "2")))},
			"60 Writes":                    slices.Repeat([]impl.Write{write(4, "x")}, 60),
			"a Write into a new one":       {write(2, "x")},
			"a Write of the root that was": {write(0, wordsMeta(meta(0, 0)))},
		} {
			x.D.Cache = l
			okIs(t, what, x, true)
			commitsNot(t, what, x, impl.CoForm)
			keeps(t, what, x.D, oldPairs())
			flushed, _ := impl.Flush(x.D)
			y := txnCopy(x)
			y.D = flushed
			commits(t, what+", flushed", y, impl.CoGood, wordsPairs(y))
		}
	}
}

func TestTheLastGens(t *testing.T) {
	for _, gen := range []int{127, 128, 16383, 16384, 999997, 999998, 999999, 1000000} {
		for _, x := range []impl.Txn{kept(), underWay()} {
			x.M.Gen = gen
			x.D.Secs[0], x.D.Secs[1] = nil, nil
			x.D.Secs[gen%2] = []byte(wordsMeta(x.M))
			what := fmt.Sprint("Gen is ", gen)
			if gen == 1000000 {
				commitsNot(t, what, x, impl.CoForm)
				continue
			}
			d := commits(t, what, x, impl.CoGood, wordsPairs(x))
			if len(x.New) > 0 {
				begins(t, what, d, meta(gen+1, 2))
			}
		}
	}
	x := underWay()
	x.M.Gen, x.D.Secs[1] = 999999, []byte(wordsMeta(meta(999999, 6)))
	y := impl.TxNew(commits(t, "the last one", x, impl.CoGood, newPairs()))
	commitsNot(t, "behind the last one", y, impl.CoForm)
	y.Root = 0
	commitsNot(t, "behind the last one, no Root", y, impl.CoForm)
	keeps(t, "behind the last one", y.D, newPairs())
}

// Of two at once the one that the chapter names first counts.
func TestWhichCodeOfKeepingCounts(t *testing.T) {
	cached := func(x *impl.Txn) { x.D.Cache = []impl.Write{write(4, "x")} }
	last := func(x *impl.Txn) {
		x.M.Gen, x.D.Secs[0], x.D.Secs[1] = 1000000, []byte(wordsMeta(meta(1000000, 6))), nil
	}
	wrong := func(x *impl.Txn) { x.D.Secs[3] = nil }
	none := func(x *impl.Txn) { x.New, x.Root = nil, x.M.Root }
	off := func(x *impl.Txn) { x.D.Down = true }
	ended := func(x *impl.Txn) { x.D.Ops = 100000 }
	goes := func(x *impl.Txn) { x.D.Faults = []impl.Fault{fault(0, allKept, 256)} }
	for what, c := range map[string]struct {
		turns []func(x *impl.Txn)
		code  int
	}{
		"not right, and Writes":            {[]func(x *impl.Txn){wrong, cached}, impl.CoForm},
		"not right, and the last Gen":      {[]func(x *impl.Txn){last, wrong}, impl.CoForm},
		"not right, and nothing new":       {[]func(x *impl.Txn){none, wrong}, impl.CoForm},
		"not right, and off":               {[]func(x *impl.Txn){wrong, off}, impl.CoForm},
		"not right, and the power goes":    {[]func(x *impl.Txn){wrong, goes}, impl.CoForm},
		"Writes, and the last Gen":         {[]func(x *impl.Txn){last, cached}, impl.CoForm},
		"Writes, and nothing new":          {[]func(x *impl.Txn){none, cached}, impl.CoForm},
		"Writes, and off":                  {[]func(x *impl.Txn){cached, off}, impl.CoForm},
		"Writes, and no operation left":    {[]func(x *impl.Txn){cached, ended}, impl.CoForm},
		"Writes, and the power goes":       {[]func(x *impl.Txn){cached, goes}, impl.CoForm},
		"the last Gen, and nothing new":    {[]func(x *impl.Txn){last, none}, impl.CoForm},
		"the last Gen, and off":            {[]func(x *impl.Txn){last, off}, impl.CoForm},
		"the last Gen, and the power goes": {[]func(x *impl.Txn){last, goes}, impl.CoForm},
		"nothing new, and off":             {[]func(x *impl.Txn){none, off}, impl.CoGood},
		"nothing new, none left":           {[]func(x *impl.Txn){none, ended}, impl.CoGood},
		"nothing new, and the power goes":  {[]func(x *impl.Txn){none, goes}, impl.CoGood},
		"off, and none left":               {[]func(x *impl.Txn){off, ended}, impl.CoDown},
		"off, and the power would go":      {[]func(x *impl.Txn){off, goes}, impl.CoDown},
		"all at once":                      {[]func(x *impl.Txn){last, none, cached, wrong, ended, goes}, impl.CoForm},
	} {
		x := underWay()
		for _, turn := range c.turns {
			turn(&x)
		}
		commitsNot(t, what, x, c.code)
	}
}

// hasSecs asks that a disk has the sectors of another one but for these.
func hasSecs(t *testing.T, what string, d impl.Disk, ahead impl.Disk, turned map[int]string) {
	t.Helper()
	for n, sec := range ahead.Secs {
		want, isTurned := turned[n]
		if !isTurned {
			want = string(sec)
		}
		if string(d.Secs[n]) != want {
			t.Errorf("%s: the sector %d has %q, not %q", what, n, d.Secs[n], want)
		}
	}
	if len(d.Secs) != len(ahead.Secs) {
		t.Errorf("%s: %d sectors", what, len(d.Secs))
	}
}

// downAt has the disk that a Commit leaves whose power goes at this one of its operations.
func downAt(t *testing.T, x impl.Txn, at int, keep int, cut int) impl.Disk {
	t.Helper()
	x = txnCopy(x)
	x.D.Faults = []impl.Fault{fault(x.D.Ops+at, keep, cut)}
	d, code := commitAs(t, fmt.Sprint("the power goes at ", at), x)
	if code != impl.CoDown || !d.Down || len(d.Cache) > 0 || d.Ops != x.D.Ops+at+1 {
		t.Errorf("the power goes at %d: %d, %s", at, code, diskText(d))
	}
	return d
}

// What is written first is told by where the power goes, and what of the cache is kept: the nodes in order, and the root behind a Flush.
func TestWhatIsWrittenFirst(t *testing.T) {
	x := underWay()
	first, second, root := nodePage(x.New[0].X), nodePage(x.New[1].X), wordsMeta(meta(2, 2))
	for _, c := range []struct {
		at     int
		keep   int
		turned map[int]string
	}{
		{0, 0, nil},
		{1, 0, nil},
		{2, 0, nil},
		{3, 0, map[int]string{2: first, 11: second}},
		{4, 0, map[int]string{2: first, 11: second}},
		{0, 1, map[int]string{2: first}},
		{1, 1, map[int]string{2: first}},
		{2, 1, map[int]string{2: first}},
		{3, 1, map[int]string{2: first, 11: second, 0: root}},
		{4, 1, map[int]string{2: first, 11: second, 0: root}},
		{0, 2, nil},
		{1, 2, map[int]string{11: second}},
		{2, 2, map[int]string{11: second}},
		{3, 2, map[int]string{2: first, 11: second}},
		{4, 2, map[int]string{2: first, 11: second}},
		{0, allKept, map[int]string{2: first}},
		{1, allKept, map[int]string{2: first, 11: second}},
		{2, allKept, map[int]string{2: first, 11: second}},
		{3, allKept, map[int]string{2: first, 11: second, 0: root}},
		{4, allKept, map[int]string{2: first, 11: second, 0: root}},
		{2, allKept - 3, nil},
		{4, allKept - 1, map[int]string{2: first, 11: second}},
	} {
		hasSecs(t, fmt.Sprint("at ", c.at, ", kept ", c.keep), downAt(t, x, c.at, c.keep, 256), x.D, c.turned)
	}
	x.D.Faults = []impl.Fault{fault(5, 0, 0)}
	hasSecs(t, "behind all", commits(t, "behind all", x, impl.CoGood, newPairs()), x.D, map[int]string{2: first, 11: second, 0: root})
}

// What is in the cache at each operation is told by a disk that has no more of them.
func TestKeepingAtTheLastOperations(t *testing.T) {
	x := underWay()
	first, second, root := write(2, nodePage(x.New[0].X)), write(11, nodePage(x.New[1].X)), write(0, wordsMeta(meta(2, 2)))
	flushed := map[int]string{2: string(first.B), 11: string(second.B)}
	for left, c := range []struct {
		cache  []impl.Write
		turned map[int]string
		pairs  []impl.Pair
	}{
		{nil, nil, oldPairs()},
		{[]impl.Write{first}, nil, oldPairs()},
		{[]impl.Write{first, second}, nil, oldPairs()},
		{nil, flushed, oldPairs()},
		{[]impl.Write{root}, flushed, newPairs()},
	} {
		what := fmt.Sprint(left, " operations are left")
		x.D.Ops = 100000 - left
		d := commits(t, what, x, impl.CoDown, c.pairs)
		hasSecs(t, what, d, x.D, c.turned)
		want := impl.Disk{Cache: c.cache, Ops: 100000}
		if got := (impl.Disk{Cache: d.Cache, Ops: d.Ops, Down: d.Down}); !sameDisk(got, want) {
			t.Errorf("%s: %s", what, diskText(got))
		}
		// What the power takes with the cache is not kept, whole or not at all.
		d.Cache = nil
		keeps(t, what+", without the cache", d, oldPairs())
	}
	for left := 5; left < 8; left++ {
		x.D.Ops = 100000 - left
		begins(t, "enough are left", commits(t, "enough are left", x, impl.CoGood, newPairs()), meta(2, 2))
	}
	// An operation more than are left of what needs two: a root alone.
	y := kept()
	y.Root = 9
	for left, code := range []int{impl.CoDown, impl.CoDown, impl.CoDown, impl.CoGood} {
		y.D.Ops = 100000 - left
		d, c := commitAs(t, "a root alone", y)
		if c != code || d.Ops != 100000 {
			t.Errorf("a root alone, %d operations are left: %d, %s", left, c, diskText(d))
		}
	}
}

// Of each number of new nodes each is a Write, in order, and there are two Flushes and one Write more.
func TestHowManyOperationsThereAre(t *testing.T) {
	for n := range 47 {
		x := impl.TxNew(impl.Format(48, nil))
		x.D.Ops = 7
		if n == 0 {
			x = kept()
			x.Root, x.D.Ops = 0, 7
		} else {
			x.Root, x.New = 2, chain(upToKids(n, 2)...)
		}
		d, code := commitAs(t, fmt.Sprint(n, " new"), x)
		if code != impl.CoGood || d.Ops != 7+n+3 || len(d.Cache) > 0 {
			t.Errorf("%d new: %d, %s", n, code, diskText(d))
		}
		for at := range n {
			turned := map[int]string{}
			for i := range at + 1 {
				if i < 20 { // what stands behind the first twenty has no bit
					turned[x.New[i].N] = nodePage(x.New[i].X)
				}
			}
			hasSecs(t, fmt.Sprint(n, " new, at ", at), downAt(t, x, at, allKept, 256), x.D, turned)
		}
		hasSecs(t, fmt.Sprint(n, " new, at the first Flush"), downAt(t, x, n, 0, 256), x.D, nil)
	}
}

// cuts has each place where a Write may be cut.
func cuts() []int { return upToKids(257, 0) }

// Wherever the power goes, and whatever is kept of the cache, what is kept is the tree ahead, or the one behind, whole.
func TestWhatIsKeptWhereThePowerGoes(t *testing.T) {
	x := underWay()
	root := len(wordsMeta(meta(2, 2)))
	for at := range 5 {
		for _, keep := range []int{0, 1, 2, 3, 4, allKept, allKept - 1} {
			for _, cut := range cuts() {
				what := fmt.Sprintf("at %d, kept %d, cut at %d", at, keep, cut)
				want, best := oldPairs(), meta(1, 6)
				if at >= 3 && keep%2 == 1 && cut >= root {
					want, best = newPairs(), meta(2, 2)
				}
				d := downAt(t, x, at, keep, cut)
				keeps(t, what+", off", d, want)
				d = reopens(t, what, d)
				keeps(t, what, d, want)
				begins(t, what, d, best)
				treeIs(t, what, impl.TxNew(d), true)
			}
			if t.Failed() {
				t.FailNow()
			}
		}
	}
}

// aheadAndBehind has Txns whose Commit makes a root at the edges of what a root may be.
func aheadAndBehind() map[string]impl.Txn {
	first, _ := impl.Put(impl.TxNew(impl.Format(4, nil)), "a", "1")
	emptied := kept()
	emptied.Root = 0
	one := kept()
	one.Root = 9
	large := underWay()
	large.M.Gen = 16383
	large.D.Secs[1] = []byte(wordsMeta(large.M))
	last := underWay()
	last.M.Gen = 999999
	last.D.Secs[1] = []byte(wordsMeta(last.M))
	second, _ := impl.Commit(first)
	next, _ := impl.Put(impl.TxNew(second), "b", "2")
	gone, _ := impl.Del(impl.TxNew(second), "a")
	grown, _ := impl.Put(threeKept(), "b", "9")
	return map[string]impl.Txn{"the first one": first, "nothing any more": emptied, "a root alone": one, "a long Gen": large, "the last Gen": last, "the second one": next, "taken away": gone, "three levels": grown}
}

func TestWhatIsKeptOfOtherRoots(t *testing.T) {
	for what, x := range aheadAndBehind() {
		old, next := wordsPairs(impl.TxNew(x.D)), wordsPairs(x)
		n, root := len(x.New), len(wordsMeta(meta(x.M.Gen+1, x.Root)))
		if slices.Equal(old, next) {
			t.Errorf("%s: nothing turns", what)
		}
		commits(t, what, x, impl.CoGood, next)
		for at := range n + 3 {
			for keep := range 1 << min(n+1, 5) {
				for _, cut := range []int{0, 1, root - 1, root, 256} {
					want := old
					if at > n && keep%2 == 1 && cut >= root {
						want = next
					}
					keeps(t, fmt.Sprintf("%s, at %d, kept %d, cut at %d", what, at, keep, cut), reopens(t, what, downAt(t, x, at, keep, cut)), want)
				}
			}
		}
	}
}

// Of the last Flush: it was asked, so it is not told good, but what is kept may be there.
func TestThePowerGoesAtTheLastFlush(t *testing.T) {
	for what, x := range aheadAndBehind() {
		n := len(x.New)
		there := reopens(t, what, downAt(t, x, n+2, 1, 256))
		keeps(t, what+", kept", there, wordsPairs(x))
		begins(t, what+", kept", there, meta(x.M.Gen+1, x.Root))
		lost := reopens(t, what, downAt(t, x, n+2, allKept-1, 256))
		keeps(t, what+", lost", lost, wordsPairs(impl.TxNew(x.D)))
		begins(t, what+", lost", lost, x.M)
		// What was kept ahead of it is on the disk in both.
		for _, f := range x.New {
			for _, d := range []impl.Disk{there, lost} {
				isAtNode(t, what, impl.TxNew(d), f.N, f.X)
			}
		}
	}
}

// The Commit behind one that went wrong keeps all of it, whatever is there of the first one.
func TestKeepingAgain(t *testing.T) {
	for what, x := range aheadAndBehind() {
		n, root := len(x.New), len(wordsMeta(meta(x.M.Gen+1, x.Root)))
		for at := range n + 3 {
			for _, keep := range []int{0, 1, 2, allKept} {
				for _, cut := range []int{0, 1, root - 1, 256} {
					d := downAt(t, x, at, keep, cut)
					again := txnCopy(x)
					again.D = diskCopy(d)
					if at <= n || keep%2 == 0 || cut < root {
						commitsNot(t, what+", off", again, impl.CoDown)
						again.D = reopens(t, what, d)
						begins(t, what+", again", commits(t, what+", again", again, impl.CoGood, wordsPairs(x)), meta(x.M.Gen+1, x.Root))
						continue
					}
					// It is kept, so the Txn of the one ahead is not right any more, and nothing is new.
					commitsNot(t, what+", kept, and off", again, impl.CoForm)
					again.D = reopens(t, what, d)
					commitsNot(t, what+", kept", again, impl.CoForm)
					commitsNot(t, what+", kept, begun anew", impl.TxNew(again.D), map[int]int{999999: impl.CoForm}[x.M.Gen])
				}
			}
		}
	}
}

// One that ended without the power leaves Writes in the cache: they are to be flushed, or lost, first.
func TestKeepingBehindTheLastOperation(t *testing.T) {
	x := underWay()
	x.D.Ops = 99998
	d := commits(t, "two are left", x, impl.CoDown, oldPairs())
	commitsNot(t, "Writes are left", impl.Txn{D: d, M: x.M, Root: x.Root, New: x.New}, impl.CoForm)
	commitsNot(t, "Writes are left, begun anew", impl.TxNew(d), impl.CoForm)
	keeps(t, "on as it was", reopens(t, "on as it was", d), oldPairs())
}

// Two powers go one behind the other, in one Commit, in two, and at the first operation that is there again.
func TestTwoPowers(t *testing.T) {
	root := len(wordsMeta(meta(2, 2)))
	for first := range 5 {
		for second := first + 1; second < 12; second++ {
			for kept := range 16 {
				for _, cut := range []int{0, root - 1, root, 256} {
					twoPowers(t, []impl.Fault{fault(first, kept%4, cut), fault(second, kept/4, cut)})
				}
			}
		}
	}
}

// twoPowers keeps what is under way, again and again, and asks for what is kept each time.
func twoPowers(t *testing.T, l []impl.Fault) {
	t.Helper()
	x := underWay()
	x.D.Faults = l
	downs := 0
	for i := range 3 {
		d, code := commitAs(t, fmt.Sprint(l), x)
		want := oldPairs()
		if code == impl.CoDown {
			downs++
			f := l[downs-1]
			if f.At-x.D.Ops >= 3 && f.Keep%2 == 1 && f.Cut >= len(wordsMeta(meta(2, 2))) {
				want = newPairs()
			}
		} else {
			want = newPairs()
		}
		d = reopens(t, fmt.Sprint(l), d)
		keeps(t, fmt.Sprint(l, ", the Commit ", i), d, want)
		if slices.Equal(want, newPairs()) {
			commitsNot(t, fmt.Sprint(l, ", all of it is kept"), impl.TxNew(d), impl.CoGood)
			return
		}
		x.D = d
	}
	t.Errorf("%v: it is not kept, %d went wrong", l, downs)
}

// A sector that is bent since it was written is not read: of a root the one ahead counts, of nodes nothing is there.
func TestSectorsThatAreBent(t *testing.T) {
	ahead := commits(t, "under way", underWay(), impl.CoGood, newPairs())
	want := map[int][]impl.Pair{0: oldPairs(), 2: nil, 9: newPairs()[:2], 11: newPairs()[2:]}
	for n, sec := range ahead.Secs {
		for i := range sec {
			for bit := range 8 {
				d := diskCopy(ahead)
				d.Secs[n][i] ^= 1 << bit
				what := fmt.Sprintf("the sector %d, bent at %d, %d", n, i, bit)
				pairs, isRead := want[n]
				if !isRead {
					pairs = newPairs()
				}
				keeps(t, what, reopens(t, what, d), pairs)
				x := impl.TxNew(d)
				okIs(t, what, x, n != 2 && n != 9 && n != 11)
				x.Root = 0
				if n == 2 || n == 9 || n == 11 {
					commitsNot(t, what, x, impl.CoForm)
				} else {
					commits(t, what, x, impl.CoGood, nil)
				}
			}
		}
		if t.Failed() {
			t.FailNow()
		}
	}
	both := diskCopy(ahead)
	both.Secs[0][0] ^= 1
	both.Secs[1][0] ^= 1
	keeps(t, "both roots are bent", both, nil)
	commitsNot(t, "both roots are bent", impl.TxNew(both), impl.CoForm)
	// Bent under way, ahead of the Commit: what is led to counts, what is free does not.
	for n := range 12 {
		x := underWay()
		if len(x.D.Secs[n]) > 0 {
			x.D.Secs[n][0] ^= 4
		}
		d, code := commitAs(t, fmt.Sprint("bent ahead: ", n), x)
		if code != map[bool]int{true: impl.CoForm}[slices.Contains([]int{1, 3, 6, 9}, n)] {
			t.Errorf("bent ahead: %d: %d, %s", n, code, diskText(d))
		}
	}
}

func TestKeptPairs(t *testing.T) {
	keeps(t, "a new disk", impl.Format(4, nil), nil)
	keeps(t, "a tree", keptDisk(), oldPairs())
	keeps(t, "no root", impl.DiskNew(4, nil), nil)
	keeps(t, "the zero disk", impl.Disk{}, nil)
	without := keptDisk()
	without.Secs[0], without.Secs[1] = nil, nil
	keeps(t, "a tree without a root", without, nil)
	without.Secs[0], without.Secs[1] = []byte(wordsMeta(meta(1, 6))), []byte(wordsMeta(meta(2, 6)))
	keeps(t, "each root in the other's sector", without, nil)
	off := keptDisk()
	off.Down, off.Ops = true, 100000
	keeps(t, "off", off, oldPairs())
	cached := keptDisk()
	cached.Cache = []impl.Write{write(9, nodePage(leafOf("n", "5")))}
	keeps(t, "a leaf in the cache", cached, pairsOf("a", "1", "b", "2", "n", "5"))
	cached.Cache = append(cached.Cache, write(0, wordsMeta(meta(2, 9))))
	keeps(t, "the root in the cache", cached, pairsOf("n", "5"))
	cached.Ops = -1
	keeps(t, "the root in the cache of what is not right", cached, pairsOf("n", "5"))
	for what, d := range someDisks() {
		keeps(t, what, d, wordsPairs(impl.TxNew(d)))
	}
}

func TestReopening(t *testing.T) {
	for what, d := range someDisks() {
		for _, down := range []bool{true, false} {
			d := diskCopy(d)
			d.Down = down
			got := reopens(t, what, d)
			if again := impl.Reopen(got); !sameDisk(again, got) {
				t.Errorf("%s: on twice: %s, not %s", what, diskText(again), diskText(got))
			}
			if !sameDisk(got, impl.TurnOn(d)) {
				t.Errorf("%s: Reopen is no TurnOn: %s", what, diskText(got))
			}
		}
	}
	reopens(t, "the zero disk", impl.Disk{})
	reopens(t, "the zero disk, off", impl.Disk{Down: true})
	d := keptDisk()
	d.Cache, d.Faults, d.Ops = []impl.Write{write(4, "x"), write(9, "")}, faultLists()[3], 100000
	reopens(t, "on, with Writes", d)
	keeps(t, "on, with Writes", impl.Reopen(d), oldPairs()[:2])
	r := rand.New(rand.NewSource(210))
	for range 300 {
		reopens(t, "some", someDisk(r))
	}
}

func TestKeepingByTheWords(t *testing.T) {
	r := rand.New(rand.NewSource(21))
	codes := map[int]int{}
	for range 3000 {
		x := someTxn(r)
		if r.Intn(2) == 0 {
			x.D.Cache = nil
			m, _ := wordsBest(x.D)
			x.M = m
		}
		if r.Intn(2) == 0 {
			x.D.Faults = []impl.Fault{fault(r.Intn(8), r.Intn(64), r.Intn(257))}
		}
		d, code := commitAs(t, "some", x)
		codes[code]++
		keeps(t, "some", d, wordsPairs(impl.TxNew(d)))
		keeps(t, "some, as it was", x.D, wordsPairs(impl.TxNew(x.D)))
		if t.Failed() {
			t.FailNow()
		}
	}
	for what, d := range someDisks() {
		commitAs(t, what, impl.TxNew(d))
		commitAs(t, what, impl.Txn{D: d, Root: 2, New: []impl.Fresh{fresh(2, leafOf("a", "1"))}})
	}
	if codes[impl.CoGood] < 300 || codes[impl.CoForm] < 300 || codes[impl.CoDown] < 200 {
		t.Errorf("the codes %v", codes)
	}
}

// someFaults goes off often enough that most Commits meet one.
func someFaults(r *rand.Rand) []impl.Fault {
	var out []impl.Fault
	at := 0
	for range 20 {
		at += 1 + r.Intn(25)
		keep := []int{0, allKept, r.Intn(allKept + 1), r.Intn(16)}[r.Intn(4)]
		out = append(out, fault(at, keep, []int{0, 256, r.Intn(257), r.Intn(12)}[r.Intn(4)]))
	}
	return out
}

// Long runs of Commits, the power going in between: each is told good and kept, or what is kept is the tree ahead or the one behind.
func TestManyCommits(t *testing.T) {
	r := rand.New(rand.NewSource(2100))
	codes, sides := map[int]int{}, map[string]int{}
	for range 60 {
		d, held := impl.Format(8+r.Intn(41), someFaults(r)), []impl.Pair{}
		for range 25 {
			x, has := impl.TxNew(d), held
			for range 1 + r.Intn(5) {
				key, val := somePut(r, x)
				y, code := impl.Put(x, key, val)
				if r.Intn(3) == 0 {
					key = someDel(r, x)
					if y, code = impl.Del(x, key); code == impl.CoGood {
						has = withoutPair(has, key)
					}
				} else if code == impl.CoGood {
					has = withPair(has, key, val)
				}
				x = y
			}
			next, code := commitAs(t, "many", x)
			codes[code]++
			next = reopens(t, "many", next)
			got := impl.KeptOf(next)
			switch {
			case code == impl.CoGood && !slices.Equal(got, has):
				t.Errorf("it was told good, but there is kept %q, not %q", got, has)
			case slices.Equal(got, has):
				sides[fmt.Sprint("behind ", code)]++
			case slices.Equal(got, held):
				sides[fmt.Sprint("ahead ", code)]++
			default:
				t.Errorf("there is kept %q, neither %q nor %q", got, held, has)
			}
			treeIs(t, "many", impl.TxNew(next), true)
			d, held = next, got
			if t.Failed() {
				t.FailNow()
			}
		}
	}
	if codes[impl.CoGood] < 500 || sides[fmt.Sprint("ahead ", impl.CoDown)] < 200 || sides[fmt.Sprint("behind ", impl.CoDown)] < 30 {
		t.Errorf("the codes %v, %v", codes, sides)
	}
}

// What was asked ahead leaves nothing behind.
func TestKeepingKeepsNothing(t *testing.T) {
	for _, c := range wrongTxns() {
		x := underWay()
		c.turn(&x)
		impl.Commit(x)
		impl.KeptOf(impl.Reopen(x.D))
		commits(t, "behind "+c.what, underWay(), impl.CoGood, newPairs())
	}
	for at := range 5 {
		downAt(t, underWay(), at, 1, 9)
		commits(t, fmt.Sprint("behind one that went wrong at ", at), underWay(), impl.CoGood, newPairs())
	}
}

// someCommits has Txns that are kept, that are not, and in whose midst the power goes.
func someCommits() []impl.Txn {
	out := someTxns()
	for _, x := range aheadAndBehind() {
		out = append(out, x)
	}
	for at := range 5 {
		for _, keep := range []int{0, 1, 2, allKept} {
			x := underWay()
			x.D.Faults = []impl.Fault{fault(at, keep, 4)}
			ended := underWay()
			ended.D.Ops = 100000 - at
			out = append(out, x, ended)
		}
	}
	return out
}

// Neither is what is kept written to, nor is the room behind it read.
func TestKeepingWritesNothing(t *testing.T) {
	for _, x := range someCommits() {
		roomy := roomyTxn(txnCopy(x))
		ahead := allTxn(roomy)
		commitAs(t, "with room behind", roomy)
		reopens(t, "with room behind", roomy.D)
		keeps(t, "with room behind", roomy.D, wordsPairs(impl.TxNew(x.D)))
		if got := allTxn(roomy); got != ahead {
			t.Errorf("the Txn %s turned into %s", ahead, got)
		}
	}
}

// Neither is what is kept written to, nor does the disk share memory with it.
func TestWhatIsKeptIsNewMemory(t *testing.T) {
	for _, x := range someCommits() {
		for name, do := range map[string]func(x impl.Txn) impl.Disk{
			"Commit": func(x impl.Txn) impl.Disk { d, _ := impl.Commit(x); return d },
			"Reopen": func(x impl.Txn) impl.Disk { return impl.Reopen(x.D) },
		} {
			arg := roomyTxn(txnCopy(x))
			ahead := allTxn(arg)
			second := do(arg)
			want := diskText(second)
			overwriteDisk(do(arg))
			if allTxn(arg) != ahead || diskText(second) != want {
				t.Errorf("%s: the disk shares memory: %s, %s", name, allTxn(arg), diskText(second))
			}
			overwriteTxn(arg)
			if diskText(second) != want {
				t.Errorf("%s: the disk shares memory with the Txn: %s, not %s", name, diskText(second), want)
			}
		}
	}
}

func TestKeptPairsAreNewMemory(t *testing.T) {
	for _, x := range someCommits() {
		arg := roomyDisk(x.D)
		ahead := allDisk(arg)
		second := impl.KeptOf(arg)
		want := fmt.Sprintf("%q", second)
		fillPairs(impl.KeptOf(arg))
		if allDisk(arg) != ahead || fmt.Sprintf("%q", second) != want {
			t.Errorf("the pairs share memory: %s, %q", allDisk(arg), second)
		}
		overwriteDisk(arg)
		if fmt.Sprintf("%q", second) != want {
			t.Errorf("the pairs share memory with the disk: %q, not %s", second, want)
		}
	}
}

// Bytes that an argument has in several places are told apart in the answer.
func TestListsOfWhatIsKeptShareNothing(t *testing.T) {
	one := []byte(wordsMeta(meta(0, 0)))
	shared := impl.TxNew(impl.Format(9, nil))
	shared.D.Secs = [][]byte{one, one, one, one, one, one}
	shared.Root, shared.New = 2, []impl.Fresh{fresh(2, leafOf("a", "1"))}
	all := append(someCommits(), shared, impl.TxNew(shared.D))
	for at := range 4 {
		x := txnCopy(shared)
		x.D.Secs, x.D.Faults = [][]byte{one, one, one, one, one, one}, []impl.Fault{fault(at, allKept, 256)}
		cached := txnCopy(x)
		cached.D.Secs, cached.D.Cache = x.D.Secs, []impl.Write{{N: 4, B: one}, {N: 4, B: one}}
		all = append(all, x, cached)
	}
	for _, x := range all {
		kept, code := impl.Commit(x)
		for _, d := range []impl.Disk{kept, impl.Reopen(x.D)} {
			lists := listsOf(d)
			for i, b := range lists {
				ahead := fmt.Sprintf("%q", lists[i+1:])
				overwrite(b)
				if got := fmt.Sprintf("%q", lists[i+1:]); got != ahead {
					t.Errorf("%d: the list %d shares memory with one behind it: %s", code, i, got)
				}
			}
		}
		if string(one) != wordsMeta(meta(0, 0)) {
			t.Fatalf("the bytes turned into %q", one)
		}
	}
}

// Nothing stands behind the lists of an answer: what was cut off, or lost, is not to be had.
func TestNothingStandsBehindWhatIsKept(t *testing.T) {
	for _, x := range someCommits() {
		kept, code := impl.Commit(roomyTxn(txnCopy(x)))
		for _, d := range []impl.Disk{kept, impl.Reopen(roomyDisk(x.D))} {
			for _, b := range listsOf(d) {
				if room := string(b[len(b):cap(b)]); strings.Trim(room, "\x00") != "" {
					t.Errorf("%d: behind %q stands %q", code, b, room)
				}
			}
			for _, w := range d.Cache[len(d.Cache):cap(d.Cache)] {
				if w.N != 0 || len(w.B) > 0 {
					t.Errorf("%d: behind the cache stands %d, %q", code, w.N, w.B)
				}
			}
			for _, sec := range d.Secs[len(d.Secs):cap(d.Secs)] {
				if len(sec) > 0 {
					t.Errorf("%d: behind the sectors stands %q", code, sec)
				}
			}
			for _, f := range d.Faults[len(d.Faults):cap(d.Faults)] {
				if f != (impl.Fault{}) {
					t.Errorf("%d: behind the Faults stands %v", code, f)
				}
			}
		}
	}
}

// Much that is wrong comes to an end, too.
func TestKeepingVeryMany(t *testing.T) {
	const many = 200000
	x := newTree()
	x.New = chain(upToKids(many, 2)...)
	if d, code := impl.Commit(x); code != impl.CoForm || !sameDisk(d, x.D) {
		t.Errorf("one below the other: %d", code)
	}
	x.New = []impl.Fresh{fresh(2, innerOf(nil, slices.Repeat([]int{3, 2}, many)...)), fresh(3, leafOf("a", "1"))}
	if d, code := impl.Commit(x); code != impl.CoForm || !sameDisk(d, x.D) {
		t.Errorf("many kids: %d", code)
	}
	d := kept().D
	d.Secs = append(d.Secs, make([][]byte, many)...)
	d.Cache = slices.Repeat([]impl.Write{write(4, "x")}, many)
	keeps(t, "many sectors, and many Writes", d, oldPairs())
	if got := impl.Reopen(d); len(got.Secs) != many+12 || len(got.Cache) != many {
		t.Errorf("many sectors: %d, %d", len(got.Secs), len(got.Cache))
	}
	commitsNot(t, "many sectors, and many Writes", impl.TxNew(impl.Disk{Secs: d.Secs[:60]}), impl.CoForm)
}
