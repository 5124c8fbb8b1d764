package tests

import (
	"fmt"
	"math"
	"math/rand"
	"slices"
	"strings"
	"testing"

	"loop.example/g00322/impl"
)

var (
	_ func(impl.Disk) impl.Txn              = impl.TxNew
	_ func(impl.Txn, int) (impl.Node, bool) = impl.NodeAt
	_ func(impl.Txn, int) []int             = impl.PagesOf
	_ func(impl.Txn) []int                  = impl.FreeOf
	_ func(impl.Txn) bool                   = impl.TxnOk
	_ struct {
		N int
		X impl.Node
	} = struct {
		N int
		X impl.Node
	}(impl.Fresh{})
	_ struct {
		D    impl.Disk
		M    impl.Meta
		Root int
		New  []impl.Fresh
	} = struct {
		D    impl.Disk
		M    impl.Meta
		Root int
		New  []impl.Fresh
	}(impl.Txn{})
)

func fresh(n int, x impl.Node) impl.Fresh { return impl.Fresh{N: n, X: x} }

// txnText has all of a Txn as one text, in which an empty list and nil are the same.
func txnText(x impl.Txn) string {
	var b strings.Builder
	for _, f := range x.New {
		fmt.Fprintf(&b, "%d<-%s ", f.N, nodeText(f.X))
	}
	return fmt.Sprintf("%s %v %d %s", diskText(x.D), x.M, x.Root, b.String())
}

func isZeroTxn(x impl.Txn) bool { return txnText(x) == txnText(impl.Txn{}) }

// txnCopy has a Txn that shares nothing with x.
func txnCopy(x impl.Txn) impl.Txn {
	out := impl.Txn{D: diskCopy(x.D), M: x.M, Root: x.Root}
	for _, f := range x.New {
		out.New = append(out.New, fresh(f.N, nodeCopy(f.X)))
	}
	return out
}

// nodePage has the page of any node, whether it is right or not.
func nodePage(x impl.Node) string { return wordsPage(1, wordsBody(x)) }

// rootDisk has these sectors behind a root of the first Gen of sector 1, and the first of all.
func rootDisk(root int, secs ...string) impl.Disk {
	return diskOf(append([]string{wordsMeta(meta(0, 0)), wordsMeta(meta(1, root))}, secs...)...)
}

// keptDisk has a tree of 6, 3 and 9, of which nobody leads to the nodes 4 and 5, and to what is no node.
func keptDisk() impl.Disk {
	return rootDisk(6,
		"",
		nodePage(leafOf("a", "1", "b", "2")),
		nodePage(leafOf("old", "x")),
		nodePage(innerOf(nil, 3)),
		nodePage(innerOf(texts("m"), 3, 9)),
		wordsMeta(meta(9, 4)),
		wordsPage(1, "\x02\x01"),
		nodePage(leafOf("m", "3", "z", "4")),
		nodePage(leafOf("cut", "x"))[:9],
		"")
}

// kept is what is kept on keptDisk, with nothing new.
func kept() impl.Txn { return impl.Txn{D: keptDisk(), M: meta(1, 6), Root: 6} }

// underWay has a new leaf in 11, and a new root in 2, that shares the leaf 9 with what is kept.
func underWay() impl.Txn {
	x := kept()
	x.Root = 2
	x.New = []impl.Fresh{fresh(2, innerOf(texts("m"), 11, 9)), fresh(11, leafOf("a", "1", "c", "5"))}
	return x
}

// wordsNodeAt has the node of a sector by the chapter's words.
func wordsNodeAt(x impl.Txn, n int) (impl.Node, bool) {
	for _, f := range x.New {
		if f.N == n {
			return f.X, true
		}
	}
	sec, _ := wordsReadSec(x.D, n)
	if k, body, _ := pageRead(sec); k == 1 {
		return nodeRead(body)
	}
	return impl.Node{}, false
}

// wordsLedTo has all sectors that are led to, whether a node is there or not: it asks until no more come.
func wordsLedTo(x impl.Txn, root int) []int {
	if root == 0 {
		return nil
	}
	all := []int{root}
	for {
		more := slices.Clone(all)
		for _, n := range all {
			node, _ := wordsNodeAt(x, n)
			more = append(more, node.Kids...)
		}
		slices.Sort(more)
		more = slices.Compact(more)
		if slices.Equal(more, all) {
			return all
		}
		all = more
	}
}

func wordsPages(x impl.Txn, root int) []int {
	return slices.DeleteFunc(wordsLedTo(x, root), func(n int) bool { _, there := wordsNodeAt(x, n); return !there })
}

// onDisk is what the disk has alone.
func onDisk(x impl.Txn) impl.Txn { return impl.Txn{D: x.D, M: x.M, Root: x.M.Root} }

func newSecs(x impl.Txn) []int {
	var out []int
	for _, f := range x.New {
		out = append(out, f.N)
	}
	return out
}

func wordsFree(x impl.Txn) []int {
	var out []int
	taken := append(newSecs(x), wordsPages(onDisk(x), x.M.Root)...)
	for n := range x.D.Secs {
		if n >= 2 && !slices.Contains(taken, n) {
			out = append(out, n)
		}
	}
	return out
}

func wordsTxnOk(x impl.Txn) bool {
	m, ok := wordsBest(x.D)
	ok = ok && wordsDiskOk(x.D) && m == x.M
	for i, f := range x.New {
		ok = ok && (i == 0 || x.New[i-1].N < f.N)
		ok = ok && slices.Contains(wordsFree(onDisk(x)), f.N)
		ok = ok && wordsNodeOk(f.X)
		ok = ok && slices.Contains(wordsPages(x, x.Root), f.N)
	}
	ok = ok && len(wordsPages(x, x.Root)) == len(wordsLedTo(x, x.Root))
	return ok && len(wordsPages(onDisk(x), x.M.Root)) == len(wordsLedTo(onDisk(x), x.M.Root))
}

func isAtNode(t *testing.T, what string, x impl.Txn, n int, want impl.Node) {
	t.Helper()
	if got, ok := impl.NodeAt(x, n); nodeText(got) != nodeText(want) || !ok {
		t.Errorf("%s: NodeAt(%s, %d) = %s, %v, not %s", what, txnText(x), n, nodeText(got), ok, nodeText(want))
	}
}

func hasNoNode(t *testing.T, what string, x impl.Txn, n int) {
	t.Helper()
	if got, ok := impl.NodeAt(x, n); nodeText(got) != nodeText(impl.Node{}) || ok {
		t.Errorf("%s: NodeAt(%s, %d) = %s, %v", what, txnText(x), n, nodeText(got), ok)
	}
}

func leadsTo(t *testing.T, what string, x impl.Txn, root int, want ...int) {
	t.Helper()
	if got := impl.PagesOf(x, root); !slices.Equal(got, want) {
		t.Errorf("%s: PagesOf(%s, %d) = %v, not %v", what, txnText(x), root, got, want)
	}
}

func hasFree(t *testing.T, what string, x impl.Txn, want ...int) {
	t.Helper()
	if got := impl.FreeOf(x); !slices.Equal(got, want) {
		t.Errorf("%s: FreeOf(%s) = %v, not %v", what, txnText(x), got, want)
	}
}

func okIs(t *testing.T, what string, x impl.Txn, want bool) {
	t.Helper()
	if got := impl.TxnOk(x); got != want {
		t.Errorf("%s: TxnOk(%s) = %v", what, txnText(x), got)
	}
}

// manySecs has places in and around a disk of n sectors.
func manySecs(n int) []int {
	out := noSector(n)
	for i := -2; i < n+2; i++ {
		out = append(out, i)
	}
	return append(out, 46, 47, 48, 49, 256, 258)
}

// txnAs asks all that the chapter tells of a Txn.
func txnAs(t *testing.T, what string, x impl.Txn) {
	t.Helper()
	for _, n := range append(manySecs(len(x.D.Secs)), x.Root, x.M.Root) {
		if want, there := wordsNodeAt(x, n); there {
			isAtNode(t, what, x, n, want)
		} else {
			hasNoNode(t, what, x, n)
		}
		leadsTo(t, what, x, n, wordsPages(x, n)...)
	}
	hasFree(t, what, x, wordsFree(x)...)
	okIs(t, what, x, wordsTxnOk(x))
}

// begins asks what TxNew answers.
func begins(t *testing.T, what string, d impl.Disk, root impl.Meta) {
	t.Helper()
	want := impl.Txn{D: d, M: root, Root: root.Root}
	if got := impl.TxNew(d); txnText(got) != txnText(want) || len(got.New) != 0 {
		t.Errorf("%s: TxNew = %s, not %s", what, txnText(got), txnText(want))
	}
}

func beginsNot(t *testing.T, what string, d impl.Disk) {
	t.Helper()
	if got := impl.TxNew(d); !isZeroTxn(got) {
		t.Errorf("%s: TxNew(%s) = %s", what, diskText(d), txnText(got))
	}
}

func TestNewTxns(t *testing.T) {
	zero, one, two := wordsMeta(meta(0, 0)), wordsMeta(meta(1, 6)), wordsMeta(meta(2, 3))
	begins(t, "a new disk", impl.Format(4, nil), meta(0, 0))
	begins(t, "a new disk of 48", impl.Format(48, faultLists()[3]), meta(0, 0))
	begins(t, "a root in sector 0 alone", diskOf(two, "", "", ""), meta(2, 3))
	begins(t, "a root in sector 1 alone", diskOf("", one, "", ""), meta(1, 6))
	begins(t, "two, the newer in sector 1", diskOf(zero, one, "", ""), meta(1, 6))
	begins(t, "two, the newer in sector 0", diskOf(two, one, "", ""), meta(2, 3))
	begins(t, "a tree", keptDisk(), meta(1, 6))
	begins(t, "one sector, with a root", diskOf(zero), meta(0, 0))
	beginsNot(t, "no root", impl.DiskNew(4, nil))
	beginsNot(t, "no root, but nodes", diskOf("", "", nodePage(leafOf("a", "1")), ""))
	beginsNot(t, "each root in the other's sector", diskOf(one, zero, "", ""))
	beginsNot(t, "cut roots", diskOf(zero[:5], one[:5], "", ""))
	beginsNot(t, "the zero disk", impl.Disk{})
	beginsNot(t, "no sectors", impl.Disk{Ops: 7, Faults: faultLists()[1], Cache: []impl.Write{write(0, zero), write(1, one)}})
	beginsNot(t, "no sectors, off", impl.Disk{Down: true})
	beginsNot(t, "roots from sector 2 on", diskOf("", "", two, wordsMeta(meta(3, 3))))
}

func TestNewTxnsOfTheCache(t *testing.T) {
	d := impl.DiskNew(4, faultLists()[4])
	d.Cache = []impl.Write{write(1, wordsMeta(meta(1, 2)))}
	begins(t, "the only root in the cache", d, meta(1, 2))
	d.Secs[0] = impl.PutMeta(meta(0, 0))
	begins(t, "the newest root in the cache", d, meta(1, 2))
	d.Cache = append(d.Cache, write(0, wordsMeta(meta(2, 3))))
	begins(t, "two in the cache", d, meta(2, 3))
	d.Cache = append(d.Cache, write(0, ""), write(1, "x"))
	beginsNot(t, "written over", d)
}

// Neither the power nor a disk that is right is asked for.
func TestNewTxnsOfDisksThatAreOffOrNotRight(t *testing.T) {
	d := keptDisk()
	d.Down, d.Ops = true, 100000
	begins(t, "off", d, meta(1, 6))
	okIs(t, "off", impl.TxNew(d), true)
	for what, d := range someDisks() {
		if m, there := wordsBest(d); there {
			begins(t, what, d, m)
		} else {
			beginsNot(t, what, d)
		}
		if len(d.Secs) > 0 {
			d.Secs[0] = impl.PutMeta(meta(4, 0))
			d.Cache = slices.DeleteFunc(d.Cache, func(w impl.Write) bool { return w.N < 2 })
			begins(t, what, d, meta(4, 0))
			okIs(t, what, impl.TxNew(d), wordsDiskOk(d))
		}
	}
}

func TestNodesByTheirSectors(t *testing.T) {
	x := underWay()
	isAtNode(t, "new", x, 2, innerOf(texts("m"), 11, 9))
	isAtNode(t, "new", x, 11, leafOf("a", "1", "c", "5"))
	isAtNode(t, "on the disk, a leaf", x, 3, leafOf("a", "1", "b", "2"))
	isAtNode(t, "on the disk, another", x, 6, innerOf(texts("m"), 3, 9))
	isAtNode(t, "on the disk, both lead to it", x, 9, leafOf("m", "3", "z", "4"))
	isAtNode(t, "on the disk, nobody leads to it", x, 4, leafOf("old", "x"))
	hasNoNode(t, "the other kind", x, 7)
	hasNoNode(t, "a body that is no node", x, 8)
	hasNoNode(t, "a cut page", x, 10)
	hasNoNode(t, "roots", x, 0)
	hasNoNode(t, "roots", x, 1)
	for _, n := range []int{-1, -2, -12, 12, 13, 47, 48, 256, 258, 1 << 32, math.MinInt, math.MaxInt} {
		hasNoNode(t, "no sector", x, n)
	}
	hasNoNode(t, "nothing new", kept(), 2)
	hasNoNode(t, "nothing new", kept(), 11)
}

func TestNodesInNewAndOnTheDisk(t *testing.T) {
	x := kept()
	for n := range 12 {
		x.New = append(x.New, fresh(n, leafOf(fmt.Sprint(n), "new")))
	}
	for n := range 12 {
		isAtNode(t, "in both", x, n, leafOf(fmt.Sprint(n), "new"))
	}
	// New is asked first, wherever it says that a node stands, and whether it is right or not.
	for _, n := range []int{-1, 0, 1, 12, 47, 48, 1 << 40, math.MinInt, math.MaxInt} {
		for _, node := range []impl.Node{{}, {Leaf: true}, leafOf("b", "2", "a", "1"), innerOf(texts("a"), 0), leafOf(long(49), "v")} {
			x = kept()
			x.New = []impl.Fresh{fresh(5, leafOf("a", "1")), fresh(n, node)}
			isAtNode(t, "new, not right", x, n, node)
		}
	}
	// Of two of one sector the first.
	x.New = []impl.Fresh{fresh(5, leafOf("a", "1")), fresh(4, leafOf("b", "1")), fresh(5, leafOf("c", "1")), fresh(4, leafOf("d", "1")), fresh(5, leafOf("e", "1"))}
	isAtNode(t, "two of one", x, 5, leafOf("a", "1"))
	isAtNode(t, "two of one", x, 4, leafOf("b", "1"))
}

// A node may stand in a root's sector: it is asked for as any other one.
func TestNodesInRootSectors(t *testing.T) {
	x := kept()
	x.D.Secs[0] = []byte(nodePage(leafOf("zero", "0")))
	isAtNode(t, "sector 0", x, 0, leafOf("zero", "0"))
	leadsTo(t, "nothing of 0", x, 0)
	x.D.Secs[1] = []byte(nodePage(innerOf(nil, 3)))
	isAtNode(t, "sector 1", x, 1, innerOf(nil, 3))
	leadsTo(t, "sector 1", x, 1, 1, 3)
	hasFree(t, "they are not free", x, 2, 4, 5, 7, 8, 10, 11)
}

func TestNodesInTheCache(t *testing.T) {
	x := kept()
	x.D.Cache = []impl.Write{write(11, nodePage(leafOf("first", "1"))), write(3, nodePage(leafOf("over", "1"))), write(11, nodePage(leafOf("last", "1"))), write(9, "")}
	isAtNode(t, "the last Write", x, 11, leafOf("last", "1"))
	isAtNode(t, "over a sector", x, 3, leafOf("over", "1"))
	hasNoNode(t, "written over with nothing", x, 9)
	leadsTo(t, "the cache", x, 6, 3, 6)
	hasFree(t, "the cache", x, 2, 4, 5, 7, 8, 9, 10, 11)
	okIs(t, "the kept tree lacks one", x, false)
	x.D.Cache = x.D.Cache[:3]
	okIs(t, "the cache", x, true)
}

func TestAllNodesComeFromTheirPages(t *testing.T) {
	for what, node := range rightNodes() {
		x := impl.Txn{D: diskOf("", "", "", nodePage(node))}
		isAtNode(t, what+", on the disk", x, 3, node)
		x.D.Secs[3] = x.D.Secs[3][:len(x.D.Secs[3])-1]
		hasNoNode(t, what+", cut", x, 3)
		x.New = []impl.Fresh{fresh(3, node)}
		isAtNode(t, what+", new", x, 3, node)
		x.New, x.D.Secs[3] = nil, []byte(wordsPage(2, wordsBody(node)))
		hasNoNode(t, what+", the other kind", x, 3)
	}
}

func TestPages(t *testing.T) {
	x := underWay()
	leadsTo(t, "nothing of 0", x, 0)
	leadsTo(t, "a leaf", x, 3, 3)
	leadsTo(t, "a new leaf", x, 11, 11)
	leadsTo(t, "one that nobody leads to", x, 4, 4)
	leadsTo(t, "one kid", x, 5, 3, 5)
	leadsTo(t, "kids", x, 6, 3, 6, 9)
	leadsTo(t, "new and kept", x, 2, 2, 9, 11)
	leadsTo(t, "new, without New", kept(), 2)
	for _, n := range []int{1, 7, 8, 10, 12, 13, 47, 48, -1, -2, 256, 258, 1 << 32, math.MinInt, math.MaxInt} {
		leadsTo(t, "no node", x, n)
	}
	deep := kept()
	for n := 2; n < 48; n++ {
		deep.New = append(deep.New, fresh(n, innerOf(nil, n+1)))
	}
	if got := impl.PagesOf(deep, 2); len(got) != 46 || got[0] != 2 || got[45] != 47 {
		t.Errorf("one below the other: %v", got)
	}
	leadsTo(t, "the last ones", deep, 46, 46, 47)
}

func TestPagesOfWhatIsNoTree(t *testing.T) {
	x := kept()
	x.New = []impl.Fresh{fresh(2, innerOf(texts("m"), 10, 9))}
	leadsTo(t, "a child lacks", x, 2, 2, 9)
	x.New = []impl.Fresh{fresh(2, innerOf(texts("a", "b", "c"), 10, 7, 8, 47))}
	leadsTo(t, "all children lack", x, 2, 2)
	x.New = []impl.Fresh{fresh(2, innerOf(nil, 4)), fresh(4, innerOf(texts("m"), 2, 3)), fresh(5, innerOf(nil, 5))}
	leadsTo(t, "they lead to each other", x, 2, 2, 3, 4)
	leadsTo(t, "they lead to each other, from the other", x, 4, 2, 3, 4)
	leadsTo(t, "it leads to itself", x, 5, 5)
	x.New = []impl.Fresh{fresh(2, innerOf(texts("m"), 5, 6)), fresh(4, innerOf(texts("m"), 2, 2))}
	leadsTo(t, "two lead to one", x, 2, 2, 3, 5, 6, 9)
	leadsTo(t, "one twice", x, 4, 2, 3, 4, 5, 6, 9)
	x.New = []impl.Fresh{fresh(11, leafOf("a", "1")), fresh(2, innerOf(nil, 11)), fresh(11, innerOf(nil, 4))}
	leadsTo(t, "two new of one sector", x, 2, 2, 11)
	x.D.Secs[3] = []byte(nodePage(innerOf(texts("k"), 6, 3)))
	leadsTo(t, "they lead to each other on the disk", kept(), 6, 3, 6, 9)
	leadsTo(t, "they lead to each other on the disk", x, 3, 3, 6, 9)
}

// Kids lead on, even of a node that is not right; what they lead to counts where a node is.
func TestPagesOfNodesThatAreNotRight(t *testing.T) {
	x := kept()
	x.New = []impl.Fresh{fresh(-5, innerOf(texts("m"), 3, 1<<40)), fresh(2, innerOf(nil, -5, -5, 300, 4, -1))}
	leadsTo(t, "wrong sectors", x, 2, -5, 2, 3, 4)
	x.New = []impl.Fresh{fresh(2, impl.Node{Leaf: true, Keys: texts("a"), Vals: texts("v"), Kids: []int{4, 3}})}
	leadsTo(t, "a leaf with Kids", x, 2, 2, 3, 4)
	x.New = []impl.Fresh{fresh(2, impl.Node{})}
	leadsTo(t, "the zero node", x, 2, 2)
	x.New = []impl.Fresh{fresh(2, innerOf(texts("z", "a", "a"), 4, 9, 3))}
	leadsTo(t, "wrong Keys", x, 2, 2, 3, 4, 9)
}

func TestFree(t *testing.T) {
	hasFree(t, "the least new disk", impl.TxNew(impl.Format(4, nil)), 2, 3)
	all := impl.FreeOf(impl.TxNew(impl.Format(48, nil)))
	if len(all) != 46 || all[0] != 2 || all[45] != 47 || !slices.IsSorted(all) {
		t.Errorf("the greatest new disk: %v", all)
	}
	hasFree(t, "a tree that is kept", kept(), 2, 4, 5, 7, 8, 10, 11)
	hasFree(t, "one under way", underWay(), 4, 5, 7, 8, 10)
	hasFree(t, "the zero one", impl.Txn{})
	hasFree(t, "two sectors", impl.Txn{D: diskOf("", "")})
	hasFree(t, "three sectors", impl.Txn{D: diskOf("", "", "")}, 2)
	full := impl.Txn{D: rootDisk(2, nodePage(innerOf(texts("m"), 3, 4)), nodePage(leafOf("a", "1")), nodePage(leafOf("m", "1"))), M: meta(1, 2), Root: 2}
	hasFree(t, "all is kept", full)
	full.D.Secs = append(full.D.Secs, nil)
	full.New, full.Root = []impl.Fresh{fresh(5, innerOf(texts("m"), 3, 4))}, 5
	hasFree(t, "all is kept or new", full)
}

// What counts is M's Root, as the disk has it, and New: not the Root of what is under way.
func TestFreeIsToldByWhatIsKept(t *testing.T) {
	for _, root := range []int{0, 2, 3, 4, 5, 6, 12, -1, math.MinInt} {
		x := kept()
		x.Root = root
		hasFree(t, fmt.Sprint("the Root ", root), x, 2, 4, 5, 7, 8, 10, 11)
	}
	x := kept()
	x.M.Root = 0
	hasFree(t, "M without a tree", x, 2, 3, 4, 5, 6, 7, 8, 9, 10, 11)
	x.M.Root = 3
	hasFree(t, "M of a leaf", x, 2, 4, 5, 6, 7, 8, 9, 10, 11)
	x.M.Root = 5
	hasFree(t, "M of a node that nobody leads to", x, 2, 4, 6, 7, 8, 9, 10, 11)
	for _, root := range []int{1, 7, 8, 10, 12, 47, 48, -1, math.MaxInt, math.MinInt} {
		x.M.Root = root
		hasFree(t, fmt.Sprint("M of no node, ", root), x, 2, 3, 4, 5, 6, 7, 8, 9, 10, 11)
	}
	// Over what is kept: the disk's own root leads on, New's does not.
	x = kept()
	x.New = []impl.Fresh{fresh(6, innerOf(texts("m"), 4, 5))}
	hasFree(t, "over what is kept", x, 2, 4, 5, 7, 8, 10, 11)
	x.M.Root, x.New = 2, []impl.Fresh{fresh(2, innerOf(nil, 6))}
	hasFree(t, "M's Root in New alone", x, 3, 4, 5, 6, 7, 8, 9, 10, 11)
	x = kept()
	x.New = []impl.Fresh{fresh(-1, leafOf("a", "1")), fresh(0, leafOf("a", "1")), fresh(12, leafOf("a", "1")), fresh(10, impl.Node{}), fresh(4, leafOf("a", "1")), fresh(4, leafOf("a", "1"))}
	hasFree(t, "New is not right", x, 2, 5, 7, 8, 11)
	x = kept()
	x.D.Secs[9] = nil
	hasFree(t, "a child lacks", x, 2, 4, 5, 7, 8, 9, 10, 11)
	x.D.Secs[6] = nil
	hasFree(t, "the root lacks", x, 2, 3, 4, 5, 6, 7, 8, 9, 10, 11)
}

func TestTxnsThatAreRight(t *testing.T) {
	okIs(t, "a new disk", impl.TxNew(impl.Format(4, nil)), true)
	okIs(t, "what is kept", kept(), true)
	okIs(t, "what is begun", impl.TxNew(keptDisk()), true)
	okIs(t, "under way", underWay(), true)
	for what, turn := range map[string]func(x *impl.Txn){
		"nothing is led to any more": func(x *impl.Txn) { x.New, x.Root = nil, 0 },
		"a kept leaf alone":          func(x *impl.Txn) { x.New, x.Root = nil, 9 },
		"a node that nobody kept":    func(x *impl.Txn) { x.New, x.Root = nil, 4 },
		"a new leaf alone":           func(x *impl.Txn) { x.New, x.Root = x.New[1:], 11 },
		"new ones over old ones": func(x *impl.Txn) {
			x.New, x.Root = []impl.Fresh{fresh(4, innerOf(nil, 5)), fresh(5, leafOf("a", "1"))}, 4
		},
		"over a cut page":              func(x *impl.Txn) { x.New, x.Root = []impl.Fresh{fresh(10, leafOf("a", "1"))}, 10 },
		"all that is free":             func(x *impl.Txn) { x.New, x.Root = chain(2, 4, 5, 7, 8, 10, 11), 2 },
		"a new root of the kept one":   func(x *impl.Txn) { x.New, x.Root = []impl.Fresh{fresh(2, innerOf(nil, 6))}, 2 },
		"off":                          func(x *impl.Txn) { x.D.Down = true },
		"no operation left":            func(x *impl.Txn) { x.D.Ops = 100000 },
		"Writes in the cache":          func(x *impl.Txn) { x.D.Cache = []impl.Write{write(4, "x"), write(2, "y")} },
		"Faults":                       func(x *impl.Txn) { x.D.Faults = faultLists()[3] },
		"no tree, but they are there":  func(x *impl.Txn) { x.New[0].X = innerOf(texts("m"), 11, 11) },
		"each leads to the other":      func(x *impl.Txn) { x.New[1].X = innerOf(nil, 2) },
		"it leads to itself":           func(x *impl.Txn) { x.New[1].X = innerOf(texts("m"), 9, 11) },
		"keys in no order of the tree": func(x *impl.Txn) { x.New[1].X = leafOf("zz", "1") },
		"a newer root in the cache":    func(x *impl.Txn) { x.D.Cache, x.M = []impl.Write{write(0, wordsMeta(meta(2, 6)))}, meta(2, 6) },
	} {
		x := underWay()
		turn(&x)
		okIs(t, what, x, true)
		txnAs(t, what, x)
	}
}

// chain has new nodes in these sectors, each leading to the next one; the last is a leaf.
func chain(secs ...int) []impl.Fresh {
	var out []impl.Fresh
	for i := range len(secs) - 1 {
		out = append(out, fresh(secs[i], innerOf(nil, secs[i+1])))
	}
	return append(out, fresh(secs[len(secs)-1], leafOf("a", "1")))
}

// turnOfTxn takes from a Txn what makes it right.
type turnOfTxn struct {
	what string
	turn func(x *impl.Txn)
}

func wrongNew() []turnOfTxn {
	out := []turnOfTxn{
		{"out of order", func(x *impl.Txn) { slices.Reverse(x.New) }},
		{"out of order, the last", func(x *impl.Txn) {
			x.New, x.Root = chain(2, 4, 5, 7), 2
			x.New[2], x.New[3] = x.New[3], x.New[2]
		}},
		{"two of one sector", func(x *impl.Txn) { x.New = []impl.Fresh{x.New[0], x.New[1], x.New[1]} }},
		{"two of one sector, ahead", func(x *impl.Txn) { x.New = []impl.Fresh{x.New[0], x.New[0], x.New[1]} }},
		{"led to by nobody", func(x *impl.Txn) { x.New = append(x.New[:1:1], fresh(5, leafOf("a", "1")), x.New[1]) }},
		{"led to by nobody, the first", func(x *impl.Txn) { x.Root, x.New[1].X = 11, leafOf("a", "1") }},
		{"led to by nobody, the last", func(x *impl.Txn) { x.New[0].X = innerOf(nil, 9) }},
		{"led to by the kept root alone", func(x *impl.Txn) { x.Root = 6 }},
		{"led to by each other alone", func(x *impl.Txn) {
			x.New = []impl.Fresh{x.New[0], fresh(4, innerOf(nil, 5)), fresh(5, innerOf(nil, 4)), x.New[1]}
		}},
		{"led to by itself alone", func(x *impl.Txn) { x.New = []impl.Fresh{x.New[0], fresh(5, innerOf(nil, 5)), x.New[1]} }},
		{"new ones without a root", func(x *impl.Txn) { x.Root = 0 }},
		{"new ones below a kept leaf", func(x *impl.Txn) { x.Root = 9 }},
	}
	for _, n := range []int{3, 6, 9} {
		out = append(out, turnOfTxn{fmt.Sprint("over what is kept: ", n), func(x *impl.Txn) {
			x.New, x.Root = []impl.Fresh{fresh(n, leafOf("a", "1"))}, n
		}})
	}
	for _, n := range []int{0, 1, -1, 12, 13, 47, 48, 258, math.MinInt, math.MaxInt} {
		out = append(out, turnOfTxn{fmt.Sprint("in no tree's sector: ", n), func(x *impl.Txn) {
			x.New, x.Root = []impl.Fresh{fresh(n, leafOf("a", "1"))}, n
		}})
	}
	for _, node := range []impl.Node{{}, {Leaf: true}, leafOf("b", "1", "a", "1"), leafOf(long(49), "1"), leafOf("a", long(61)), innerOf(texts("a"), 9), innerOf(nil, 1), innerOf(nil, 9, 9), {Leaf: true, Keys: texts("a")}, {Leaf: true, Keys: texts("a"), Vals: texts("1"), Kids: []int{9}}, {Keys: upTo(80, 3), Kids: someKids(81)}} {
		out = append(out, turnOfTxn{"not NodeOk: " + nodeText(node), func(x *impl.Txn) { x.New[1].X = node }})
	}
	return out
}

func wrongTrees() []turnOfTxn {
	out := []turnOfTxn{
		{"a child is not there", func(x *impl.Txn) { x.New[0].X = innerOf(texts("m", "n"), 11, 9, 10) }},
		{"a child of the other kind", func(x *impl.Txn) { x.New[0].X = innerOf(texts("m", "n"), 11, 9, 7) }},
		{"a child that is no node", func(x *impl.Txn) { x.New[0].X = innerOf(texts("m", "n"), 8, 9, 11) }},
		{"a child beyond the disk", func(x *impl.Txn) { x.New[0].X = innerOf(texts("m", "n"), 11, 9, 47) }},
		{"a child just beyond the disk", func(x *impl.Txn) { x.New[0].X = innerOf(texts("m", "n"), 11, 9, 12) }},
		{"a child's child is not there", func(x *impl.Txn) { x.New[1].X = innerOf(nil, 10) }},
		{"a child of an old node is not there", func(x *impl.Txn) {
			x.D.Secs[4], x.New, x.Root = []byte(nodePage(innerOf(nil, 10))), nil, 4
		}},
		{"a kept child is not there, both lead to it", func(x *impl.Txn) { x.D.Secs[9] = nil }},
		{"a kept child is not there", func(x *impl.Txn) { x.D.Secs[3] = x.D.Secs[3][:5] }},
		{"a kept child is not there, without a Root", func(x *impl.Txn) { x.D.Secs[3], x.New, x.Root = nil, nil, 0 }},
		{"the kept root is not there", func(x *impl.Txn) { x.D.Secs[6] = nil }},
		{"the kept root is not there, without a Root", func(x *impl.Txn) { x.D.Secs[6], x.New, x.Root = nil, nil, 0 }},
		{"the kept root is not there, and is Root", func(x *impl.Txn) { x.D.Secs[6], x.New, x.Root = nil, nil, 6 }},
		{"what is kept lacks in the cache", func(x *impl.Txn) { x.D.Cache = []impl.Write{write(3, "")} }},
		{"a kept child in New alone", func(x *impl.Txn) {
			x.D.Secs[3], x.New, x.Root = nil, []impl.Fresh{fresh(3, leafOf("a", "1"))}, 3
		}},
		{"the kept root in New alone", func(x *impl.Txn) {
			x.D.Secs[6], x.New, x.Root = nil, []impl.Fresh{fresh(6, leafOf("a", "1"))}, 6
		}},
	}
	for _, n := range []int{1, 2, 7, 8, 10, 11, 12, 47, 48, -1, -2, 256, 262, 1 << 40, math.MinInt, math.MaxInt} {
		out = append(out, turnOfTxn{fmt.Sprint("a Root that is not there: ", n), func(x *impl.Txn) { x.New, x.Root = nil, n }})
	}
	return out
}

func wrongRootsOfTxns() []turnOfTxn {
	var out []turnOfTxn
	for _, m := range []impl.Meta{meta(0, 0), meta(0, 6), meta(1, 0), meta(1, 2), meta(1, 3), meta(1, 9), meta(1, 12), meta(2, 6), meta(3, 6), meta(-1, 6), meta(1000001, 6), meta(1, -6), meta(257, 6), meta(1, 262)} {
		out = append(out, turnOfTxn{fmt.Sprint("M is another: ", m), func(x *impl.Txn) { x.M = m }})
		out = append(out, turnOfTxn{fmt.Sprint("M is another, nothing new: ", m), func(x *impl.Txn) { x.M, x.New, x.Root = m, nil, 0 }})
	}
	return append(out,
		turnOfTxn{"a newer root on the disk", func(x *impl.Txn) { x.D.Secs[0] = impl.PutMeta(meta(2, 6)) }},
		turnOfTxn{"a newer root in the cache", func(x *impl.Txn) { x.D.Cache = []impl.Write{write(0, wordsMeta(meta(2, 6)))} }},
		turnOfTxn{"the root is cut", func(x *impl.Txn) { x.D.Secs[1] = x.D.Secs[1][:6] }},
		turnOfTxn{"the root is cut in the cache", func(x *impl.Txn) { x.D.Cache = []impl.Write{write(1, "x")} }},
		turnOfTxn{"no root", func(x *impl.Txn) { x.D.Secs[0], x.D.Secs[1] = nil, nil }},
		turnOfTxn{"no root, and M zero", func(x *impl.Txn) { x.D.Secs[0], x.D.Secs[1], x.M, x.New, x.Root = nil, nil, meta(0, 0), nil, 0 }},
	)
}

func wrongDisksOfTxns() []turnOfTxn {
	out := []turnOfTxn{
		{"a sector too long", func(x *impl.Txn) { x.D.Secs[4] = []byte(fullSec("s") + "s") }},
		{"49 sectors", func(x *impl.Txn) { x.D.Secs = append(x.D.Secs, make([][]byte, 37)...) }},
		{"three sectors", func(x *impl.Txn) { *x = impl.TxNew(impl.Format(4, nil)); x.D.Secs = x.D.Secs[:3] }},
		{"one sector", func(x *impl.Txn) { *x = impl.TxNew(impl.Format(4, nil)); x.D.Secs = x.D.Secs[:1] }},
		{"61 Writes", func(x *impl.Txn) { x.D.Cache = slices.Repeat([]impl.Write{write(4, "x")}, 61) }},
		{"a Write of no sector", func(x *impl.Txn) { x.D.Cache = []impl.Write{write(12, "x")} }},
		{"off with a Write", func(x *impl.Txn) { x.D.Down, x.D.Cache = true, []impl.Write{write(4, "x")} }},
		{"Ops below 0", func(x *impl.Txn) { x.D.Ops = -1 }},
		{"Ops too many", func(x *impl.Txn) { x.D.Ops = 100001 }},
	}
	for what, l := range wrongFaults() {
		out = append(out, turnOfTxn{what, func(x *impl.Txn) { x.D.Faults = l }})
	}
	return out
}

func wrongTxns() []turnOfTxn {
	return slices.Concat(wrongNew(), wrongTrees(), wrongRootsOfTxns(), wrongDisksOfTxns())
}

func TestTxnsThatAreNotRight(t *testing.T) {
	for _, c := range wrongTxns() {
		x := underWay()
		c.turn(&x)
		okIs(t, c.what, x, false)
		txnAs(t, c.what, x)
	}
	okIs(t, "the zero one", impl.Txn{}, false)
	okIs(t, "of no root", impl.TxNew(impl.DiskNew(8, nil)), false)
	okIs(t, "a new disk without a root", impl.Txn{D: impl.DiskNew(8, nil)}, false)
}

// Each disk that the chapter of disks tells, right and not, below what is under way.
func TestTxnsOfAllDisks(t *testing.T) {
	for what, d := range someDisks() {
		txnAs(t, what, impl.TxNew(d))
		x := impl.Txn{D: d}
		txnAs(t, what, x)
		x.Root, x.New = 2, []impl.Fresh{fresh(2, leafOf("a", "1"))}
		txnAs(t, what, x)
		if len(d.Secs) > 1 {
			d.Secs[0], d.Secs[1] = impl.PutMeta(meta(0, 0)), nil
			txnAs(t, what, x)
		}
	}
}

// An empty list and nil are the same value.
func TestTxnsOfEmptyLists(t *testing.T) {
	for _, nils := range []bool{true, false} {
		x := kept()
		x.New = listOr(nils, x.New)
		okIs(t, "nothing new", x, true)
		x = underWay()
		x.D.Cache, x.D.Faults = listOr(nils, x.D.Cache), listOr(nils, x.D.Faults)
		x.New[0].X.Vals, x.New[1].X.Kids = listOr(nils, x.New[0].X.Vals), listOr(nils, x.New[1].X.Kids)
		txnAs(t, "under way", x)
		okIs(t, "under way", x, true)
	}
}

// someTreeNode leads to few sectors, most of them near.
func someTreeNode(r *rand.Rand, secs int) impl.Node {
	if r.Intn(2) == 0 {
		return leafOf("a", someText(r, 3), "b", someText(r, 3))
	}
	kids := []int{}
	for range 1 + r.Intn(3) {
		kids = append(kids, 2+r.Intn(secs-2))
	}
	if r.Intn(30) == 0 {
		kids[0] = r.Intn(52) - 2
	}
	return innerOf(upTo(len(kids)-1, 3), kids...)
}

func someTreeSec(r *rand.Rand, secs int) string {
	s := nodePage(someTreeNode(r, secs))
	switch r.Intn(12) {
	case 0:
		return ""
	case 1:
		return s[:r.Intn(len(s))]
	case 2:
		return wordsMeta(meta(r.Intn(4), 2))
	case 3:
		return wordsPage(1, someText(r, 4))
	}
	return s
}

// someTxn is right about as often as not.
func someTxn(r *rand.Rand) impl.Txn {
	d := impl.DiskNew(4+r.Intn(6), nil)
	for n := range d.Secs {
		d.Secs[n] = []byte(someTreeSec(r, len(d.Secs)))
	}
	for n := range 2 {
		if r.Intn(20) > 0 {
			d.Secs[n] = []byte(wordsMeta(meta(2*r.Intn(3)+n, []int{0, 2 + r.Intn(len(d.Secs)-2)}[r.Intn(2)])))
		}
	}
	for range max(r.Intn(9)-6, 0) {
		d.Cache = append(d.Cache, write(r.Intn(len(d.Secs)), someTreeSec(r, len(d.Secs))))
	}
	m, _ := wordsBest(d)
	x := impl.Txn{D: d, M: m, Root: m.Root}
	free := wordsFree(x)
	if len(free) > 0 && r.Intn(4) > 0 {
		free = free[r.Intn(len(free)):]
		x.Root = free[0]
		x.New = chain(free[:1+r.Intn(len(free))]...)
		for i := range x.New {
			if r.Intn(4) == 0 {
				x.New[i].X = someTreeNode(r, len(d.Secs))
			}
		}
	}
	breakTxn(r, &x)
	return x
}

func breakTxn(r *rand.Rand, x *impl.Txn) {
	switch r.Intn(20) {
	case 0:
		x.Root = r.Intn(len(x.D.Secs)+2) - 1
	case 1:
		x.New = append(x.New, fresh(r.Intn(12)-1, someTreeNode(r, len(x.D.Secs))))
	case 2:
		x.New = append([]impl.Fresh{fresh(r.Intn(12)-1, someNode(r))}, x.New...)
	case 3:
		x.M.Gen++
	case 4:
		x.M.Root = r.Intn(9)
	case 5:
		x.D.Ops = -1
	}
}

func TestTxnsByTheWords(t *testing.T) {
	r := rand.New(rand.NewSource(16))
	right, changed, wrong := 0, 0, 0
	for range 6000 {
		x := someTxn(r)
		txnAs(t, "some", x)
		if m, there := wordsBest(x.D); there {
			begins(t, "some", x.D, m)
			txnAs(t, "some, begun", impl.TxNew(x.D))
		} else {
			beginsNot(t, "some", x.D)
		}
		switch {
		case !wordsTxnOk(x):
			wrong++
		case len(x.New) > 1:
			changed++
		default:
			right++
		}
		if t.Failed() {
			t.FailNow()
		}
	}
	if right < 500 || changed < 500 || wrong < 1000 {
		t.Errorf("%d right, %d with New, %d wrong", right, changed, wrong)
	}
}

// Each sector is led to by what is kept, new, or free, and is of one of these alone.
func TestEachSectorIsKeptNewOrFree(t *testing.T) {
	r := rand.New(rand.NewSource(160))
	all := []impl.Txn{kept(), underWay(), impl.TxNew(impl.Format(4, nil)), impl.TxNew(impl.Format(48, nil))}
	for range 4000 {
		all = append(all, someTxn(r))
	}
	right := 0
	for _, x := range all {
		if !impl.TxnOk(x) {
			continue
		}
		right++
		met := map[int]int{}
		for _, l := range [][]int{impl.PagesOf(onDisk(x), x.M.Root), newSecs(x), impl.FreeOf(x)} {
			for _, n := range l {
				met[n]++
			}
		}
		for n := 2; n < len(x.D.Secs); n++ {
			if met[n] != 1 {
				t.Errorf("the sector %d is met %d times: %s", n, met[n], txnText(x))
			}
		}
		if len(met) != len(x.D.Secs)-2 {
			t.Errorf("other sectors are met: %v, %s", met, txnText(x))
		}
	}
	if right < 1000 {
		t.Errorf("%d right", right)
	}
}

// What was asked ahead leaves nothing behind.
func TestTxnsKeepNothing(t *testing.T) {
	for _, c := range wrongTxns() {
		x := underWay()
		c.turn(&x)
		txnAs(t, c.what, x)
		impl.TxNew(x.D)
		txnAs(t, "behind "+c.what, underWay())
		txnAs(t, "behind "+c.what, kept())
	}
	// A Txn that was begun, and turned since, is not the next one.
	first := impl.TxNew(keptDisk())
	first.Root, first.M = 3, meta(7, 7)
	first.New = append(first.New, fresh(2, leafOf("a", "1")))
	overwriteDisk(first.D)
	begins(t, "the next one", keptDisk(), meta(1, 6))
}

// roomyTxn has x with spare room behind each list, in which there is what would turn the answers.
func roomyTxn(x impl.Txn) impl.Txn {
	out := impl.Txn{D: roomyDisk(x.D), M: x.M, Root: x.Root}
	for _, f := range x.New {
		out.New = append(out.New, fresh(f.N, roomyNode(f.X)))
	}
	out.New = append(out.New, fresh(4, roomyNode(innerOf(nil, 5))), fresh(3, roomyNode(impl.Node{})))[:len(x.New)]
	return out
}

// allTxn has a Txn as a text with the spare room that roomyTxn made.
func allTxn(x impl.Txn) string {
	out := fmt.Sprint(allDisk(x.D), x.M, x.Root)
	for _, f := range x.New[:len(x.New)+2] {
		out += fmt.Sprint(" ", f.N, "<-", allNode(f.X))
	}
	return out
}

// someTxns has right ones and wrong ones.
func someTxns() []impl.Txn {
	out := []impl.Txn{{}, kept(), underWay(), impl.TxNew(impl.Format(5, faultLists()[3]))}
	for _, c := range wrongTxns() {
		x := underWay()
		c.turn(&x)
		out = append(out, x)
	}
	cached := underWay()
	cached.D.Cache = []impl.Write{write(10, nodePage(leafOf("cached", "1"))), write(4, ""), write(0, wordsMeta(meta(0, 3)))}
	return append(out, cached)
}

// Neither is what is asked written to, nor is the room behind it read.
func TestTxnsAreNotWrittenTo(t *testing.T) {
	for _, x := range someTxns() {
		roomy := roomyTxn(txnCopy(x))
		ahead := allTxn(roomy)
		txnAs(t, "with room behind", roomy)
		impl.TxNew(roomy.D)
		if got := allTxn(roomy); got != ahead {
			t.Errorf("the Txn %s turned into %s", ahead, got)
		}
	}
}

// overwriteTxn fills a Txn, and all the room that came with it.
func overwriteTxn(x impl.Txn) {
	overwriteDisk(x.D)
	for i := range x.New[:cap(x.New)] {
		f := &x.New[:cap(x.New)][i]
		fillNode(f.X.Keys, f.X.Vals, f.X.Kids)
		f.N = 77
	}
}

func TestTxnsThatAreBegunAreNewMemory(t *testing.T) {
	for _, x := range someTxns() {
		arg := roomyDisk(x.D)
		ahead := allDisk(arg)
		second := impl.TxNew(arg)
		want := txnText(second)
		overwriteTxn(impl.TxNew(arg))
		if allDisk(arg) != ahead {
			t.Errorf("the disk turned into %s", allDisk(arg))
		}
		if txnText(second) != want {
			t.Errorf("two answers share memory: %s", txnText(second))
		}
		overwriteDisk(arg)
		if txnText(second) != want {
			t.Errorf("the answer shares memory with the disk: %s", txnText(second))
		}
	}
	one := []byte(wordsMeta(meta(0, 0)))
	lists := listsOf(impl.TxNew(impl.Disk{Secs: [][]byte{one, one, one, one}, Cache: []impl.Write{{N: 0, B: one}, {N: 2, B: one}}}).D)
	for i, b := range lists {
		overwrite(b)
		for _, other := range lists[i+1:] {
			if string(other) != string(one) {
				t.Errorf("%d shares memory with one behind it", i)
			}
		}
	}
}

func TestNodesOfTxnsAreNewMemory(t *testing.T) {
	for _, x := range someTxns() {
		for _, n := range append(newSecs(x), 3, 4, 6, 9, 10) {
			arg := roomyTxn(txnCopy(x))
			ahead := allTxn(arg)
			first, _ := impl.NodeAt(arg, n)
			second, _ := impl.NodeAt(arg, n)
			want := nodeText(second)
			room := nodeText(impl.Node{Keys: second.Keys[len(second.Keys):cap(second.Keys)], Vals: second.Vals[len(second.Vals):cap(second.Vals)], Kids: second.Kids[len(second.Kids):cap(second.Kids)]})
			if strings.Contains(room, "spare") || strings.Contains(room, "xff") || strings.Contains(room, "-9") {
				t.Errorf("behind the node %d: %s", n, room)
			}
			fillNode(first.Keys, first.Vals, first.Kids)
			if allTxn(arg) != ahead || nodeText(second) != want {
				t.Errorf("the node %d shares memory: %s", n, allTxn(arg))
			}
			overwriteTxn(arg)
			if nodeText(second) != want {
				t.Errorf("the node %d shares memory with the Txn: %s", n, nodeText(second))
			}
		}
	}
	// Lists that the argument has in several places are told apart.
	both := texts("a", "b")
	x := impl.Txn{New: []impl.Fresh{fresh(2, impl.Node{Leaf: true, Keys: both, Vals: both})}}
	got, _ := impl.NodeAt(x, 2)
	fillNode(got.Keys, nil, nil)
	if !slices.Equal(got.Vals, texts("a", "b")) || !slices.Equal(both, got.Vals) {
		t.Errorf("two lists share memory: %s", nodeText(got))
	}
}

func TestSectorsOfTxnsAreNewMemory(t *testing.T) {
	for _, x := range someTxns() {
		for _, ask := range []func(x impl.Txn) []int{
			impl.FreeOf,
			func(x impl.Txn) []int { return impl.PagesOf(x, x.Root) },
			func(x impl.Txn) []int { return impl.PagesOf(x, 6) },
			func(x impl.Txn) []int { return impl.PagesOf(x, 0) },
		} {
			arg := roomyTxn(txnCopy(x))
			ahead := allTxn(arg)
			second := ask(arg)
			want := fmt.Sprint(second)
			fillNode(nil, nil, ask(arg))
			if allTxn(arg) != ahead || fmt.Sprint(second) != want {
				t.Errorf("the sectors %v share memory, not %s", second, want)
			}
			overwriteTxn(arg)
			if fmt.Sprint(second) != want {
				t.Errorf("the sectors share memory with the Txn: %v, not %s", second, want)
			}
		}
	}
}

// Much that is wrong is told, too, and comes to an end.
func TestTxnsOfVeryMany(t *testing.T) {
	const many = 200000
	x := impl.TxNew(impl.Format(48, nil))
	x.Root = 2
	for n := range many {
		x.New = append(x.New, fresh(n+2, innerOf(nil, n+3)))
	}
	if got := impl.PagesOf(x, 2); len(got) != many || got[0] != 2 || got[many-1] != many+1 {
		t.Errorf("one below the other: %d", len(got))
	}
	hasFree(t, "all are new", x)
	okIs(t, "many new", x, false)
	x.New = []impl.Fresh{fresh(2, innerOf(nil, slices.Repeat([]int{3, 2}, many)...)), fresh(3, leafOf("a", "1"))}
	leadsTo(t, "many kids", x, 2, 2, 3)
	okIs(t, "many kids", x, false)
	x.New, x.D.Secs = nil, append(x.D.Secs, make([][]byte, many)...)
	if got := impl.FreeOf(x); len(got) != many+46 {
		t.Errorf("many sectors: %d", len(got))
	}
	okIs(t, "many sectors", x, false)
}
