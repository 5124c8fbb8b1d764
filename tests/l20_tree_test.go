package tests

import (
	"fmt"
	"math"
	"math/rand"
	"slices"
	"strings"
	"testing"

	"loop.example/g00322/impl"
)

var (
	_ func(impl.Txn) int  = impl.DepthOf
	_ func(impl.Txn) bool = impl.TreeOk
	_ func(impl.Txn) int  = impl.CountOf
	_ func(impl.Txn) int  = impl.ShareOf
)

// wordsDepth has the depth by the chapter's words.
func wordsDepth(x impl.Txn) int {
	if x.Root == 0 {
		return 0
	}
	n := x.Root
	for depth := range 48 {
		node, there := wordsNodeAt(x, n)
		if !there {
			return depth
		}
		if len(node.Kids) == 0 {
			return depth + 1
		}
		n = node.Kids[0]
	}
	return 48
}

// leavesAreAsDeep asks it of a tree each of whose nodes is led to once.
func leavesAreAsDeep(x impl.Txn, n int, depth int) bool {
	node, _ := wordsNodeAt(x, n)
	if node.Leaf {
		return depth == 1
	}
	return !slices.ContainsFunc(node.Kids, func(kid int) bool { return !leavesAreAsDeep(x, kid, depth-1) })
}

// keysStandBetween asks for each Kid of a node all Keys of all nodes that it leads to.
func keysStandBetween(x impl.Txn, node impl.Node) bool {
	ok := true
	for i, kid := range node.Kids {
		for _, n := range wordsPages(x, kid) {
			below, _ := wordsNodeAt(x, n)
			for _, k := range below.Keys {
				if i > 0 {
					ok = ok && strings.Compare(k, node.Keys[i-1]) >= 0
				}
				if i < len(node.Keys) && node.Keys[i] != "" {
					ok = ok && strings.Compare(k, node.Keys[i]) < 0
				}
			}
		}
	}
	return ok
}

func wordsTreeOk(x impl.Txn) bool {
	if !wordsTxnOk(x) {
		return false
	}
	if x.Root == 0 {
		return true
	}
	led := []int{x.Root}
	for _, n := range wordsPages(x, x.Root) {
		node, _ := wordsNodeAt(x, n)
		led = append(led, node.Kids...)
		if !wordsNodeOk(node) || !keysStandBetween(x, node) {
			return false
		}
	}
	if len(led) != len(wordsPages(x, x.Root)) {
		return false
	}
	return leavesAreAsDeep(x, x.Root, wordsDepth(x))
}

func wordsShare(x impl.Txn) int {
	count := 0
	for _, n := range wordsPages(x, x.Root) {
		if slices.Contains(wordsPages(x, x.M.Root), n) {
			count++
		}
	}
	return count
}

// treeIs asks whether it is a tree.
func treeIs(t *testing.T, what string, x impl.Txn, want bool) {
	t.Helper()
	if got := impl.TreeOk(x); got != want {
		t.Errorf("%s: TreeOk(%s) = %v", what, txnText(x), got)
	}
	if wordsTreeOk(x) != want {
		t.Errorf("%s: the words say otherwise of %s", what, txnText(x))
	}
}

// measures asks the three numbers of a tree.
func measures(t *testing.T, what string, x impl.Txn, depth int, count int, share int) {
	t.Helper()
	if d, c, s := impl.DepthOf(x), impl.CountOf(x), impl.ShareOf(x); d != depth || c != count || s != share {
		t.Errorf("%s: %d deep, %d keys, %d shared, not %d, %d, %d: %s", what, d, c, s, depth, count, share, txnText(x))
	}
}

// treeAs asks all that the chapter tells of a Txn.
func treeAs(t *testing.T, what string, x impl.Txn) {
	t.Helper()
	treeIs(t, what, x, wordsTreeOk(x))
	measures(t, what, x, wordsDepth(x), len(wordsPairs(x)), wordsShare(x))
}

func TestTreesThatAreSound(t *testing.T) {
	treeIs(t, "a new disk", impl.TxNew(impl.Format(4, nil)), true)
	measures(t, "a new disk", impl.TxNew(impl.Format(4, nil)), 0, 0, 0)
	treeIs(t, "what is kept", kept(), true)
	measures(t, "what is kept", kept(), 2, 4, 3)
	treeIs(t, "under way", underWay(), true)
	measures(t, "under way", underWay(), 2, 4, 1)
	x := kept()
	x.Root = 9
	treeIs(t, "a kept leaf alone", x, true)
	measures(t, "a kept leaf alone", x, 1, 2, 1)
	x.Root = 5
	treeIs(t, "a root of one kid that nobody kept", x, true)
	measures(t, "a root of one kid that nobody kept", x, 2, 2, 1)
	x.Root = 0
	treeIs(t, "nothing any more", x, true)
	measures(t, "nothing any more", x, 0, 0, 0)
	for _, what := range []string{"on the disk", "in the cache", "new"} {
		leaf := treesOf(2, leafOf("", ""))[what]
		leaf.D.Secs = append(leaf.D.Secs, nil)[:max(len(leaf.D.Secs), 4)]
		treeIs(t, what+", one leaf", leaf, true)
		treeIs(t, what+", two levels", twoLevels()[what], true)
		treeIs(t, what+", three levels", threeLevels()[what], true)
		measures(t, what+", three levels", threeLevels()[what], 3, 13, map[string]int{"on the disk": 11}[what])
	}
	deep := impl.TxNew(impl.Format(48, nil))
	deep.Root, deep.New = 2, chain(upToKids(46, 2)...)
	treeIs(t, "46 deep", deep, true)
	measures(t, "46 deep", deep, 46, 1, 0)
}

// newTree has a tree that is new, its nodes in the sectors from 2 on; the first is Root.
func newTree(nodes ...impl.Node) impl.Txn {
	x := impl.TxNew(impl.Format(48, nil))
	x.Root = 2
	for i, node := range nodes {
		x.New = append(x.New, fresh(i+2, node))
	}
	return x
}

// unsound has what is right under way, but no tree.
func unsound() map[string]impl.Txn {
	return map[string]impl.Txn{
		"a kid twice":                     newTree(innerOf(texts("m"), 3, 3), leafOf("m", "1")),
		"a kid twice, far apart":          newTree(innerOf(texts("c", "m"), 3, 4, 3), leafOf("m", "1"), leafOf("d", "1")),
		"two lead to one":                 newTree(innerOf(texts("m"), 3, 4), innerOf(nil, 5), innerOf(nil, 5), leafOf("m", "1")),
		"it leads to itself":              newTree(innerOf(nil, 2)),
		"it leads to itself, too":         newTree(innerOf(texts("m"), 3, 2), leafOf("a", "1")),
		"it leads to Root":                newTree(innerOf(texts("m"), 3, 4), leafOf("a", "1"), innerOf(nil, 2)),
		"the way down never ends":         newTree(innerOf(texts("m"), 3, 4), innerOf(nil, 2), leafOf("m", "1")),
		"a leaf less deep":                newTree(innerOf(texts("m"), 3, 4), innerOf(nil, 5), leafOf("m", "1"), leafOf("a", "1")),
		"a leaf deeper":                   newTree(innerOf(texts("m"), 3, 4), leafOf("a", "1"), innerOf(nil, 5), leafOf("m", "1")),
		"the last leaf deeper":            newTree(innerOf(texts("m", "t"), 3, 4, 5), leafOf("a", "1"), leafOf("m", "1"), innerOf(nil, 6), leafOf("t", "1")),
		"a leaf ahead of the key":         newTree(innerOf(texts("m"), 3, 4), leafOf("a", "1"), leafOf("l", "1", "n", "1")),
		"a leaf just ahead of the key":    newTree(innerOf(texts("m\x00"), 3, 4), leafOf("a", "1"), leafOf("m", "1")),
		"a leaf of the key behind":        newTree(innerOf(texts("m"), 3, 4), leafOf("a", "1", "m", "1"), leafOf("n", "1")),
		"a leaf behind the key behind":    newTree(innerOf(texts("m"), 3, 4), leafOf("a", "1", "m\x00", "1"), leafOf("n", "1")),
		"the middle leaf too low":         newTree(innerOf(texts("m", "t"), 3, 4, 5), leafOf("a", "1"), leafOf("b", "1", "n", "1"), leafOf("t", "1")),
		"the middle leaf too high":        newTree(innerOf(texts("m", "t"), 3, 4, 5), leafOf("a", "1"), leafOf("n", "1", "t", "1"), leafOf("u", "1")),
		"the last leaf too low":           newTree(innerOf(texts("m", "t"), 3, 4, 5), leafOf("a", "1"), leafOf("m", "1"), leafOf("s", "1")),
		"the key of a node is too low":    newTree(innerOf(texts("m"), 3, 4), innerOf(nil, 5), innerOf(texts("l"), 6, 7), leafOf("a", "1"), leafOf("m", "1"), leafOf("n", "1")),
		"the key of a node is too high":   newTree(innerOf(texts("m"), 3, 4), innerOf(texts("m"), 5, 6), innerOf(nil, 7), leafOf("a", "1"), leafOf("b", "1"), leafOf("n", "1")),
		"a leaf two below is too high":    newTree(innerOf(texts("m"), 3, 4), innerOf(texts("c"), 5, 6), innerOf(nil, 7), leafOf("a", "1"), leafOf("n", "1"), leafOf("o", "1")),
		"a leaf two below is too low":     newTree(innerOf(texts("m"), 3, 4), innerOf(nil, 5), innerOf(texts("o"), 6, 7), leafOf("a", "1"), leafOf("b", "1"), leafOf("p", "1")),
		"ahead of the empty key, two up":  newTree(innerOf(texts("m"), 3, 4), innerOf(texts(""), 5, 6), innerOf(nil, 7), leafOf("z", "1"), leafOf("b", "1"), leafOf("o", "1")),
		"the empty key behind another":    newTree(innerOf(texts("m"), 3, 4), leafOf("a", "1"), leafOf("", "1", "n", "1")),
		"the empty key of a node, behind": newTree(innerOf(texts("m"), 3, 4), innerOf(nil, 5), innerOf(texts(""), 6, 7), leafOf("a", "1"), leafOf("n", "1"), leafOf("o", "1")),
	}
}

func TestTreesThatAreNotSound(t *testing.T) {
	for what, x := range unsound() {
		okIs(t, what, x, true)
		treeIs(t, what, x, false)
		treeAs(t, what, x)
	}
	for _, c := range wrongTxns() {
		x := underWay()
		c.turn(&x)
		treeIs(t, c.what, x, false)
		treeAs(t, c.what, x)
	}
	treeIs(t, "the zero one", impl.Txn{}, false)
	treeIs(t, "by turns, over what is kept", threeLevels()["by turns"], false)
	x := kept()
	x.D.Secs[9] = []byte(nodePage(leafOf("l", "1")))
	treeIs(t, "on the disk alone", x, false)
	x.D.Secs[9] = []byte(nodePage(innerOf(nil, 4)))
	treeIs(t, "a leaf deeper, on the disk alone", x, false)
	x.Root = 0
	treeIs(t, "what is kept is no tree, but it is not asked", x, true)
}

// Edges of what stands between two keys: the one ahead is met, and behind the empty one stands anything.
func TestTreesAtTheEdgesOfKeys(t *testing.T) {
	for what, x := range map[string]impl.Txn{
		"the key ahead":                  newTree(innerOf(texts("m"), 3, 4), leafOf("l\xff", "1"), leafOf("m", "1")),
		"the key of a node is met":       newTree(innerOf(texts("m"), 3, 4), innerOf(nil, 5), innerOf(texts("n"), 6, 7), leafOf("a", "1"), leafOf("m", "1"), leafOf("n", "1")),
		"any ahead of the empty key":     newTree(innerOf(texts(""), 3, 4), leafOf("z", "1"), leafOf("b", "1")),
		"the empty key ahead of it, too": newTree(innerOf(texts(""), 3, 4), leafOf("", "1", "z", "1"), leafOf("", "1")),
		"any there, two below":           newTree(innerOf(texts(""), 3, 4), innerOf(texts("k"), 5, 6), innerOf(nil, 7), leafOf("a", "1"), leafOf("z", "1"), leafOf("b", "1")),
		"the node above asks still":      newTree(innerOf(texts("m"), 3, 4), innerOf(texts(""), 5, 6), innerOf(nil, 7), leafOf("l", "1"), leafOf("b", "1"), leafOf("o", "1")),
		"no key between":                 newTree(innerOf(nil, 3), leafOf("\xff", "1")),
	} {
		treeIs(t, what, x, true)
		treeAs(t, what, x)
	}
}

func TestDepths(t *testing.T) {
	x := underWay()
	for _, n := range []int{0, 1, 7, 8, 10, 12, 47, 48, -1, 256, math.MinInt, math.MaxInt} {
		x.Root = n
		measures(t, fmt.Sprint("no node in ", n), x, 0, 0, 0)
	}
	loop := newTree(innerOf(nil, 2))
	measures(t, "it leads to itself", loop, 48, 0, 0)
	measures(t, "the first Kid lacks", newTree(innerOf(texts("m"), 40, 3), leafOf("m", "1")), 1, 1, 0)
	measures(t, "the second Kid lacks", newTree(innerOf(texts("m"), 3, 40), leafOf("a", "1")), 2, 1, 0)
	measures(t, "another without Kids", newTree(impl.Node{}), 1, 0, 0)
	for _, n := range []int{46, 47, 48, 49, 50, 1000} {
		deep := newTree()
		deep.New = chain(upToKids(n, 2)...)
		measures(t, fmt.Sprint(n, " new ones"), deep, min(n, 48), 1, 0)
	}
}

func TestShares(t *testing.T) {
	x := kept()
	x.New, x.Root = []impl.Fresh{fresh(2, innerOf(nil, 6))}, 2
	measures(t, "a new root of the kept one", x, 3, 4, 3)
	x.New = []impl.Fresh{fresh(2, innerOf(texts("m"), 4, 9))}
	measures(t, "a leaf of what is kept", x, 2, 3, 1)
	x.New = []impl.Fresh{fresh(2, innerOf(nil, 4))}
	measures(t, "nothing of what is kept", x, 2, 1, 0)
	x.M.Root = 5
	measures(t, "M of another", x, 2, 1, 0)
	x.Root = 6
	measures(t, "M of another", x, 2, 4, 1)
	x.M.Root = 0
	measures(t, "M without a tree", x, 2, 4, 0)
}

func TestTreesByTheWords(t *testing.T) {
	r := rand.New(rand.NewSource(20))
	for range 1500 {
		treeAs(t, "any", anyTxn(r))
		treeAs(t, "some", someTxn(r))
		treeAs(t, "a tree", someTree(r, somePairs(r)))
		if t.Failed() {
			t.FailNow()
		}
	}
	for _, x := range someTxns() {
		treeAs(t, "some", x)
	}
	for what, d := range someDisks() {
		treeAs(t, what, impl.TxNew(d))
		treeAs(t, what, impl.Txn{D: d, Root: 2})
	}
}

// soundTree has a tree that is sound and has these pairs, some of it kept.
func soundTree(r *rand.Rand, pairs []impl.Pair) impl.Txn {
	root, nodes := grow(r, pairs)
	return soundOf(r, root, nodes)
}

// soundOf keeps one of these nodes with what it leads to; the others are new.
func soundOf(r *rand.Rand, root int, nodes map[int]impl.Node) impl.Txn {
	x := impl.TxNew(impl.Format(48, nil))
	x.Root = root
	if len(nodes) == 0 {
		return x
	}
	secs := []int{}
	for n := range nodes {
		secs = append(secs, n)
	}
	slices.Sort(secs)
	keep := secs[r.Intn(len(secs))]
	x.M = meta(1, keep)
	x.D.Secs[1] = []byte(wordsMeta(x.M))
	for _, n := range secs {
		x.D.Secs[n] = []byte(nodePage(nodes[n]))
	}
	free := wordsFree(x)
	for _, n := range secs {
		if slices.Contains(free, n) {
			x.D.Secs[n] = nil
			x.New = append(x.New, fresh(n, nodes[n]))
		}
	}
	return x
}

// A tree that turns in one thing is one still, or not, by the words.
func TestTreesThatTurn(t *testing.T) {
	r := rand.New(rand.NewSource(200))
	right, wrong := 0, 0
	for range 1500 {
		x := soundTree(r, somePairs(r))
		treeIs(t, "a tree", x, true)
		if len(x.New) > 0 {
			turnNode(r, x, &x.New[r.Intn(len(x.New))].X)
		}
		treeAs(t, "a tree that turned", x)
		if wordsTreeOk(x) {
			right++
		} else {
			wrong++
		}
		if t.Failed() {
			t.FailNow()
		}
	}
	if right < 200 || wrong < 200 {
		t.Errorf("%d right, %d wrong", right, wrong)
	}
}

func turnNode(r *rand.Rand, x impl.Txn, node *impl.Node) {
	keys, kids := keysIn(x), newSecs(x)
	switch r.Intn(4) {
	case 0:
		if len(node.Keys) > 0 {
			node.Keys[r.Intn(len(node.Keys))] = near(keys[r.Intn(len(keys))])[0]
			slices.Sort(node.Keys)
			node.Keys = slices.Compact(node.Keys)
		}
	case 1:
		if len(node.Kids) > 0 {
			node.Kids[r.Intn(len(node.Kids))] = kids[r.Intn(len(kids))]
		}
	case 2:
		if len(node.Kids) > 1 {
			i, j := r.Intn(len(node.Kids)), r.Intn(len(node.Kids))
			node.Kids[i], node.Kids[j] = node.Kids[j], node.Kids[i]
		}
	default:
		if len(node.Keys) > 0 {
			i := r.Intn(len(node.Keys))
			beside := near(node.Keys[i])
			node.Keys[i] = beside[r.Intn(len(beside))]
		}
	}
}

// Neither is what is asked written to, nor is the room behind it read.
func TestTreesAreNotWrittenTo(t *testing.T) {
	for _, x := range someTxns() {
		roomy := roomyTxn(txnCopy(x))
		ahead := allTxn(roomy)
		treeAs(t, "with room behind", roomy)
		if got := allTxn(roomy); got != ahead {
			t.Errorf("the Txn %s turned into %s", ahead, got)
		}
		treeIs(t, "behind", underWay(), true)
		measures(t, "behind", underWay(), 2, 4, 1)
	}
	for what, x := range unsound() {
		treeAs(t, what, roomyTxn(x))
		treeIs(t, "behind "+what, kept(), true)
	}
}

// Much that is wrong is told, too, and comes to an end.
func TestVeryManyTrees(t *testing.T) {
	const many = 200000
	x := newTree()
	x.New = chain(upToKids(many, 2)...)
	if impl.TreeOk(x) || impl.DepthOf(x) != 48 || impl.CountOf(x) != 1 || impl.ShareOf(x) != 0 {
		t.Error("one below the other")
	}
	x.New = []impl.Fresh{fresh(2, innerOf(nil, slices.Repeat([]int{3, 2}, many)...)), fresh(3, leafOf("a", "1"))}
	if impl.TreeOk(x) || impl.DepthOf(x) != 2 || impl.CountOf(x) != 1 {
		t.Error("many kids")
	}
	x = newTree()
	for n := range 46 {
		x.New = append(x.New, fresh(n+2, innerOf(upTo(30, 3), slices.Repeat([]int{2 + (n+1)%46}, 31)...)))
	}
	if !impl.TxnOk(x) || impl.TreeOk(x) || impl.DepthOf(x) != 48 || impl.CountOf(x) != 0 {
		t.Error("all lead to all")
	}
}
