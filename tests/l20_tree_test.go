package tests

import (
	"fmt"
	"math"
	"math/rand"
	"slices"
	"strings"
	"testing"

	"loop.example/g00322/impl"
)

var (
	_ func(impl.Txn) int  = impl.DepthOf
	_ func(impl.Txn) bool = impl.TreeOk
	_ func(impl.Txn) int  = impl.CountOf
	_ func(impl.Txn) int  = impl.ShareOf
)

// wordsDepth has the depth by the chapter's words.
func wordsDepth(x impl.Txn) int {
	if x.Root == 0 {
		return 0
	}
	n := x.Root
	for depth := range 48 {
		node, there := wordsNodeAt(x, n)
		if !there {
			return depth
		}
		if len(node.Kids) == 0 {
			return depth + 1
		}
		n = node.Kids[0]
	}
	return 48
}

// leavesAreAsDeep asks it of a tree each of whose nodes is led to once.
func leavesAreAsDeep(x impl.Txn, n int, depth int) bool {
	node, _ := wordsNodeAt(x, n)
	if node.Leaf {
		return depth == 1
	}
	return !slices.ContainsFunc(node.Kids, func(kid int) bool { return !leavesAreAsDeep(x, kid, depth-1) })
}

// keysStandBetween asks for each Kid of a node all Keys of all nodes that it leads to.
func keysStandBetween(x impl.Txn, node impl.Node) bool {
	ok := true
	for i, kid := range node.Kids {
		for _, n := range wordsPages(x, kid) {
			below, _ := wordsNodeAt(x, n)
			for _, k := range below.Keys {
				if i > 0 {
					ok = ok && strings.Compare(k, node.Keys[i-1]) >= 0
				}
				if i < len(node.Keys) && node.Keys[i] != "" {
					ok = ok && strings.Compare(k, node.Keys[i]) < 0
				}
			}
		}
	}
	return ok
}

func wordsTreeOk(x impl.Txn) bool {
	if !wordsTxnOk(x) {
		return false
	}
	if x.Root == 0 {
		return true
	}
	led := []int{x.Root}
	for _, n := range wordsPages(x, x.Root) {
		node, _ := wordsNodeAt(x, n)
		led = append(led, node.Kids...)
		if !wordsNodeOk(node) || !keysStandBetween(x, node) {
			return false
		}
	}
	if len(led) != len(wordsPages(x, x.Root)) {
		return false
	}
	return leavesAreAsDeep(x, x.Root, wordsDepth(x))
}

func wordsShare(x impl.Txn) int {
	count := 0
	for _, n := range wordsPages(x, x.Root) {
		if slices.Contains(wordsPages(x, x.M.Root), n) {
			count++
		}
	}
	return count
}

// treeIs asks whether it is a tree.
func treeIs(t *testing.T, what string, x impl.Txn, want bool) {
	t.Helper()
	if got := impl.TreeOk(x); got != want {
		t.Errorf("%s: TreeOk(%s) = %v", what, txnText(x), got)
	}
	if wordsTreeOk(x) != want {
		t.Errorf("%s: the words say otherwise of %s", what, txnText(x))
	}
}

// measures asks the three numbers of a tree.
func measures(t *testing.T, what string, x impl.Txn, depth int, count int, share int) {
	t.Helper()
	if d, c, s := impl.DepthOf(x), impl.CountOf(x), impl.ShareOf(x); d != depth || c != count || s != share {
		t.Errorf("%s: %d deep, %d keys, %d shared, not %d, %d, %d: %s", what, d, c, s, depth, count, share, txnText(x))
	}
}

// treeAs asks all that the chapter tells of a Txn.
func treeAs(t *testing.T, what string, x impl.Txn) {
	t.Helper()
	treeIs(t, what, x, wordsTreeOk(x))
	measures(t, what, x, wordsDepth(x), len(wordsPairs(x)), wordsShare(x))
}

func TestTreesThatAreSound(t *testing.T) {
	treeIs(t, "a new disk", impl.TxNew(impl.Format(4, nil)), true)
	measures(t, "a new disk", impl.TxNew(impl.Format(4, nil)), 0, 0, 0)
	treeIs(t, "what is kept", kept(), true)
	measures(t, "what is kept", kept(), 2, 4, 3)
	treeIs(t, "under way", underWay(), true)
	measures(t, "under way", underWay(), 2, 4, 1)
	x := kept()
	x.Root = 9
	treeIs(t, "a kept leaf alone", x, true)
	measures(t, "a kept leaf alone", x, 1, 2, 1)
	x.Root = 5
	treeIs(t, "a root of one kid that nobody kept", x, true)
	measures(t, "a root of one kid that nobody kept", x, 2, 2, 1)
	x.Root = 0
	treeIs(t, "nothing any more", x, true)
	measures(t, "nothing any more", x, 0, 0, 0)
	for _, what := range []string{"on the disk", "in the cache", "new"} {
		leaf := treesOf(2, leafOf("", ""))[what]
		leaf.D.Secs = append(leaf.D.Secs, nil)[:max(len(leaf.D.Secs), 4)]
		treeIs(t, what+", one leaf", leaf, true)
		treeIs(t, what+", two levels", twoLevels()[what], true)
		treeIs(t, what+", three levels", threeLevels()[what], true)
		measures(t, what+", three levels", threeLevels()[what], 3, 13, map[string]int{"on the disk": 11}[what])
	}
	deep := impl.TxNew(impl.Format(48, nil))
	deep.Root, deep.New = 2, chain(upToKids(46, 2)...)
	treeIs(t, "46 deep", deep, true)
	measures(t, "46 deep", deep, 46, 1, 0)
}

// newTree has a tree that is new, its nodes in the sectors from 2 on; the first is Root.
func newTree(nodes ...impl.Node) impl.Txn {
	x := impl.TxNew(impl.Format(48, nil))
	x.Root = 2
	for i, node := range nodes {
		x.New = append(x.New, fresh(i+2, node))
	}
	return x
}

// unsound has what is right under way, but no tree.
func unsound() map[string]impl.Txn {
	return map[string]impl.Txn{
		"a kid twice":                     newTree(innerOf(texts("m"), 3, 3), leafOf("m", "1")),
		"a kid twice, far apart":          newTree(innerOf(texts("c", "m"), 3, 4, 3), leafOf("m", "1"), leafOf("d", "1")),
		"two lead to one":                 newTree(innerOf(texts("m"), 3, 4), innerOf(nil, 5), innerOf(nil, 5), leafOf("m", "1")),
		"a kid twice, by the empty key":   newTree(innerOf(texts(""), 3, 3), leafOf("m", "1")),
		"two to one, by the empty key":    newTree(innerOf(texts(""), 3, 4), innerOf(nil, 5), innerOf(nil, 5), leafOf("m", "1")),
		"two to one, beside others":       newTree(innerOf(texts("", "t"), 3, 4, 5), innerOf(nil, 6), innerOf(texts("m"), 6, 7), innerOf(nil, 8), leafOf("d", "1"), leafOf("m", "1"), leafOf("t", "1")),
		"it leads to itself":              newTree(innerOf(nil, 2)),
		"it leads to itself, too":         newTree(innerOf(texts("m"), 3, 2), leafOf("a", "1")),
		"it leads to Root":                newTree(innerOf(texts("m"), 3, 4), leafOf("a", "1"), innerOf(nil, 2)),
		"the way down never ends":         newTree(innerOf(texts("m"), 3, 4), innerOf(nil, 2), leafOf("m", "1")),
		"it leads to Root, two below":     newTree(innerOf(texts("m"), 3, 4), innerOf(nil, 5), innerOf(texts("n"), 6, 2), leafOf("a", "1"), leafOf("m", "1")),
		"a ring of two":                   newTree(innerOf(nil, 3), innerOf(nil, 2)),
		"a ring of three, and a leaf":     newTree(innerOf(texts("m"), 3, 5), innerOf(nil, 4), innerOf(nil, 2), leafOf("m", "1")),
		"a ring below the first Kid":      newTree(innerOf(texts("m"), 3, 5), innerOf(nil, 4), innerOf(nil, 3), leafOf("m", "1")),
		"a ring below the last Kid":       newTree(innerOf(texts("m"), 3, 4), leafOf("a", "1"), innerOf(nil, 5), innerOf(nil, 4)),
		"two lead to one leaf":            newTree(innerOf(texts("m"), 3, 4), innerOf(texts("c"), 5, 6), innerOf(texts("n"), 7, 6), leafOf("a", "1"), leafOf("d", "1"), leafOf("m", "1")),
		"Root's Kid leads to the other":   newTree(innerOf(texts("m"), 3, 4), leafOf("a", "1"), innerOf(texts("n"), 3, 5), leafOf("n", "1")),
		"the first leaf two deeper":       newTree(innerOf(texts("m"), 3, 4), innerOf(nil, 5), leafOf("m", "1"), innerOf(nil, 6), leafOf("a", "1")),
		"the last leaf two deeper":        newTree(innerOf(texts("m"), 3, 4), leafOf("a", "1"), innerOf(nil, 5), innerOf(nil, 6), leafOf("m", "1")),
		"a leaf deeper, two below":        newTree(innerOf(texts("m"), 3, 4), innerOf(texts("c"), 5, 6), innerOf(nil, 7), leafOf("a", "1"), innerOf(nil, 8), leafOf("m", "1"), leafOf("c", "1")),
		"a leaf less deep, two below":     newTree(innerOf(texts("m"), 3, 4), innerOf(texts("c"), 5, 6), innerOf(nil, 7), innerOf(nil, 8), leafOf("c", "1"), innerOf(nil, 9), leafOf("a", "1"), leafOf("m", "1")),
		"each of one depth but the last":  newTree(innerOf(texts("m"), 3, 4), innerOf(texts("c"), 5, 6), innerOf(texts("n"), 7, 8), leafOf("a", "1"), leafOf("c", "1"), leafOf("m", "1"), innerOf(nil, 9), leafOf("n", "1")),
		"a leaf less deep":                newTree(innerOf(texts("m"), 3, 4), innerOf(nil, 5), leafOf("m", "1"), leafOf("a", "1")),
		"a leaf deeper":                   newTree(innerOf(texts("m"), 3, 4), leafOf("a", "1"), innerOf(nil, 5), leafOf("m", "1")),
		"the last leaf deeper":            newTree(innerOf(texts("m", "t"), 3, 4, 5), leafOf("a", "1"), leafOf("m", "1"), innerOf(nil, 6), leafOf("t", "1")),
		"a leaf ahead of the key":         newTree(innerOf(texts("m"), 3, 4), leafOf("a", "1"), leafOf("l", "1", "n", "1")),
		"a leaf just ahead of the key":    newTree(innerOf(texts("m\x00"), 3, 4), leafOf("a", "1"), leafOf("m", "1")),
		"a leaf of the key behind":        newTree(innerOf(texts("m"), 3, 4), leafOf("a", "1", "m", "1"), leafOf("n", "1")),
		"a leaf behind the key behind":    newTree(innerOf(texts("m"), 3, 4), leafOf("a", "1", "m\x00", "1"), leafOf("n", "1")),
		"the middle leaf too low":         newTree(innerOf(texts("m", "t"), 3, 4, 5), leafOf("a", "1"), leafOf("b", "1", "n", "1"), leafOf("t", "1")),
		"the middle leaf too high":        newTree(innerOf(texts("m", "t"), 3, 4, 5), leafOf("a", "1"), leafOf("n", "1", "t", "1"), leafOf("u", "1")),
		"the last leaf too low":           newTree(innerOf(texts("m", "t"), 3, 4, 5), leafOf("a", "1"), leafOf("m", "1"), leafOf("s", "1")),
		"the key of a node is too low":    newTree(innerOf(texts("m"), 3, 4), innerOf(nil, 5), innerOf(texts("l"), 6, 7), leafOf("a", "1"), leafOf("m", "1"), leafOf("n", "1")),
		"the key of a node is too high":   newTree(innerOf(texts("m"), 3, 4), innerOf(texts("m"), 5, 6), innerOf(nil, 7), leafOf("a", "1"), leafOf("b", "1"), leafOf("n", "1")),
		"a leaf two below is too high":    newTree(innerOf(texts("m"), 3, 4), innerOf(texts("c"), 5, 6), innerOf(nil, 7), leafOf("a", "1"), leafOf("n", "1"), leafOf("o", "1")),
		"a leaf two below is too low":     newTree(innerOf(texts("m"), 3, 4), innerOf(nil, 5), innerOf(texts("o"), 6, 7), leafOf("a", "1"), leafOf("b", "1"), leafOf("p", "1")),
		"ahead of the empty key, two up":  newTree(innerOf(texts("m"), 3, 4), innerOf(texts(""), 5, 6), innerOf(nil, 7), leafOf("z", "1"), leafOf("b", "1"), leafOf("o", "1")),
		"the empty key behind another":    newTree(innerOf(texts("m"), 3, 4), leafOf("a", "1"), leafOf("", "1", "n", "1")),
		"the empty key of a node, behind": newTree(innerOf(texts("m"), 3, 4), innerOf(nil, 5), innerOf(texts(""), 6, 7), leafOf("a", "1"), leafOf("n", "1"), leafOf("o", "1")),
	}
}

func TestTreesThatAreNotSound(t *testing.T) {
	for what, x := range unsound() {
		okIs(t, what, x, true)
		treeIs(t, what, x, false)
		treeAs(t, what, x)
	}
	for _, c := range wrongTxns() {
		x := underWay()
		c.turn(&x)
		treeIs(t, c.what, x, false)
		treeAs(t, c.what, x)
	}
	treeIs(t, "the zero one", impl.Txn{}, false)
	treeIs(t, "by turns, over what is kept", threeLevels()["by turns"], false)
	x := kept()
	x.D.Secs[9] = []byte(nodePage(leafOf("l", "1")))
	treeIs(t, "on the disk alone", x, false)
	x.D.Secs[9] = []byte(nodePage(innerOf(nil, 4)))
	treeIs(t, "a leaf deeper, on the disk alone", x, false)
	x.Root = 0
	treeIs(t, "what is kept is no tree, but it is not asked", x, true)
}

// Each of them is measured, too, though it is no tree: the depth is that of the first Kids, and what is led to again has no keys.
func TestMeasuresOfWhatIsNoTree(t *testing.T) {
	measured := map[string][2]int{
		"a kid twice":                     {2, 1},
		"a kid twice, far apart":          {2, 2},
		"two lead to one":                 {3, 1},
		"a kid twice, by the empty key":   {2, 1},
		"two to one, by the empty key":    {3, 1},
		"two to one, beside others":       {3, 3},
		"it leads to itself":              {48, 0},
		"it leads to itself, too":         {2, 1},
		"it leads to Root":                {2, 1},
		"it leads to Root, two below":     {3, 2},
		"a ring of two":                   {48, 0},
		"a ring of three, and a leaf":     {48, 1},
		"a ring below the first Kid":      {48, 1},
		"a ring below the last Kid":       {2, 1},
		"the way down never ends":         {48, 1},
		"two lead to one leaf":            {3, 3},
		"Root's Kid leads to the other":   {2, 2},
		"the first leaf two deeper":       {4, 2},
		"the last leaf two deeper":        {2, 2},
		"a leaf deeper, two below":        {3, 3},
		"a leaf less deep, two below":     {4, 3},
		"each of one depth but the last":  {3, 4},
		"a leaf less deep":                {3, 2},
		"a leaf deeper":                   {2, 2},
		"the last leaf deeper":            {2, 3},
		"a leaf ahead of the key":         {2, 3},
		"a leaf just ahead of the key":    {2, 2},
		"a leaf of the key behind":        {2, 3},
		"a leaf behind the key behind":    {2, 3},
		"the middle leaf too low":         {2, 4},
		"the middle leaf too high":        {2, 4},
		"the last leaf too low":           {2, 3},
		"the key of a node is too low":    {3, 3},
		"the key of a node is too high":   {3, 3},
		"a leaf two below is too high":    {3, 3},
		"a leaf two below is too low":     {3, 3},
		"ahead of the empty key, two up":  {3, 3},
		"the empty key behind another":    {2, 3},
		"the empty key of a node, behind": {3, 3},
	}
	for what, x := range unsound() {
		m, known := measured[what]
		if !known {
			t.Errorf("%s is not measured", what)
		}
		measures(t, what, x, m[0], m[1], 0)
	}
	for what, x := range map[string]impl.Txn{
		"a ring of all":               newTree(),
		"a ring of all, and a leaf":   newTree(),
		"a ring that Root leads into": newTree(),
	} {
		for n := range 45 {
			x.New = append(x.New, fresh(n+2, innerOf(nil, n+3)))
		}
		last, count := innerOf(nil, 2), 0
		switch what {
		case "a ring of all, and a leaf":
			last, count = leafOf("a", "1"), 1
		case "a ring that Root leads into":
			last = innerOf(nil, 40)
		}
		x.New = append(x.New, fresh(47, last))
		okIs(t, what, x, true)
		treeIs(t, what, x, last.Leaf)
		measures(t, what, x, map[bool]int{true: 46, false: 48}[last.Leaf], count, 0)
	}
}

// What stands on the disk is measured as what is new, and shared where it is kept.
func TestMeasuresOfWhatIsKept(t *testing.T) {
	for what, x := range unsound() {
		nodes := []impl.Node{}
		for _, f := range x.New {
			nodes = append(nodes, f.X)
		}
		k := keptTree(48, nodes...)
		treeIs(t, what, k, false)
		measures(t, what, k, impl.DepthOf(x), impl.CountOf(x), len(wordsPages(k, 2)))
		k.M.Root, k.D.Secs[1] = 0, []byte(wordsMeta(meta(1, 0)))
		okIs(t, what+", nobody kept it", k, true)
		treeIs(t, what+", nobody kept it", k, false)
		measures(t, what+", nobody kept it", k, impl.DepthOf(x), impl.CountOf(x), 0)
	}
}

// Without Root, or with a Root that is a leaf, maybe one without Keys.
func TestTreesOfOneNodeAtMost(t *testing.T) {
	for _, key := range []string{"", "\x00", "a", "\xff", long(48)} {
		leaf := leafOf(key, "1")
		cached := impl.TxNew(impl.Format(4, nil))
		cached.D.Cache, cached.Root = []impl.Write{write(3, nodePage(leaf))}, 3
		nobodys := keptTree(4, leaf, leaf)
		nobodys.Root = 3
		for what, x := range map[string]impl.Txn{"new": freshTree(4, leaf), "new, in the last sector": leafIn(4, 3, leaf), "kept": keptTree(4, leaf), "in the cache": cached, "nobody kept it": nobodys} {
			treeIs(t, what, x, true)
			measures(t, what, x, 1, 1, map[string]int{"kept": 1}[what])
			x.Root, x.New = 0, nil
			treeIs(t, what+", no Root", x, true)
			measures(t, what+", no Root", x, 0, 0, 0)
		}
	}
	for what, node := range map[string]impl.Node{"a leaf without Keys": {Leaf: true}, "the zero node": {}, "Keys without Kids": {Keys: texts("a")}, "a leaf without Vals": {Leaf: true, Keys: texts("a")}} {
		x := newTree(node)
		treeIs(t, what, x, false)
		measures(t, what, x, 1, 0, 0)
		x = keptTree(4, node)
		treeIs(t, what+", on the disk", x, false)
		measures(t, what+", on the disk", x, 0, 0, 0)
	}
	x := newTree(leafOf("a", "1"))
	x.Root = 0
	treeIs(t, "new, but no Root", x, false)
	measures(t, "new, but no Root", x, 0, 0, 0)
}

// A node that is not NodeOk at each place of a tree, new and on the disk.
func TestTreesOfNodesThatAreNotRight(t *testing.T) {
	tree := func() []impl.Node {
		return []impl.Node{innerOf(texts("m"), 3, 4), innerOf(texts("c"), 5, 6), innerOf(nil, 7), leafOf("a", "1"), leafOf("c", "1"), leafOf("m", "1")}
	}
	treeIs(t, "as it was", newTree(tree()...), true)
	treeIs(t, "as it was, kept", keptTree(9, tree()...), true)
	for i := range tree() {
		for what, turn := range map[string]func(x *impl.Node){
			"no Keys and no Kids": func(x *impl.Node) { x.Keys, x.Kids = nil, nil },
			"Keys not in order": func(x *impl.Node) {
				x.Keys = append(x.Keys, "")
				x.Kids = append(x.Kids, 8)
				x.Vals = append(x.Vals, "")
			},
			"a Key twice":    func(x *impl.Node) { x.Keys = append(x.Keys, x.Keys...) },
			"a Key too many": func(x *impl.Node) { x.Keys = append(x.Keys, "z") },
			"a Key too long": func(x *impl.Node) {
				x.Keys = append(x.Keys, "z"+long(48))
				x.Kids = append(x.Kids, 8)
				x.Vals = append(x.Vals, "")
			},
			"of the other kind": func(x *impl.Node) { x.Leaf = !x.Leaf },
			"a Kid that is a root": func(x *impl.Node) {
				x.Kids = append(x.Kids, 1)
				x.Keys = append(x.Keys, "z")
			},
		} {
			nodes := tree()
			turn(&nodes[i])
			if wordsNodeOk(nodes[i]) {
				continue
			}
			what = fmt.Sprint(what, " in ", i+2)
			x := newTree(nodes...)
			treeIs(t, what, x, false)
			treeAs(t, what, x)
			x = keptTree(9, nodes...)
			treeIs(t, what+", kept", x, false)
			treeAs(t, what+", kept", x)
			x.M.Root, x.D.Secs[1] = 0, []byte(wordsMeta(meta(1, 0)))
			treeIs(t, what+", nobody kept it", x, false)
			treeAs(t, what+", nobody kept it", x)
		}
	}
}

// What a node leads to must be there, at each place of a tree.
func TestTreesThatLeadToNothing(t *testing.T) {
	for _, kid := range []int{11, 10, 7, 12, 13, 46, 47} {
		for what, nodes := range map[string][]impl.Node{
			"Root's first":   {innerOf(texts("m"), kid, 3), leafOf("m", "1")},
			"Root's last":    {innerOf(texts("m"), 3, kid), leafOf("a", "1")},
			"one below":      {innerOf(nil, 3), innerOf(texts("m"), 4, kid), leafOf("a", "1")},
			"the only one":   {innerOf(nil, kid)},
			"all of one":     {innerOf(texts("m"), 3, 4), leafOf("a", "1"), innerOf(nil, kid)},
			"three below":    {innerOf(nil, 3), innerOf(nil, 4), innerOf(texts("m"), 5, kid), leafOf("a", "1")},
			"between others": {innerOf(texts("c", "m"), 3, kid, 4), leafOf("a", "1"), leafOf("m", "1")},
		} {
			what = fmt.Sprint(what, " leads to ", kid)
			x, k := freshTree(12, nodes...), keptTree(12, nodes...)
			n := keptTree(12, nodes...)
			n.M.Root, n.D.Secs[1] = 0, []byte(wordsMeta(meta(1, 0)))
			for _, d := range []impl.Disk{x.D, k.D, n.D} {
				d.Secs[7] = []byte(wordsMeta(meta(9, 4)))
				d.Secs[10] = []byte(nodePage(leafOf("cut", "x"))[:9])
			}
			for where, y := range map[string]impl.Txn{"new": x, "kept": k, "nobody kept it": n} {
				treeIs(t, what+", "+where, y, false)
				treeAs(t, what+", "+where, y)
			}
		}
	}
}

// Edges of what stands between two keys: the one ahead is met, and behind the empty one stands anything.
func TestTreesAtTheEdgesOfKeys(t *testing.T) {
	for what, x := range map[string]impl.Txn{
		"the key ahead":                  newTree(innerOf(texts("m"), 3, 4), leafOf("l\xff", "1"), leafOf("m", "1")),
		"the key of a node is met":       newTree(innerOf(texts("m"), 3, 4), innerOf(nil, 5), innerOf(texts("n"), 6, 7), leafOf("a", "1"), leafOf("m", "1"), leafOf("n", "1")),
		"any ahead of the empty key":     newTree(innerOf(texts(""), 3, 4), leafOf("z", "1"), leafOf("b", "1")),
		"the empty key ahead of it, too": newTree(innerOf(texts(""), 3, 4), leafOf("", "1", "z", "1"), leafOf("", "1")),
		"any there, two below":           newTree(innerOf(texts(""), 3, 4), innerOf(texts("k"), 5, 6), innerOf(nil, 7), leafOf("a", "1"), leafOf("z", "1"), leafOf("b", "1")),
		"the node above asks still":      newTree(innerOf(texts("m"), 3, 4), innerOf(texts(""), 5, 6), innerOf(nil, 7), leafOf("l", "1"), leafOf("b", "1"), leafOf("o", "1")),
		"no key between":                 newTree(innerOf(nil, 3), leafOf("\xff", "1")),
	} {
		treeIs(t, what, x, true)
		treeAs(t, what, x)
	}
}

// fourDeep has one leaf three below each Kid of Root, between which there is this Key.
func fourDeep(key string, first string, last string) impl.Txn {
	return newTree(innerOf(texts(key), 3, 4), innerOf(nil, 5), innerOf(nil, 6), innerOf(nil, 7), innerOf(nil, 8), leafOf(first, "1"), leafOf(last, "1"))
}

// The Keys of a node that is two or three nodes up are held against each Key below, as those of the next one.
func TestTreesWhoseKeysStandFurtherUp(t *testing.T) {
	for _, c := range []struct {
		key   string
		first string
		last  string
		want  bool
	}{
		{"m", "a", "m", true},
		{"m", "l\xff", "z", true},
		{"m", "", "m\x00", true},
		{"m", "m", "m", false},
		{"m", "m\x00", "m", false},
		{"m", "z", "m", false},
		{"m", "a", "l\xff", false},
		{"m", "a", "", false},
		{"", "a", "a", true},
		{"", "z", "", true},
		{"", "", "", true},
		{"", "\xff", "a", true},
		{"\x00", "", "\x00", true},
		{"\x00", "\x00", "\x00", false},
	} {
		what := fmt.Sprintf("%q ahead of %q, and %q", c.first, c.key, c.last)
		treeIs(t, what, fourDeep(c.key, c.first, c.last), c.want)
		treeIs(t, what+", one up", newTree(innerOf(texts(c.key), 3, 4), leafOf(c.first, "1"), leafOf(c.last, "1")), c.want)
		treeIs(t, what+", two up", newTree(innerOf(texts(c.key), 3, 4), innerOf(nil, 5), innerOf(nil, 6), leafOf(c.first, "1"), leafOf(c.last, "1")), c.want)
		treeIs(t, what+", below the one Kid of Root", newTree(innerOf(nil, 3), innerOf(texts(c.key), 4, 5), innerOf(nil, 6), innerOf(nil, 7), leafOf(c.first, "1"), leafOf(c.last, "1")), c.want)
		// A Key between, too, stands as the Keys of leaves do.
		between := newTree(innerOf(texts(c.key), 3, 4), innerOf(texts(c.first), 5, 6), innerOf(texts(c.last), 7, 8), leafOf("", "1"), leafOf(c.first, "1"), leafOf(c.last, "1"), leafOf("\xff", "1"))
		treeAs(t, what+", between", between)
		if !c.want {
			treeIs(t, what+", between", between, false)
		}
	}
	// The one ahead that is nearest counts, and so does the one behind.
	for _, key := range []string{"c", "d", "l\xff"} {
		treeIs(t, "between two that stand apart", newTree(innerOf(texts("m"), 3, 4), innerOf(texts("c"), 5, 6), innerOf(nil, 7), leafOf("a", "1"), leafOf(key, "1"), leafOf("m", "1")), true)
	}
	for _, key := range []string{"b", "b\xff", "", "m", "m\x00", "z"} {
		treeIs(t, "outside of two that stand apart", newTree(innerOf(texts("m"), 3, 4), innerOf(texts("c"), 5, 6), innerOf(nil, 7), leafOf("a", "1"), leafOf(key, "1"), leafOf("m", "1")), false)
	}
}

// The empty Key of a node asks nothing of what stands ahead of it; those of the nodes above ask on.
func TestTreesBelowTheEmptyKey(t *testing.T) {
	for key, want := range map[string]bool{"": true, "a": true, "l\xff": true, "m": false, "m\x00": false, "z": false} {
		two := newTree(innerOf(texts("m"), 3, 4), innerOf(texts(""), 5, 6), innerOf(nil, 7), leafOf(key, "1"), leafOf("b", "1"), leafOf("o", "1"))
		treeIs(t, fmt.Sprintf("%q, and a Key two up", key), two, want)
		three := newTree(innerOf(texts("m"), 3, 4), innerOf(texts(""), 5, 6), innerOf(nil, 7), innerOf(nil, 8), innerOf(nil, 9), innerOf(nil, 10), leafOf(key, "1"), leafOf("b", "1"), leafOf("o", "1"))
		treeIs(t, fmt.Sprintf("%q, and a Key three up", key), three, want)
		both := newTree(innerOf(texts(""), 3, 4), innerOf(texts(""), 5, 6), innerOf(nil, 7), leafOf(key, "1"), leafOf("b", "1"), leafOf("o", "1"))
		treeIs(t, fmt.Sprintf("%q, and the empty Key two up", key), both, true)
	}
}

func TestDepths(t *testing.T) {
	x := underWay()
	for _, n := range []int{0, 1, 7, 8, 10, 12, 47, 48, -1, 256, math.MinInt, math.MaxInt} {
		x.Root = n
		measures(t, fmt.Sprint("no node in ", n), x, 0, 0, 0)
	}
	loop := newTree(innerOf(nil, 2))
	measures(t, "it leads to itself", loop, 48, 0, 0)
	measures(t, "the first Kid lacks", newTree(innerOf(texts("m"), 40, 3), leafOf("m", "1")), 1, 1, 0)
	measures(t, "the second Kid lacks", newTree(innerOf(texts("m"), 3, 40), leafOf("a", "1")), 2, 1, 0)
	measures(t, "another without Kids", newTree(impl.Node{}), 1, 0, 0)
	for _, n := range []int{46, 47, 48, 49, 50, 1000} {
		deep := newTree()
		deep.New = chain(upToKids(n, 2)...)
		measures(t, fmt.Sprint(n, " new ones"), deep, min(n, 48), 1, 0)
	}
}

func TestShares(t *testing.T) {
	x := kept()
	x.New, x.Root = []impl.Fresh{fresh(2, innerOf(nil, 6))}, 2
	measures(t, "a new root of the kept one", x, 3, 4, 3)
	x.New = []impl.Fresh{fresh(2, innerOf(texts("m"), 4, 9))}
	measures(t, "a leaf of what is kept", x, 2, 3, 1)
	x.New = []impl.Fresh{fresh(2, innerOf(nil, 4))}
	measures(t, "nothing of what is kept", x, 2, 1, 0)
	x.M.Root = 5
	measures(t, "M of another", x, 2, 1, 0)
	x.Root = 6
	measures(t, "M of another", x, 2, 4, 1)
	x.M.Root = 0
	measures(t, "M without a tree", x, 2, 4, 0)
}

// None, some and all of what is kept, with nodes in New and without.
func TestSharesOfTwoRoots(t *testing.T) {
	for _, c := range []struct {
		root int
		kept int
		want int
	}{
		{6, 6, 3}, {9, 6, 1}, {3, 6, 1}, {5, 6, 1}, {4, 6, 0}, {0, 6, 0}, {6, 0, 0}, {0, 0, 0}, {6, 3, 1}, {5, 3, 1}, {5, 9, 0}, {9, 9, 1}, {5, 5, 2},
		{2, 6, 1}, {11, 6, 0}, {2, 2, 3}, {2, 11, 1}, {11, 2, 1}, {2, 9, 1}, {2, 3, 0}, {2, 0, 0}, {0, 2, 0}, {7, 6, 0}, {6, 7, 0}, {12, 6, 0}, {6, 12, 0}, {-1, -1, 0}, {1, 1, 0},
	} {
		x := underWay()
		x.Root, x.M.Root = c.root, c.kept
		measures(t, fmt.Sprint(c.root, " and ", c.kept), x, wordsDepth(x), len(wordsPairs(x)), c.want)
	}
	// In a tree of three levels each way down that turns is told.
	k := threeKept()
	measures(t, "all of three levels", k, 3, impl.CountOf(k), len(impl.PagesOf(k, k.M.Root)))
	y, code := impl.Put(k, "a", "2")
	if got := impl.ShareOf(y); code != impl.CoGood || got != len(impl.PagesOf(k, k.M.Root))-3 {
		t.Errorf("of %s there are shared %d", txnText(y), got)
	}
}

// Of a tree that is sound, putting and taking away make one, whichever sectors have it.
func TestWhatIsPutAndTakenIsSound(t *testing.T) {
	r := rand.New(rand.NewSource(2020))
	codes, depths := map[int]int{}, map[int]int{}
	for i := range 200 {
		x := soundTree(r, somePairs(r))
		switch i % 4 {
		case 0:
			x = longTree(r)
		case 1:
			x = threeKept()
		}
		for range 15 {
			key, val := somePut(r, x)
			y, code := impl.Del(x, key)
			if r.Intn(3) > 0 {
				y, code = impl.Put(x, wide(key, max(len(key), r.Intn(49))), val)
			}
			codes[code]++
			depths[wordsDepth(y)]++
			treeIs(t, fmt.Sprintf("behind %q", key), y, true)
			measures(t, fmt.Sprintf("behind %q", key), y, wordsDepth(y), len(wordsPairs(y)), wordsShare(y))
			if code != impl.CoGood && txnText(y) != txnText(x) {
				t.Errorf("%q is refused, but %s turned into %s", key, txnText(x), txnText(y))
			}
			x = y
		}
		if t.Failed() {
			t.FailNow()
		}
	}
	if codes[impl.CoGood] < 1500 || codes[impl.CoMissing] < 500 || codes[impl.CoSpace] < 20 || depths[3] < 500 {
		t.Errorf("the codes %v, the depths %v", codes, depths)
	}
}

// Of what is not sound neither makes anything.
func TestWhatIsNotSoundIsNotTurned(t *testing.T) {
	for what, x := range unsound() {
		for _, key := range []string{"a", "b", "m", "z", ""} {
			putsNot(t, what, x, key, "1", impl.CoForm)
			delsNot(t, what, x, key, impl.CoForm)
		}
	}
}

func TestTreesByTheWords(t *testing.T) {
	r := rand.New(rand.NewSource(20))
	for range 1500 {
		treeAs(t, "any", anyTxn(r))
		treeAs(t, "some", someTxn(r))
		treeAs(t, "a tree", someTree(r, somePairs(r)))
		if t.Failed() {
			t.FailNow()
		}
	}
	for _, x := range someTxns() {
		treeAs(t, "some", x)
	}
	for what, d := range someDisks() {
		treeAs(t, what, impl.TxNew(d))
		treeAs(t, what, impl.Txn{D: d, Root: 2})
	}
}

// soundTree has a tree that is sound and has these pairs, some of it kept.
func soundTree(r *rand.Rand, pairs []impl.Pair) impl.Txn {
	root, nodes := grow(r, pairs)
	return soundOf(r, root, nodes)
}

// soundOf keeps one of these nodes with what it leads to; the others are new.
func soundOf(r *rand.Rand, root int, nodes map[int]impl.Node) impl.Txn {
	x := impl.TxNew(impl.Format(48, nil))
	x.Root = root
	if len(nodes) == 0 {
		return x
	}
	secs := []int{}
	for n := range nodes {
		secs = append(secs, n)
	}
	slices.Sort(secs)
	keep := secs[r.Intn(len(secs))]
	x.M = meta(1, keep)
	x.D.Secs[1] = []byte(wordsMeta(x.M))
	for _, n := range secs {
		x.D.Secs[n] = []byte(nodePage(nodes[n]))
	}
	free := wordsFree(x)
	for _, n := range secs {
		if slices.Contains(free, n) {
			x.D.Secs[n] = nil
			x.New = append(x.New, fresh(n, nodes[n]))
		}
	}
	return x
}

// A tree that turns in one thing is one still, or not, by the words.
func TestTreesThatTurn(t *testing.T) {
	r := rand.New(rand.NewSource(200))
	right, wrong := 0, 0
	for range 1500 {
		x := soundTree(r, somePairs(r))
		treeIs(t, "a tree", x, true)
		if len(x.New) > 0 {
			turnNode(r, x, &x.New[r.Intn(len(x.New))].X)
		}
		treeAs(t, "a tree that turned", x)
		if wordsTreeOk(x) {
			right++
		} else {
			wrong++
		}
		if t.Failed() {
			t.FailNow()
		}
	}
	if right < 200 || wrong < 200 {
		t.Errorf("%d right, %d wrong", right, wrong)
	}
}

func turnNode(r *rand.Rand, x impl.Txn, node *impl.Node) {
	keys, kids := keysIn(x), newSecs(x)
	switch r.Intn(4) {
	case 0:
		if len(node.Keys) > 0 {
			node.Keys[r.Intn(len(node.Keys))] = near(keys[r.Intn(len(keys))])[0]
			slices.Sort(node.Keys)
			node.Keys = slices.Compact(node.Keys)
		}
	case 1:
		if len(node.Kids) > 0 {
			node.Kids[r.Intn(len(node.Kids))] = kids[r.Intn(len(kids))]
		}
	case 2:
		if len(node.Kids) > 1 {
			i, j := r.Intn(len(node.Kids)), r.Intn(len(node.Kids))
			node.Kids[i], node.Kids[j] = node.Kids[j], node.Kids[i]
		}
	default:
		if len(node.Keys) > 0 {
			i := r.Intn(len(node.Keys))
			beside := near(node.Keys[i])
			node.Keys[i] = beside[r.Intn(len(beside))]
		}
	}
}

// Neither is what is asked written to, nor is the room behind it read.
func TestTreesAreNotWrittenTo(t *testing.T) {
	for _, x := range someTxns() {
		roomy := roomyTxn(txnCopy(x))
		ahead := allTxn(roomy)
		treeAs(t, "with room behind", roomy)
		if got := allTxn(roomy); got != ahead {
			t.Errorf("the Txn %s turned into %s", ahead, got)
		}
		treeIs(t, "behind", underWay(), true)
		measures(t, "behind", underWay(), 2, 4, 1)
	}
	for what, x := range unsound() {
		treeAs(t, what, roomyTxn(x))
		treeIs(t, "behind "+what, kept(), true)
	}
}

// Much that is wrong is told, too, and comes to an end.
func TestVeryManyTrees(t *testing.T) {
	const many = 200000
	x := newTree()
	x.New = chain(upToKids(many, 2)...)
	if impl.TreeOk(x) || impl.DepthOf(x) != 48 || impl.CountOf(x) != 1 || impl.ShareOf(x) != 0 {
		t.Error("one below the other")
	}
	x.New = []impl.Fresh{fresh(2, innerOf(nil, slices.Repeat([]int{3, 2}, many)...)), fresh(3, leafOf("a", "1"))}
	if impl.TreeOk(x) || impl.DepthOf(x) != 2 || impl.CountOf(x) != 1 {
		t.Error("many kids")
	}
	x = newTree()
	for n := range 46 {
		x.New = append(x.New, fresh(n+2, innerOf(upTo(30, 3), slices.Repeat([]int{2 + (n+1)%46}, 31)...)))
	}
	if !impl.TxnOk(x) || impl.TreeOk(x) || impl.DepthOf(x) != 48 || impl.CountOf(x) != 0 {
		t.Error("all lead to all")
	}
}
