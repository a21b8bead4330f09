package tree

import (
	"math"
	"reflect"
	"slices"
	"testing"

	"jamb/api"
	"jamb/style"
)

const (
	b = api.Block
	f = api.Flex
	x = api.Text
)

// made: a tree of such kinds, with such parents, and all else zero.
func made(kinds []uint8, parents ...int) api.Tree {
	var t api.Tree
	for i, k := range kinds {
		t.Nodes = append(t.Nodes, api.Node{Parent: parents[i], Style: api.Style{Kind: k}})
	}
	return t
}

// with is a tree in which the style of a node is changed.
func with(t api.Tree, node int, change func(s *api.Style)) api.Tree {
	change(&t.Nodes[node].Style)
	return t
}

// chain: so many blocks, each but the first one a child of the one ahead.
func chain(n int) api.Tree {
	var t api.Tree
	for i := range n {
		t.Nodes = append(t.Nodes, api.Node{Parent: i - 1, Style: api.Style{Kind: b}})
	}
	return t
}

// fan: so many blocks, all but the first one children of it.
func fan(n int) api.Tree {
	t := chain(n)
	for i := range t.Nodes {
		t.Nodes[i].Parent = min(i-1, 0)
	}
	return t
}

func floatLeft(s *api.Style)  { s.Float = api.SideLeft }
func floatRight(s *api.Style) { s.Float = api.SideRight }
func clearLeft(s *api.Style)  { s.Clear = api.SideLeft }
func clearRight(s *api.Style) { s.Clear = api.SideRight }
func clearBoth(s *api.Style)  { s.Clear = api.SideBoth }
func flows(s *api.Style)      { s.Flow = true }
func letters(s *api.Style)    { s.Units = []uint16{97, 98} }
func runFull(s *api.Style)    { s.Units = make([]uint16, api.MaxRun) }
func runOver(s *api.Style)    { s.Units = make([]uint16, api.MaxRun+1) }
func wrong(s *api.Style)      { s.Grow = -1 }

// ask holds what Check answers against what it is to answer.
func ask(t *testing.T, name string, y api.Tree, node int, e api.Errno) {
	t.Helper()
	if gotNode, gotE := Check(y); gotNode != node || gotE != e {
		t.Errorf("P5.1: %s: %d, %v; want %d, %v", name, gotNode, gotE, node, e)
	}
}

func TestCheckByParents(t *testing.T) {
	for _, c := range []struct {
		name    string
		parents []int
		node    int
		e       api.Errno
	}{
		{"the node 0 alone", []int{-1}, 0, api.OK},
		{"a chain", []int{-1, 0, 1, 2, 3}, 0, api.OK},
		{"a fan", []int{-1, 0, 0, 0, 0}, 0, api.OK},
		{"up by one, by two, by all", []int{-1, 0, 1, 2, 2, 1, 5, 0, 0}, 0, api.OK},
		{"no nodes", nil, 0, api.ErrForm},
		{"the node 0 its own parent", []int{0}, 0, api.ErrForm},
		{"the node 0 a child of a later one", []int{1, 0}, 0, api.ErrForm},
		{"the node 0 a child of -2", []int{-2}, 0, api.ErrForm},
		{"the node 0 a child of the least number", []int{math.MinInt}, 0, api.ErrForm},
		{"the node 0 a child of the greatest number", []int{math.MaxInt}, 0, api.ErrForm},
		{"another one without a parent", []int{-1, -1}, 1, api.ErrForm},
		{"a third one without a parent", []int{-1, 0, -1}, 2, api.ErrForm},
		{"its own parent", []int{-1, 1}, 1, api.ErrForm},
		{"its own parent, deeper", []int{-1, 0, 1, 3}, 3, api.ErrForm},
		{"a parent behind it", []int{-1, 2, 0}, 1, api.ErrForm},
		{"a parent beyond the nodes", []int{-1, 9}, 1, api.ErrForm},
		{"the parent -2", []int{-1, -2}, 1, api.ErrForm},
		{"the parent is the least number", []int{-1, 0, math.MinInt}, 2, api.ErrForm},
		{"the parent is the greatest number", []int{-1, 0, math.MaxInt}, 2, api.ErrForm},
		{"a sibling of the one ahead as parent", []int{-1, 0, 0, 1}, 3, api.ErrForm},
		{"a parent that was left", []int{-1, 0, 1, 0, 2}, 4, api.ErrForm},
		{"a parent that was left, further up", []int{-1, 0, 1, 0, 1}, 4, api.ErrForm},
		{"a parent that was left long ago", []int{-1, 0, 1, 2, 0, 4, 5, 3}, 7, api.ErrForm},
		{"the least of two wrong ones", []int{-1, 0, 5, -1}, 2, api.ErrForm},
	} {
		kinds := make([]uint8, len(c.parents))
		for i := range kinds {
			kinds[i] = b
		}
		ask(t, c.name, made(kinds, c.parents...), c.node, c.e)
	}
}

func TestCheckByKinds(t *testing.T) {
	for _, c := range []struct {
		name string
		y    api.Tree
		node int
		e    api.Errno
	}{
		{"all kinds", made([]uint8{b, b, x, f, b}, -1, 0, 1, 0, 3), 0, api.OK},
		{"texts of a block", made([]uint8{b, x, x, x}, -1, 0, 0, 0), 0, api.OK},
		{"blocks and flexes of a block", made([]uint8{b, b, f, b}, -1, 0, 0, 0), 0, api.OK},
		{"a flex in a flex", made([]uint8{b, f, f, b}, -1, 0, 1, 2), 0, api.OK},
		{"texts in a block that is an item", made([]uint8{b, f, b, x, x, b}, -1, 0, 1, 2, 2, 1), 0, api.OK},
		{"boxes, among them one of texts", made([]uint8{b, b, x, b, x, x}, -1, 0, 1, 0, 3, 3), 0, api.OK},
		{"the node 0 a Flex", made([]uint8{f}, -1), 0, api.ErrForm},
		{"the node 0 a Text", made([]uint8{x}, -1), 0, api.ErrForm},
		{"the node 0 of no kind", made([]uint8{0}, -1), 0, api.ErrForm},
		{"the node 0 of kind 4", made([]uint8{4}, -1), 0, api.ErrForm},
		{"a child of no kind", made([]uint8{b, 0}, -1, 0), 1, api.ErrForm},
		{"an item of kind 255", made([]uint8{b, f, 255}, -1, 0, 1), 2, api.ErrForm},
		{"a Block in a Text", made([]uint8{b, x, b}, -1, 0, 1), 2, api.ErrForm},
		{"a Flex in a Text", made([]uint8{b, x, f}, -1, 0, 1), 2, api.ErrForm},
		{"a Text in a Text", made([]uint8{b, x, x}, -1, 0, 1), 2, api.ErrForm},
		{"a Text in a Flex", made([]uint8{b, f, x}, -1, 0, 1), 2, api.ErrForm},
		{"a Text in a Flex, behind an item", made([]uint8{b, f, b, x}, -1, 0, 1, 1), 3, api.ErrForm},
		{"a box behind a Text", made([]uint8{b, x, b}, -1, 0, 0), 2, api.ErrForm},
		{"a Flex behind a Text", made([]uint8{b, x, f}, -1, 0, 0), 2, api.ErrForm},
		{"a Text behind a box", made([]uint8{b, b, x}, -1, 0, 0), 2, api.ErrForm},
		{"a Text behind a Flex", made([]uint8{b, f, x}, -1, 0, 0), 2, api.ErrForm},
		{"a Text behind two boxes", made([]uint8{b, b, b, x}, -1, 0, 0, 0), 3, api.ErrForm},
		{"a box behind two Texts", made([]uint8{b, x, x, b}, -1, 0, 0, 0), 3, api.ErrForm},
		{"a Text behind a box of Texts", made([]uint8{b, b, x, x}, -1, 0, 1, 0), 3, api.ErrForm},
		{"a box behind a box of Texts", made([]uint8{b, b, x, b}, -1, 0, 1, 0), 0, api.OK},
	} {
		ask(t, c.name, c.y, c.node, c.e)
	}
}

func TestCheckByStyles(t *testing.T) {
	one := func() api.Tree { return made([]uint8{b}, -1) }
	two := func() api.Tree { return made([]uint8{b, b}, -1, 0) }
	lines := func() api.Tree { return made([]uint8{b, x}, -1, 0) }
	items := func() api.Tree { return made([]uint8{b, f, b, f}, -1, 0, 1, 1) }
	for _, c := range []struct {
		name string
		y    api.Tree
		node int
		e    api.Errno
	}{
		{"the node 0 floats left", with(one(), 0, floatLeft), 0, api.ErrForm},
		{"the node 0 floats right", with(one(), 0, floatRight), 0, api.ErrForm},
		{"the node 0 clears left", with(one(), 0, clearLeft), 0, api.ErrForm},
		{"the node 0 clears right", with(one(), 0, clearRight), 0, api.ErrForm},
		{"the node 0 clears both", with(one(), 0, clearBoth), 0, api.ErrForm},
		{"the node 0 has Flow", with(one(), 0, flows), 0, api.OK},
		{"the node 0 has a wrong style", with(two(), 0, wrong), 0, api.ErrForm},
		{"the node 0 has units", with(one(), 0, letters), 0, api.ErrForm},
		{"a block floats", with(two(), 1, floatLeft), 0, api.OK},
		{"a block clears", with(two(), 1, clearBoth), 0, api.OK},
		{"a block floats and clears", with(with(two(), 1, floatRight), 1, clearLeft), 0, api.OK},
		{"a flex floats", with(items(), 1, floatLeft), 0, api.OK},
		{"a flex clears", with(items(), 1, clearRight), 0, api.OK},
		{"an item floats left", with(items(), 2, floatLeft), 2, api.ErrForm},
		{"an item floats right", with(items(), 3, floatRight), 3, api.ErrForm},
		{"an item clears left", with(items(), 3, clearLeft), 3, api.ErrForm},
		{"an item clears right", with(items(), 2, clearRight), 2, api.ErrForm},
		{"an item clears both", with(items(), 2, clearBoth), 2, api.ErrForm},
		{"an item has Flow", with(items(), 2, flows), 0, api.OK},
		{"a child of an item floats", with(made([]uint8{b, f, b, b}, -1, 0, 1, 2), 3, floatLeft), 0, api.OK},
		{"a block has a wrong style", with(two(), 1, wrong), 1, api.ErrForm},
		{"an item has a wrong style", with(items(), 3, wrong), 3, api.ErrForm},
		{"a block has units", with(two(), 1, letters), 1, api.ErrForm},
		{"a text has units", with(lines(), 1, letters), 0, api.OK},
		{"a text floats", with(lines(), 1, floatLeft), 1, api.ErrForm},
		{"a text clears", with(lines(), 1, clearLeft), 1, api.ErrForm},
		{"a text has Flow", with(lines(), 1, flows), 1, api.ErrForm},
		{"a text has as many units as it may", with(lines(), 1, runFull), 0, api.OK},
		{"a text has one unit more", with(lines(), 1, runOver), 1, api.ErrMany},
		{"the last text has one unit more", with(made([]uint8{b, x, x, x}, -1, 0, 0, 0), 3, runOver), 3, api.ErrMany},
		{"a block has too many units", with(two(), 1, runOver), 1, api.ErrMany},
		{"a block has as many units as a text may", with(two(), 1, runFull), 1, api.ErrForm},
		{"the node 0 has too many units", with(one(), 0, runOver), 0, api.ErrMany},
		{"the least of two wrong styles", with(with(items(), 3, wrong), 2, wrong), 2, api.ErrForm},
	} {
		ask(t, c.name, c.y, c.node, c.e)
	}
}

func TestCheckOfWhatBelongsToNoNode(t *testing.T) {
	block := made([]uint8{b}, -1).Nodes
	for _, c := range []struct {
		name string
		y    api.Tree
		e    api.Errno
	}{
		{"View 0", api.Tree{Nodes: block}, api.OK},
		{"View 1", api.Tree{Nodes: block, View: 1}, api.OK},
		{"View Max", api.Tree{Nodes: block, View: api.Max}, api.OK},
		{"View -1", api.Tree{Nodes: block, View: -1}, api.ErrForm},
		{"View Max and one", api.Tree{Nodes: block, View: api.Max + 1}, api.ErrForm},
		{"the least View", api.Tree{Nodes: block, View: math.MinInt64}, api.ErrForm},
		{"the greatest View", api.Tree{Nodes: block, View: math.MaxInt64}, api.ErrForm},
		{"advances at the bounds", api.Tree{Nodes: block, Advances: []int64{0, 1, api.Max - 1, api.Max}}, api.OK},
		{"an advance of -1", api.Tree{Nodes: block, Advances: []int64{-1}}, api.ErrForm},
		{"a last advance of -1", api.Tree{Nodes: block, Advances: []int64{0, 5, -1}}, api.ErrForm},
		{"an advance of Max and one", api.Tree{Nodes: block, Advances: []int64{5, api.Max + 1, 5}}, api.ErrForm},
		{"the least advance", api.Tree{Nodes: block, Advances: []int64{math.MinInt64}}, api.ErrForm},
		{"the greatest advance", api.Tree{Nodes: block, Advances: []int64{math.MaxInt64}}, api.ErrForm},
		{"as many advances as may be", api.Tree{Nodes: block, Advances: make([]int64, api.MaxUnits)}, api.OK},
		{"one advance more", api.Tree{Nodes: block, Advances: make([]int64, api.MaxUnits+1)}, api.ErrMany},
		{"the last of the most advances is wrong", api.Tree{Nodes: block, Advances: append(make([]int64, api.MaxUnits-1), -1)}, api.ErrForm},
		{"no nodes", api.Tree{View: 5}, api.ErrForm},
		{"no nodes, an empty list", api.Tree{Nodes: []api.Node{}}, api.ErrForm},
	} {
		ask(t, c.name, c.y, 0, c.e)
	}
}

func TestCheckOfManyNodes(t *testing.T) {
	ask(t, "as many nodes as may be", fan(api.MaxNodes), 0, api.OK)
	ask(t, "one node more", fan(api.MaxNodes+1), 0, api.ErrMany)
	y := fan(api.MaxNodes)
	y.Nodes[api.MaxNodes-1].Parent = -1
	ask(t, "the last one of the most nodes is wrong", y, api.MaxNodes-1, api.ErrForm)
}

func TestCheckOfDeepNodes(t *testing.T) {
	ask(t, "as deep as may be", chain(api.MaxDepth), 0, api.OK)
	ask(t, "one deeper", chain(api.MaxDepth+1), api.MaxDepth, api.ErrDeep)
	ask(t, "much deeper", chain(api.MaxNodes), api.MaxDepth, api.ErrDeep)

	// The deepest nodes may have siblings, and once those are left others may be as deep again.
	y := chain(api.MaxDepth)
	deepest := func(parent int) { y.Nodes = append(y.Nodes, api.Node{Parent: parent, Style: api.Style{Kind: b}}) }
	deepest(api.MaxDepth - 2)
	deepest(0)
	for range api.MaxDepth - 2 {
		deepest(len(y.Nodes) - 1)
	}
	ask(t, "as deep as may be, more than once", y, 0, api.OK)
	deepest(len(y.Nodes) - 1)
	ask(t, "one deeper, the second time", y, len(y.Nodes)-1, api.ErrDeep)
	text := chain(api.MaxDepth + 1)
	text.Nodes[api.MaxDepth].Style.Kind = x
	ask(t, "a text that is too deep", text, api.MaxDepth, api.ErrDeep)
}

func TestCheckNamesTheFirstError(t *testing.T) {
	block := made([]uint8{b}, -1).Nodes
	tooMany := make([]int64, api.MaxUnits+1)
	tooMany[0] = -1
	ask(t, "too many advances ahead of no nodes", api.Tree{Advances: tooMany}, 0, api.ErrMany)
	ask(t, "too many advances ahead of View, and of an advance", api.Tree{Nodes: block, Advances: tooMany, View: -1}, 0, api.ErrMany)
	crowd := fan(api.MaxNodes + 1)
	crowd.View, crowd.Nodes[0].Parent, crowd.Advances = -1, 7, []int64{-1}
	ask(t, "too many nodes ahead of all else", crowd, 0, api.ErrMany)

	big := with(made([]uint8{b}, -1), 0, runOver)
	big.View = -1
	ask(t, "View ahead of the node 0", big, 0, api.ErrForm)
	late := with(made([]uint8{b, x}, -1, 0), 1, runOver)
	late.Advances = []int64{5, -5}
	ask(t, "an advance ahead of a later node", late, 0, api.ErrForm)

	ask(t, "the node 0: Parent ahead of its units", with(made([]uint8{b}, 0), 0, runOver), 0, api.ErrForm)
	ask(t, "the node 0: its units ahead of its kind", with(made([]uint8{x}, -1), 0, runOver), 0, api.ErrMany)
	ask(t, "the node 0: its units ahead of its style", with(with(made([]uint8{9}, -1), 0, runOver), 0, wrong), 0, api.ErrMany)
	ask(t, "the node 0: its units ahead of its floating", with(with(made([]uint8{b}, -1), 0, runOver), 0, floatLeft), 0, api.ErrMany)
	ask(t, "Parent ahead of units", with(made([]uint8{b, x}, -1, -1), 1, runOver), 1, api.ErrForm)
	ask(t, "units ahead of the style", with(with(made([]uint8{b, x}, -1, 0), 1, runOver), 1, wrong), 1, api.ErrMany)
	ask(t, "units ahead of the parent's kind", with(made([]uint8{b, x, x}, -1, 0, 1), 2, runOver), 2, api.ErrMany)
	ask(t, "units ahead of a Flex as parent", with(made([]uint8{b, f, x}, -1, 0, 1), 2, runOver), 2, api.ErrMany)
	ask(t, "units ahead of the siblings' kind", with(made([]uint8{b, b, x}, -1, 0, 0), 2, runOver), 2, api.ErrMany)
	ask(t, "a lesser node's form ahead of units", with(made([]uint8{b, f, x, x}, -1, 0, 1, 1), 3, runOver), 2, api.ErrForm)
	ask(t, "a lesser node's units ahead of form", with(made([]uint8{b, x, b}, -1, 0, 0), 1, runOver), 1, api.ErrMany)

	deep := func(change ...func(s *api.Style)) api.Tree {
		y := chain(api.MaxDepth + 2)
		for _, c := range change {
			c(&y.Nodes[api.MaxDepth].Style)
		}
		return y
	}
	ask(t, "units ahead of depth", deep(runOver), api.MaxDepth, api.ErrMany)
	ask(t, "depth ahead of the style", deep(wrong), api.MaxDepth, api.ErrDeep)
	ask(t, "depth ahead of the units' style", deep(letters), api.MaxDepth, api.ErrDeep)
	inText := deep()
	inText.Nodes[api.MaxDepth-1].Style.Kind = x
	ask(t, "depth ahead of the parent's kind", inText, api.MaxDepth, api.ErrDeep)
	inFlex := deep(floatLeft)
	inFlex.Nodes[api.MaxDepth-1].Style.Kind = f
	ask(t, "depth ahead of a Flex as parent", inFlex, api.MaxDepth, api.ErrDeep)
	astray := deep()
	astray.Nodes[api.MaxDepth].Parent = -1
	ask(t, "Parent ahead of depth", astray, api.MaxDepth, api.ErrForm)
	early := deep()
	early.Nodes[api.MaxDepth-1].Style.Grow = -1
	ask(t, "a lesser node's style ahead of depth", early, api.MaxDepth-1, api.ErrForm)
}

// climb: the nodes of which a node is below, the nearest one first, as chapter 5 has its words.
func climb(t api.Tree, i int) []int {
	var up []int
	for {
		p := t.Nodes[i].Parent
		if p < 0 || p >= i {
			return up
		}
		up = append(up, p)
		i = p
	}
}

// formOf is P5.1's second part, of one node: does ErrForm hold of its parent, and does it hold of the rest?
func formOf(t api.Tree, i int) (parent, rest bool) {
	n := t.Nodes[i]
	kind := func(j int) uint8 { return t.Nodes[j].Style.Kind }
	aside := n.Style.Float != 0 || n.Style.Clear != 0
	if i == 0 {
		return n.Parent != -1, !style.Right(n.Style) || kind(0) != b || aside
	}
	if n.Parent != i-1 && !slices.Contains(climb(t, i-1), n.Parent) {
		return true, false
	}
	eldest := slices.IndexFunc(t.Nodes, func(m api.Node) bool { return m.Parent == n.Parent })
	switch kind(n.Parent) {
	case x:
		rest = true
	case f:
		rest = kind(i) == x || aside
	case b:
		rest = (kind(i) == x) != (kind(eldest) == x)
	}
	return false, rest || !style.Right(n.Style)
}

// checkByWords is P5.1, told word by word.
func checkByWords(t api.Tree) (int, api.Errno) {
	if len(t.Nodes) == 0 {
		return 0, api.ErrForm
	}
	for i, n := range t.Nodes {
		parent, rest := formOf(t, i)
		switch {
		case parent:
			return i, api.ErrForm
		case len(n.Style.Units) > 65536:
			return i, api.ErrMany
		case 1+len(climb(t, i)) > 512:
			return i, api.ErrDeep
		case rest:
			return i, api.ErrForm
		}
	}
	return 0, api.OK
}

// all tells all trees of n nodes whose parents and styles are among those (the parents hang on the node).
func all(n int, parents func(i int) []int, styles []api.Style, yield func(t api.Tree)) {
	t := api.Tree{Nodes: make([]api.Node, n)}
	var set func(i int)
	set = func(i int) {
		if i == n {
			yield(t)
			return
		}
		for _, p := range parents(i) {
			for _, s := range styles {
				t.Nodes[i] = api.Node{Parent: p, Style: s}
				set(i + 1)
			}
		}
	}
	set(0)
}

// wild: parents that may be, and others.
func wild(i int) []int {
	return []int{-1, 0, 1, 2, 3, math.MinInt, math.MaxInt}
}

// ahead: the numbers ahead of a node's own, and no parent.
func ahead(i int) []int {
	l := []int{-1}
	for p := range i {
		l = append(l, p)
	}
	return l
}

// under: as ahead, but that all nodes have a parent, where they may.
func under(i int) []int { return ahead(i)[min(i, 1):] }

// kindsAlone: a style of each kind, and nothing in it.
func kindsAlone() []api.Style { return []api.Style{{Kind: b}, {Kind: f}, {Kind: x}} }

// someStyles: of each kind some, right and wrong ones.
func someStyles() []api.Style {
	return append(kindsAlone(),
		api.Style{}, api.Style{Kind: 4}, api.Style{Kind: b, Float: api.SideLeft}, api.Style{Kind: b, Clear: api.SideBoth},
		api.Style{Kind: f, Float: api.SideRight}, api.Style{Kind: f, Clear: api.SideRight}, api.Style{Kind: x, Units: []uint16{97}},
		api.Style{Kind: x, Clear: api.SideLeft}, api.Style{Kind: b, Units: []uint16{97}}, api.Style{Kind: f, Flow: true}, api.Style{Kind: b, Flow: true},
	)
}

// smallTrees tells all small trees, right and wrong ones.
func smallTrees(yield func(t api.Tree)) {
	for n := range 4 {
		all(n, ahead, someStyles(), yield)
		all(n, wild, kindsAlone(), yield)
	}
	for _, n := range []int{4, 5} {
		all(n, ahead, kindsAlone(), yield)
	}
	all(6, under, kindsAlone(), yield)
	all(7, ahead, kindsAlone()[:1], yield)
}

func TestCheckOfAllSmallTrees(t *testing.T) {
	right, asked := 0, 0
	smallTrees(func(y api.Tree) {
		node, e := Check(y)
		wantNode, wantE := checkByWords(y)
		if node != wantNode || e != wantE {
			t.Fatalf("P5.1: %+v: %d, %v; want %d, %v", y.Nodes, node, e, wantNode, wantE)
		}
		asked++
		if e == api.OK {
			right++
		}
	})
	if right < 1000 || asked-right < 1000 {
		t.Errorf("of %d trees %d were right", asked, right)
	}
}

// kin holds Depths, Kids and Last against the words of the chapter.
func kin(t *testing.T, y api.Tree) {
	t.Helper()
	n := len(y.Nodes)
	depths, kids, last := make([]int, n), make([][]int, n), make([]int, n)
	for i := range n {
		up := climb(y, i)
		depths[i] = 1 + len(up)
		last[i] = i
		if len(up) > 0 {
			kids[up[0]] = append(kids[up[0]], i)
		}
		for _, a := range up {
			last[a] = i
		}
	}
	if got := Depths(y); !slices.Equal(got, depths) {
		t.Fatalf("P5.2: Depths of %+v: %v; want %v", y.Nodes, got, depths)
	}
	if got := Kids(y); !slices.EqualFunc(got, kids, slices.Equal[[]int]) {
		t.Fatalf("P5.2: Kids of %+v: %v; want %v", y.Nodes, got, kids)
	}
	if got := Last(y); !slices.Equal(got, last) {
		t.Fatalf("P5.2: Last of %+v: %v; want %v", y.Nodes, got, last)
	}
}

func TestKinByHand(t *testing.T) {
	for _, c := range []struct {
		name         string
		parents      []int
		depths, last []int
		kids         [][]int
	}{
		{"no nodes", nil, nil, nil, nil},
		{"one node", []int{-1}, []int{1}, []int{0}, [][]int{nil}},
		{"a tree", []int{-1, 0, 1, 0, 3}, []int{1, 2, 3, 2, 3}, []int{4, 2, 2, 4, 4}, [][]int{{1, 3}, {2}, nil, {4}, nil}},
		{"its own parent", []int{0, 1}, []int{1, 1}, []int{0, 1}, [][]int{nil, nil}},
		{"parents behind", []int{1, 2, 0}, []int{1, 1, 2}, []int{2, 1, 2}, [][]int{{2}, nil, nil}},
		{"no preorder", []int{-1, 0, 1, 0, 2, 1}, []int{1, 2, 3, 2, 4, 3}, []int{5, 5, 4, 3, 4, 5}, [][]int{{1, 3}, {2, 5}, {4}, nil, nil, nil}},
		{"two trees", []int{-1, 0, -1, 2, 0}, []int{1, 2, 1, 2, 2}, []int{4, 1, 3, 3, 4}, [][]int{{1, 4}, nil, {3}, nil, nil}},
		{"wild numbers", []int{math.MaxInt, math.MinInt, -2, 9, 2}, []int{1, 1, 1, 1, 2}, []int{0, 1, 4, 3, 4}, [][]int{nil, nil, {4}, nil, nil}},
	} {
		y := made(make([]uint8, len(c.parents)), c.parents...)
		if got := Depths(y); !slices.Equal(got, c.depths) {
			t.Errorf("P5.2: %s: Depths %v; want %v", c.name, got, c.depths)
		}
		if got := Kids(y); !slices.EqualFunc(got, c.kids, slices.Equal[[]int]) {
			t.Errorf("P5.2: %s: Kids %v; want %v", c.name, got, c.kids)
		}
		if got := Last(y); !slices.Equal(got, c.last) {
			t.Errorf("P5.2: %s: Last %v; want %v", c.name, got, c.last)
		}
	}
}

func TestKinOfAllSmallTrees(t *testing.T) {
	for n := range 5 {
		all(n, wild, kindsAlone()[:1], func(y api.Tree) { kin(t, y) })
	}
	all(6, ahead, kindsAlone()[:1], func(y api.Tree) { kin(t, y) })
	all(3, ahead, someStyles(), func(y api.Tree) { kin(t, y) })
}

// TestKinOfGreatTrees asks of trees that Check refuses, for they have more nodes, or deeper ones, than may be.
func TestKinOfGreatTrees(t *testing.T) {
	const n = api.MaxNodes + 5
	y := chain(n)
	if d := Depths(y); len(d) != n || d[n-1] != n {
		t.Error("P5.2: Depths of a long chain")
	}
	if l := Last(y); len(l) != n || l[0] != n-1 || l[n/2] != n-1 {
		t.Error("P5.2: Last of a long chain")
	}
	if k := Kids(y); len(k) != n || !slices.Equal(k[n-2], []int{n - 1}) || len(k[n-1]) != 0 {
		t.Error("P5.2: Kids of a long chain")
	}
	y = fan(n)
	if d := Depths(y); len(d) != n || d[0] != 1 || d[n-1] != 2 {
		t.Error("P5.2: Depths of a wide fan")
	}
	if l := Last(y); len(l) != n || l[0] != n-1 || l[1] != 1 {
		t.Error("P5.2: Last of a wide fan")
	}
	if k := Kids(y); len(k) != n || len(k[0]) != n-1 || !slices.IsSorted(k[0]) {
		t.Error("P5.2: Kids of a wide fan")
	}
}

func TestRootByHand(t *testing.T) {
	for _, c := range []struct {
		name  string
		y     api.Tree
		roots []int
	}{
		{"the node 0", made([]uint8{b}, -1), []int{0}},
		{"blocks", chain(4), []int{0}},
		{"a Flex, and its children", made([]uint8{b, b, x, f, b, b, b}, -1, 0, 1, 0, 3, 4, 3), []int{0, 3, 4, 6}},
		{"a Flex in a Flex, and texts in an item", made([]uint8{b, f, f, b, x, x}, -1, 0, 1, 2, 3, 3), []int{0, 1, 2, 3}},
		{"a block in an item", made([]uint8{b, f, b, b, b}, -1, 0, 1, 2, 3), []int{0, 1, 2}},
		{"one has Flow", with(chain(4), 2, flows), []int{0, 2}},
		{"one floats left", with(chain(4), 3, floatLeft), []int{0, 3}},
		{"one floats right", with(fan(4), 2, floatRight), []int{0, 2}},
		{"one clears left", with(fan(4), 2, clearLeft), []int{0}},
		{"one clears both", with(fan(4), 2, clearBoth), []int{0}},
		{"the node 0 has Flow", with(chain(2), 0, flows), []int{0}},
		{"an item has Flow", with(made([]uint8{b, f, b, b}, -1, 0, 1, 2), 2, flows), []int{0, 1, 2}},
		{"a Flex floats", with(made([]uint8{b, f, b, b}, -1, 0, 1, 0), 1, floatLeft), []int{0, 1, 2}},
		{"texts", made([]uint8{b, x, x}, -1, 0, 0), []int{0}},
		{"no nodes", api.Tree{}, nil},
	} {
		if _, e := Check(c.y); e != api.OK && len(c.y.Nodes) > 0 {
			t.Errorf("%s: no tree", c.name)
		}
		n := len(c.y.Nodes)
		for i := -3; i < n+3; i++ {
			if Root(c.y, i) != slices.Contains(c.roots, i) {
				t.Errorf("P5.3: %s: the node %d: %v", c.name, i, Root(c.y, i))
			}
		}
		for _, i := range []int{math.MinInt, math.MinInt + 1, math.MaxInt - 1, math.MaxInt} {
			if Root(c.y, i) {
				t.Errorf("P5.3: %s: %d, no node, is a root", c.name, i)
			}
		}
	}
}

// TestRootOfTexts asks of texts that have what makes a box a root.
func TestRootOfTexts(t *testing.T) {
	y := made([]uint8{x, x, f, x, x}, -1, 0, 0, 2, 0)
	y.Nodes[1].Style.Flow = true
	y.Nodes[4].Style.Float = api.SideRight
	for i := range y.Nodes {
		if Root(y, i) != (i == 2) {
			t.Errorf("P5.3: the node %d: %v", i, Root(y, i))
		}
	}
}

func TestRootOfAllSmallTrees(t *testing.T) {
	smallTrees(func(y api.Tree) {
		_, e := Check(y)
		for i := range len(y.Nodes) + 1 {
			// Of a tree that Check refuses it has to come back, and no more.
			got := Root(y, i)
			if e != api.OK {
				continue
			}
			want := false
			if i < len(y.Nodes) && y.Nodes[i].Style.Kind != x {
				s := y.Nodes[i].Style
				want = i == 0 || s.Kind == f || s.Flow || s.Float != 0 || y.Nodes[y.Nodes[i].Parent].Style.Kind == f
			}
			if got != want {
				t.Fatalf("P5.3: %+v: the node %d: %v", y.Nodes, i, got)
			}
		}
	})
}

func TestWhatFollowsOfTreesThatMayBe(t *testing.T) {
	smallTrees(func(y api.Tree) {
		if _, e := Check(y); e != api.OK {
			return
		}
		kids, last := Kids(y), Last(y)
		for i := range y.Nodes {
			for j := range y.Nodes {
				if slices.Contains(climb(y, j), i) != (i < j && j <= last[i]) {
					t.Fatalf("P5.4: %+v: is %d below %d, of which Last is %d?", y.Nodes, j, i, last[i])
				}
			}
			if y.Nodes[i].Style.Kind == x && len(kids[i]) > 0 {
				t.Fatalf("P5.4: %+v: the Text %d has children", y.Nodes, i)
			}
			for _, k := range kids[i] {
				if (y.Nodes[k].Style.Kind == x) != (y.Nodes[kids[i][0]].Style.Kind == x) {
					t.Fatalf("P5.4: %+v: the children of %d are Texts and boxes", y.Nodes, i)
				}
			}
			prefix := y
			prefix.Nodes = y.Nodes[:i+1]
			if node, e := Check(prefix); node != 0 || e != api.OK {
				t.Fatalf("P5.4: the first %d of %+v: %d, %v", i+1, y.Nodes, node, e)
			}
		}
	})
}

func TestWhatIsHandedInStays(t *testing.T) {
	build := func() api.Tree {
		y := made([]uint8{b, b, x, f, b, b, b, 0}, -1, 0, 1, 0, 3, 0, 5, 9)
		y.Nodes[2].Style.Units = []uint16{97, 98, 99}[:2]
		y.Advances, y.View = []int64{5, 6, 7}[:2], 300
		y.Nodes = y.Nodes[:7]
		return y
	}
	y := build()
	Check(y)
	Depths(y)
	Kids(y)
	Last(y)
	for i := range 9 {
		Root(y, i)
	}
	want := build()
	for _, l := range []*api.Tree{&y, &want} {
		l.Nodes, l.Advances = l.Nodes[:8], l.Advances[:3]
		l.Nodes[2].Style.Units = l.Nodes[2].Style.Units[:3]
	}
	if !reflect.DeepEqual(y, want) {
		t.Errorf("R3: changed: %+v", y)
	}
}

func TestAnswersAreNewMemory(t *testing.T) {
	y := made([]uint8{b, b, b, b, b, b, b, b}, -1, 0, 1, 1, 0, 4, 4, 0)
	depths, last, kids := Depths(y), Last(y), Kids(y)
	for i := range y.Nodes {
		depths[i], last[i] = -7, -7
		// The room behind each list's end is its own, too.
		l := kids[i][:cap(kids[i])]
		for j := range l {
			l[j] = -100 - i
		}
	}
	for i, k := range kids {
		for _, got := range k[:cap(k)] {
			if got != -100-i {
				t.Errorf("R3: the children of %d share their list with others", i)
			}
		}
	}
	kin(t, y)
	y.Nodes[7].Parent = 4
	kin(t, y)
}
