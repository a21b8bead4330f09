package codec

import (
	"bytes"
	"cmp"
	"math"
	"math/rand"
	"reflect"
	"slices"
	"testing"

	"jamb/api"
)

// lenByWords is a length's field, told by words.
func lenByWords(b []byte, field byte, l api.Len) []byte {
	if l.Kind == 0 && l.N == 0 {
		return b
	}
	return slices.Concat(b, []byte{field}, numberByWords(int64(l.Kind)), numberByWords(l.N))
}

// plainByWords is the field of a number, told by words.
func plainByWords(b []byte, field byte, n int64) []byte {
	if n == 0 {
		return b
	}
	return slices.Concat(b, []byte{field}, numberByWords(n))
}

// styleByWords is a style's bytes, told by words.
func styleByWords(s api.Style) (b []byte) {
	if s.Flow {
		b = append(b, 1)
	}
	if s.Wrap {
		b = append(b, 2)
	}
	for i, n := range []int64{int64(s.Kind), int64(s.Float), int64(s.Clear), int64(s.Align), int64(s.Justify), int64(s.Items), s.Line, int64(s.Order), s.Grow, s.Shrink} {
		b = plainByWords(b, byte(3+i), n)
	}
	for i, l := range []api.Len{s.W, s.H, s.MinW, s.MaxW, s.MinH, s.MaxH, s.Basis} {
		b = lenByWords(b, byte(13+i), l)
	}
	for i, side := range []int{api.Top, api.Right, api.Bottom, api.Left} {
		b = lenByWords(b, byte(20+i), s.Margin[side])
	}
	for i, n := range s.Border {
		b = plainByWords(b, byte(24+i), n)
	}
	for i, n := range s.Padding {
		b = plainByWords(b, byte(28+i), n)
	}
	if len(s.Units) > 0 {
		b = slices.Concat(b, []byte{32}, numberByWords(int64(len(s.Units))))
		for _, u := range s.Units {
			b = append(b, byte(u/256), byte(u%256))
		}
	}
	return append(b, 0)
}

// writeByWords is P7.2's Write, told by words.
func writeByWords(t api.Tree) []byte {
	b := slices.Concat(numberByWords(t.View), numberByWords(int64(len(t.Advances))))
	for _, a := range t.Advances {
		b = append(b, numberByWords(a)...)
	}
	b = append(b, numberByWords(int64(len(t.Nodes)))...)
	for _, n := range t.Nodes {
		b = slices.Concat(b, numberByWords(int64(n.Parent)), styleByWords(n.Style))
	}
	return b
}

// guess goes through bytes and takes them for whatever they may mean; broken, where they end too early.
type guess struct {
	b      []byte
	broken bool
}

func (g *guess) one() byte {
	if len(g.b) == 0 {
		g.broken = true
		return 0
	}
	c := g.b[0]
	g.b = g.b[1:]
	return c
}

func (g *guess) number() (n int64) {
	first := g.one()
	for range first % 16 {
		n = n*256 + int64(g.one())
	}
	if first/16 == 1 {
		return -n
	}
	return n
}

func (g *guess) length() api.Len {
	kind := uint8(g.number())
	return api.Len{Kind: kind, N: g.number()}
}

func (g *guess) style() (s api.Style) {
	for n := g.one(); n != 0 && !g.broken; n = g.one() {
		g.field(&s, n)
	}
	return s
}

func (g *guess) field(s *api.Style, n byte) {
	small := map[byte]*uint8{3: &s.Kind, 4: &s.Float, 5: &s.Clear, 6: &s.Align, 7: &s.Justify, 8: &s.Items}
	plain := map[byte]*int64{9: &s.Line, 11: &s.Grow, 12: &s.Shrink}
	lens := map[byte]*api.Len{13: &s.W, 14: &s.H, 15: &s.MinW, 16: &s.MaxW, 17: &s.MinH, 18: &s.MaxH, 19: &s.Basis}
	switch {
	case n == 1:
		s.Flow = true
	case n == 2:
		s.Wrap = true
	case n == 10:
		s.Order = int(g.number())
	case small[n] != nil:
		*small[n] = uint8(g.number())
	case plain[n] != nil:
		*plain[n] = g.number()
	case lens[n] != nil:
		*lens[n] = g.length()
	case 20 <= n && n <= 23:
		s.Margin[n-20] = g.length()
	case 24 <= n && n <= 27:
		s.Border[n-24] = g.number()
	case 28 <= n && n <= 31:
		s.Padding[n-28] = g.number()
	case n == 32:
		for many := g.number(); many > 0 && !g.broken; many-- {
			high := uint16(g.one())
			s.Units = append(s.Units, high*256+uint16(g.one()))
		}
	}
}

func (g *guess) tree() (t api.Tree) {
	t.View = g.number()
	for many := g.number(); many > 0 && !g.broken; many-- {
		t.Advances = append(t.Advances, g.number())
	}
	for many := g.number(); many > 0 && !g.broken; many-- {
		parent := g.number()
		t.Nodes = append(t.Nodes, api.Node{Parent: int(parent), Style: g.style()})
	}
	return t
}

// readByWords is P7.2's Read, told by words: the one tree that the bytes may mean, if they are that tree's bytes.
func readByWords(b []byte) (api.Tree, api.Errno) {
	g := &guess{b: b}
	if t := g.tree(); !g.broken && bytes.Equal(writeByWords(t), b) {
		return t, api.OK
	}
	return api.Tree{}, api.ErrBytes
}

// read holds Read, and what it answers written again, against the chapter's words; it answers whether there is a tree.
func read(t *testing.T, b []byte) bool {
	t.Helper()
	got, e := Read(b)
	want, f := readByWords(b)
	if e != f || !reflect.DeepEqual(got, want) {
		t.Fatalf("P7.2: Read(%x): %+v, %d, not %+v, %d", b, got, e, want, f)
	}
	if e == api.OK && !bytes.Equal(Write(got), b) {
		t.Fatalf("P7.3: %x is read and written as %x", b, Write(got))
	}
	return e == api.OK
}

// write holds Write against the chapter's words, and what it answers, read again, against the tree.
func write(t *testing.T, tree api.Tree) []byte {
	t.Helper()
	b := Write(tree)
	if !bytes.Equal(b, writeByWords(tree)) {
		t.Fatalf("P7.2: Write(%+v): %x, not %x", tree, b, writeByWords(tree))
	}
	if again, e := Read(b); e != api.OK || !reflect.DeepEqual(again, tree) {
		t.Fatalf("P7.3: %+v is written, and read as %+v, %d", tree, again, e)
	}
	return b
}

// short: all bytes of these letters that are so long or shorter.
func short(letters []byte, long int) [][]byte {
	all := [][]byte{{}}
	for from := 0; long > 0; long-- {
		to := len(all)
		for _, b := range all[from:to] {
			for _, c := range letters {
				all = append(all, append(slices.Clip(b), c))
			}
		}
		from = to
	}
	return all
}

func TestAllShortBytes(t *testing.T) {
	trees := 0
	for _, b := range short([]byte{0, 1, 2, 3, 16, 17, 32, 33}, 5) {
		// With a view, and with no advances, ahead.
		for _, ahead := range []string{"", "\x00", "\x00\x00"} {
			if read(t, append([]byte(ahead), b...)) {
				trees++
			}
		}
	}
	if trees < 100 {
		t.Errorf("of all short bytes %d are trees", trees)
	}
}

func TestAllShortStyles(t *testing.T) {
	for _, b := range short([]byte{0, 1, 2, 3, 8, 9, 10, 12, 13, 17, 19, 20, 24, 31, 32}, 4) {
		read(t, []byte(loneBytes(string(b))))
	}
}

// anyNumber: one of any size, often one at an edge.
func anyNumber(r *rand.Rand) int64 {
	switch r.Intn(4) {
	case 0:
		return 0
	case 1:
		return int64(r.Intn(5)) - 2
	case 2:
		return []int64{math.MinInt64, math.MaxInt64, 255, 256, -255, -256, api.Max, -api.Max}[r.Intn(8)]
	}
	return int64(r.Uint64()) >> r.Intn(64)
}

// anyLen: one of any kind, right or wrong.
func anyLen(r *rand.Rand) api.Len {
	if r.Intn(2) == 0 {
		return api.Len{}
	}
	return api.Len{Kind: uint8(anyNumber(r)), N: anyNumber(r)}
}

// anyStyle: one of any fields, right or wrong.
func anyStyle(r *rand.Rand) (s api.Style) {
	s.Flow, s.Wrap, s.Order = r.Intn(3) == 0, r.Intn(3) == 0, int(anyNumber(r))
	for _, at := range []*uint8{&s.Kind, &s.Float, &s.Clear, &s.Align, &s.Justify, &s.Items} {
		*at = uint8(anyNumber(r))
	}
	for _, at := range []*int64{&s.Line, &s.Grow, &s.Shrink} {
		*at = anyNumber(r)
	}
	for _, at := range []*api.Len{&s.W, &s.H, &s.MinW, &s.MaxW, &s.MinH, &s.MaxH, &s.Basis} {
		*at = anyLen(r)
	}
	for side := range 4 {
		s.Margin[side], s.Border[side], s.Padding[side] = anyLen(r), anyNumber(r), anyNumber(r)
	}
	for range r.Intn(6) {
		s.Units = append(s.Units, uint16(r.Intn(1<<16)))
	}
	return s
}

// anyTree: one of any nodes, which may hardly ever be.
func anyTree(r *rand.Rand) api.Tree {
	t := api.Tree{View: anyNumber(r)}
	for range r.Intn(4) {
		t.Advances = append(t.Advances, anyNumber(r))
	}
	for range r.Intn(4) {
		n := api.Node{Parent: int(anyNumber(r))}
		if r.Intn(3) > 0 {
			n.Style = anyStyle(r)
		}
		t.Nodes = append(t.Nodes, n)
	}
	return t
}

func TestAnyTreeGoesOver(t *testing.T) {
	r := rand.New(rand.NewSource(1))
	all := [][]byte{}
	for range 5000 {
		all = append(all, write(t, anyTree(r)))
	}
	slices.SortFunc(all, func(a, b []byte) int { return cmp.Or(bytes.Compare(a, b), len(a)-len(b)) })
	all = slices.CompactFunc(all, bytes.Equal)
	// Bytes that others begin with stand, so ordered, right ahead of one of these.
	for i := 1; i < len(all); i++ {
		if bytes.HasPrefix(all[i], all[i-1]) {
			t.Errorf("P7.3: %x are the beginning of %x", all[i-1], all[i])
		}
	}
}

func TestBytesThatAreAlmostATree(t *testing.T) {
	r := rand.New(rand.NewSource(2))
	trees := 0
	for range 15 {
		b := Write(anyTree(r))
		for at := range b {
			if _, e := Read(b[:at]); e != api.ErrBytes {
				t.Fatalf("P7.3: %x, a beginning of %x: %d", b[:at], b, e)
			}
			others := [][]byte{slices.Delete(slices.Clone(b), at, at+1)}
			for _, c := range []byte{0, 1, 2, 16, 17, 32, 33, 255, byte(r.Intn(256)), b[at] + 1, b[at] - 1, b[at] ^ 16} {
				others = append(others, slices.Concat(b[:at], []byte{c}, b[at+1:]), slices.Insert(slices.Clone(b), at, c))
			}
			for _, other := range others {
				if read(t, other) {
					trees++
				}
			}
		}
		for c := range 256 {
			if _, e := Read(append(slices.Clip(b), byte(c))); e != api.ErrBytes {
				t.Fatalf("P7.3: %x with %x behind: %d", b, c, e)
			}
		}
	}
	if trees == 0 {
		t.Error("no bytes that are almost a tree are another one")
	}
}

func TestAnyBytes(t *testing.T) {
	r := rand.New(rand.NewSource(3))
	for range 100000 {
		b := make([]byte, r.Intn(40))
		for i := range b {
			b[i] = byte(r.Intn(256) >> r.Intn(8))
		}
		read(t, b)
	}
}

// TestTreesBeyondTheLimits: what is beyond a tree's limits goes over as well.
func TestTreesBeyondTheLimits(t *testing.T) {
	tree := api.Tree{View: -5, Advances: make([]int64, api.MaxUnits+1), Nodes: make([]api.Node, api.MaxNodes+1)}
	for i := range tree.Advances {
		tree.Advances[i] = int64(-i)
	}
	for i := range tree.Nodes {
		tree.Nodes[i].Parent = 2*i - 7
		tree.Nodes[i].Style.Kind = uint8(i)
	}
	tree.Nodes[1].Style.Units = make([]uint16, api.MaxRun+1)
	for i := range tree.Nodes[1].Style.Units {
		tree.Nodes[1].Style.Units[i] = uint16(i)
	}
	b := Write(tree)
	if again, e := Read(b); e != api.OK || !reflect.DeepEqual(again, tree) {
		t.Errorf("P7.2: a tree beyond the limits is not read: %d", e)
	}
	if got, e := Read(b[:len(b)-1]); e != api.ErrBytes || !reflect.DeepEqual(got, api.Tree{}) {
		t.Errorf("P7.2: a tree beyond the limits, without its last byte: %d", e)
	}
}

func TestListsWithoutAnything(t *testing.T) {
	empty := api.Tree{Advances: []int64{}, Nodes: []api.Node{}}
	if b := Write(empty); string(b) != "\x00\x00\x00" {
		t.Errorf("P7.2: Write of empty lists: %x", b)
	}
	if b := Write(lone(api.Style{Units: []uint16{}})); string(b) != loneBytes("") {
		t.Errorf("P7.2: Write of empty units: %x", b)
	}
	got, e := Read([]byte(loneBytes("")))
	if e != api.OK || got.Advances != nil || got.Nodes[0].Style.Units != nil {
		t.Errorf("P7.2: Read: lists without anything are none: %+v, %d", got, e)
	}
}

// fill writes over the room behind a list's end.
func fill[T any](l []T, x T) {
	for i := range l[len(l):cap(l)] {
		l[len(l):cap(l)][i] = x
	}
}

func TestNothingIsShared(t *testing.T) {
	tree := api.Tree{Advances: []int64{1, 2, 3}, Nodes: make([]api.Node, 5)}
	for i := range tree.Nodes {
		tree.Nodes[i].Style.Units = []uint16{1, 2, 3}[:1+i%3]
	}
	b := Write(tree)
	kept, as := slices.Clone(b), writeByWords(tree)
	first, _ := Read(b)
	second, _ := Read(b)
	for i := range first.Nodes {
		fill(first.Nodes[i].Style.Units, 9)
		first.Nodes[i].Style.Units[0] = uint16(i)
	}
	fill(first.Nodes, api.Node{Parent: 9})
	fill(first.Advances, 9)
	first.Advances[0] = 7
	for i := range first.Nodes {
		if u := first.Nodes[i].Style.Units; len(u) != 1+i%3 || u[0] != uint16(i) || len(u) > 1 && u[1] != 2 {
			t.Errorf("R3: the units of the node %d hang on another list: %v", i, u)
		}
	}
	if !reflect.DeepEqual(second, tree) {
		t.Errorf("R3: two answers share memory: %+v", second)
	}
	if !bytes.Equal(b, kept) || !bytes.Equal(writeByWords(tree), as) {
		t.Error("R3: Read or Write has changed what it was handed")
	}
	other := Write(tree)
	fill(other, 9)
	clear(other)
	if !bytes.Equal(b, kept) {
		t.Error("R3: two answers of Write share memory")
	}
}
