package codec

import (
	"bytes"
	"math"
	"math/big"
	"reflect"
	"slices"
	"testing"

	"jamb/api"
)

// numberByWords is a number's bytes, told of numbers without a bound.
func numberByWords(n int64) []byte {
	size := new(big.Int).Abs(big.NewInt(n)).Bytes()
	first := byte(len(size))
	if n < 0 {
		first += 16
	}
	return append([]byte{first}, size...)
}

// takeByWords is Take, told by asking each number that may be meant for its bytes.
func takeByWords(b []byte, at int) (int64, int, api.Errno) {
	if at < 0 || at > len(b) {
		return 0, 0, api.ErrArg
	}
	for to := at + 1; to <= len(b) && to <= at+9; to++ {
		size := new(big.Int).SetBytes(b[at+1 : to])
		for _, n := range []*big.Int{size, new(big.Int).Neg(size)} {
			if n.IsInt64() && bytes.Equal(numberByWords(n.Int64()), b[at:to]) {
				return n.Int64(), to, api.OK
			}
		}
	}
	return 0, 0, api.ErrBytes
}

// edges: numbers at and beside those at which there is a byte more, and some between them.
func edges() []int64 {
	l := []int64{0, math.MinInt64, math.MaxInt64, 300, 0x0102030405060708, api.Max, api.Max + 1}
	for i := range 63 {
		for _, n := range []int64{1<<i - 1, 1 << i, 1<<i + 1} {
			l = append(l, n, -n, math.MinInt64+n, math.MaxInt64-n)
		}
	}
	slices.Sort(l)
	return slices.Compact(l)
}

func TestPut(t *testing.T) {
	for _, c := range []struct {
		n    int64
		want string
	}{
		{0, "\x00"}, {1, "\x01\x01"}, {16, "\x01\x10"}, {255, "\x01\xff"}, {256, "\x02\x01\x00"}, {300, "\x02\x01\x2c"},
		{-1, "\x11\x01"}, {-255, "\x11\xff"}, {-256, "\x12\x01\x00"}, {-300, "\x12\x01\x2c"},
		{1 << 40, "\x06\x01\x00\x00\x00\x00\x00"}, {-1<<40 + 1, "\x15\xff\xff\xff\xff\xff"},
		{math.MaxInt64, "\x08\x7f\xff\xff\xff\xff\xff\xff\xff"},
		{math.MinInt64 + 1, "\x18\x7f\xff\xff\xff\xff\xff\xff\xff"},
		{math.MinInt64, "\x18\x80\x00\x00\x00\x00\x00\x00\x00"},
	} {
		for _, ahead := range []string{"", "\x00", "ab", "\x08\x7f"} {
			if b := Put([]byte(ahead), c.n); string(b) != ahead+c.want {
				t.Errorf("P7.1: Put(%x, %d): %x", ahead, c.n, b)
			}
		}
		if b := Put(nil, c.n); string(b) != c.want {
			t.Errorf("P7.1: Put(nil, %d): %x", c.n, b)
		}
	}
}

func TestPutIsNewMemory(t *testing.T) {
	for _, n := range []int64{0, 5, -5, math.MinInt64} {
		room := []byte("abcdefghijklmnop")
		b := Put(room[:3], n)
		if string(room) != "abcdefghijklmnop" {
			t.Errorf("R3: Put(%d) has written into the room behind the end: %s", n, room)
		}
		room[0] = 'z'
		if b[0] != 'a' {
			t.Errorf("P7.1: Put(%d) has not answered new memory", n)
		}
		again := Put(room[:3], n)
		again[1] = 'y'
		if b[1] != 'b' || room[1] != 'b' {
			t.Errorf("P7.1: Put(%d) has answered the same memory twice", n)
		}
	}
}

func TestNumbersBothWays(t *testing.T) {
	for _, n := range edges() {
		b := Put(nil, n)
		if !bytes.Equal(b, numberByWords(n)) {
			t.Errorf("P7.1: Put(%d): %x", n, b)
		}
		// What stands ahead and behind is not asked.
		for _, c := range []struct{ ahead, behind string }{{"", ""}, {"\xff", "\x00"}, {"\x08\x01", "\x01\x01"}, {"\x11", "\xff\xff"}} {
			all := []byte(c.ahead + string(b) + c.behind)
			keep := slices.Clone(all)
			m, next, e := Take(all, len(c.ahead))
			if m != n || next != len(c.ahead)+len(b) || e != api.OK {
				t.Errorf("P7.1: Take(%x, %d): %d, %d, %d", all, len(c.ahead), m, next, e)
			}
			if !bytes.Equal(all, keep) {
				t.Errorf("R3: Take has changed %x to %x", keep, all)
			}
		}
		for to := range len(b) {
			// The room behind the end is none of the bytes.
			if m, next, e := Take(b[:to], 0); m != 0 || next != 0 || e != api.ErrBytes {
				t.Errorf("P7.1: Take(%x, 0): %d, %d, %d", b[:to], m, next, e)
			}
		}
	}
}

// take holds Take against the chapter's words.
func take(t *testing.T, b []byte, at int) {
	t.Helper()
	n, next, e := Take(b, at)
	m, place, f := takeByWords(b, at)
	if n != m || next != place || e != f {
		t.Errorf("P7.1: Take(%x, %d): %d, %d, %d, not %d, %d, %d", b, at, n, next, e, m, place, f)
	}
}

func TestTakeOfAnyBytes(t *testing.T) {
	for first := range 256 {
		take(t, []byte{byte(first)}, 0)
		for second := range 256 {
			take(t, []byte{byte(first), byte(second)}, 0)
		}
		for _, second := range []byte{0, 1, 0x10, 0x7f, 0x80, 0x81, 0xff} {
			for _, last := range []byte{0, 1, 0xff} {
				for long := range 20 {
					b := append([]byte{byte(first), second}, make([]byte, long)...)
					b[len(b)-1] = last
					for at := range 3 {
						take(t, b, at)
					}
				}
			}
		}
	}
}

func TestTakeOfAnyPlace(t *testing.T) {
	for _, b := range [][]byte{nil, {}, {0}, {1, 5}, {0, 1, 0, 2, 3, 4}, bytes.Repeat([]byte{1}, 30)} {
		for at := -3; at <= len(b)+3; at++ {
			take(t, b, at)
		}
		take(t, b, math.MinInt)
		take(t, b, math.MaxInt)
	}
	if _, _, e := Take(nil, 0); e != api.ErrBytes {
		t.Errorf("P7.1: a place at the end: %d", e)
	}
	if _, _, e := Take(nil, 1); e != api.ErrArg {
		t.Errorf("P7.1: a place behind the end: %d", e)
	}
}

// lone is the tree of one node of that style, with the parent 0 and the view 0.
func lone(s api.Style) api.Tree { return api.Tree{Nodes: []api.Node{{Style: s}}} }

// loneBytes: those of the tree of one node whose style's fields are these.
func loneBytes(fields string) string { return "\x00\x00\x01\x01\x00" + fields + "\x00" }

// goesOver asks that a tree is written so, and read from there.
func goesOver(t *testing.T, tree api.Tree, want string) {
	t.Helper()
	if b := Write(tree); string(b) != want {
		t.Errorf("P7.2: Write(%+v): %x, not %x", tree, b, want)
	}
	if got, e := Read([]byte(want)); e != api.OK || !reflect.DeepEqual(got, tree) {
		t.Errorf("P7.2: Read(%x): %+v, %d, not %+v", want, got, e, tree)
	}
}

func TestTrees(t *testing.T) {
	goesOver(t, api.Tree{}, "\x00\x00\x00")
	goesOver(t, api.Tree{View: 5, Advances: []int64{7}}, "\x01\x05\x01\x01\x01\x07\x00")
	goesOver(t, api.Tree{View: -1 << 63, Advances: []int64{0, -1, 300}}, "\x18\x80\x00\x00\x00\x00\x00\x00\x00\x01\x03\x00\x11\x01\x02\x01\x2c\x00")
	goesOver(t, api.Tree{Nodes: []api.Node{{Parent: -1, Style: api.Style{Kind: api.Block}}}}, "\x00\x00\x01\x01\x11\x01\x03\x01\x01\x00")
	goesOver(t, api.Tree{View: 1, Nodes: []api.Node{
		{Parent: -1, Style: api.Style{Kind: api.Block, Flow: true, Line: 12}},
		{Parent: 0, Style: api.Style{Kind: api.Text, Units: []uint16{'a', 0, 0xffff, 0x0102}}},
		{Parent: 300},
		{Parent: math.MinInt, Style: api.Style{Wrap: true}},
	}}, "\x01\x01\x00\x01\x04"+
		"\x11\x01\x01\x03\x01\x01\x09\x01\x0c\x00"+
		"\x00\x03\x01\x03\x20\x01\x04\x00a\x00\x00\xff\xff\x01\x02\x00"+
		"\x02\x01\x2c\x00"+
		"\x18\x80\x00\x00\x00\x00\x00\x00\x00\x02\x00")
}

func TestEachField(t *testing.T) {
	px := api.Len{Kind: api.LenPx, N: 258}
	for _, c := range []struct {
		s    api.Style
		want string
	}{
		{api.Style{}, ""},
		{api.Style{Flow: true}, "\x01"},
		{api.Style{Wrap: true}, "\x02"},
		{api.Style{Kind: 1}, "\x03\x01\x01"},
		{api.Style{Kind: 255}, "\x03\x01\xff"},
		{api.Style{Float: 2}, "\x04\x01\x02"},
		{api.Style{Clear: 3}, "\x05\x01\x03"},
		{api.Style{Align: 4}, "\x06\x01\x04"},
		{api.Style{Justify: 5}, "\x07\x01\x05"},
		{api.Style{Items: 128}, "\x08\x01\x80"},
		{api.Style{Line: 256}, "\x09\x02\x01\x00"},
		{api.Style{Order: -1}, "\x0a\x11\x01"},
		{api.Style{Grow: math.MinInt64}, "\x0b\x18\x80\x00\x00\x00\x00\x00\x00\x00"},
		{api.Style{Shrink: math.MaxInt64}, "\x0c\x08\x7f\xff\xff\xff\xff\xff\xff\xff"},
		{api.Style{W: px}, "\x0d\x01\x01\x02\x01\x02"},
		{api.Style{H: px}, "\x0e\x01\x01\x02\x01\x02"},
		{api.Style{MinW: px}, "\x0f\x01\x01\x02\x01\x02"},
		{api.Style{MaxW: px}, "\x10\x01\x01\x02\x01\x02"},
		{api.Style{MinH: px}, "\x11\x01\x01\x02\x01\x02"},
		{api.Style{MaxH: px}, "\x12\x01\x01\x02\x01\x02"},
		{api.Style{Basis: px}, "\x13\x01\x01\x02\x01\x02"},
		{api.Style{Basis: api.Len{Kind: 255, N: -1}}, "\x13\x01\xff\x11\x01"},
		{api.Style{Basis: api.Len{Kind: api.LenPart}}, "\x13\x01\x02\x00"},
		{api.Style{Basis: api.Len{N: 7}}, "\x13\x00\x01\x07"},
		{api.Style{Margin: [4]api.Len{api.Top: px}}, "\x14\x01\x01\x02\x01\x02"},
		{api.Style{Margin: [4]api.Len{api.Right: px}}, "\x15\x01\x01\x02\x01\x02"},
		{api.Style{Margin: [4]api.Len{api.Bottom: px}}, "\x16\x01\x01\x02\x01\x02"},
		{api.Style{Margin: [4]api.Len{api.Left: px}}, "\x17\x01\x01\x02\x01\x02"},
		{api.Style{Border: [4]int64{1, 2, 3, 4}}, "\x18\x01\x01\x19\x01\x02\x1a\x01\x03\x1b\x01\x04"},
		{api.Style{Border: [4]int64{api.Bottom: -9}}, "\x1a\x11\x09"},
		{api.Style{Padding: [4]int64{1, 2, 3, 4}}, "\x1c\x01\x01\x1d\x01\x02\x1e\x01\x03\x1f\x01\x04"},
		{api.Style{Padding: [4]int64{api.Left: 300}}, "\x1f\x02\x01\x2c"},
		{api.Style{Units: []uint16{0}}, "\x20\x01\x01\x00\x00"},
		{api.Style{Units: []uint16{0x1234, 0xff}}, "\x20\x01\x02\x12\x34\x00\xff"},
		{api.Style{Flow: true, Wrap: true, Items: 1, Order: 2, H: px, Units: []uint16{1}}, "\x01\x02\x08\x01\x01\x0a\x01\x02\x0e\x01\x01\x02\x01\x02\x20\x01\x01\x00\x01"},
	} {
		goesOver(t, lone(c.s), loneBytes(c.want))
	}
}

func TestReadRefuses(t *testing.T) {
	for _, c := range []struct{ why, b string }{
		{"nothing", ""},
		{"a view alone", "\x00"},
		{"no number of nodes", "\x00\x00"},
		{"a byte behind the tree", "\x00\x00\x00\x00"},
		{"a number that begins with 0", "\x02\x00\x01\x00\x00"},
		{"a number of no bytes below 0", "\x10\x00\x00"},
		{"a number of nine bytes", "\x09\x01\x01\x01\x01\x01\x01\x01\x01\x01\x00\x00"},
		{"a view beyond 64 bits", "\x08\x80\x00\x00\x00\x00\x00\x00\x00\x00\x00"},
		{"fewer advances than none", "\x00\x11\x01\x00"},
		{"fewer advances than are told", "\x00\x01\x02\x00"},
		{"fewer nodes than none", "\x00\x00\x11\x01"},
		{"fewer nodes than are told", "\x00\x00\x01\x02\x00\x00"},
		{"more nodes than are told", "\x00\x00\x01\x01\x00\x00\x00\x00"},
		{"a parent of no bytes", "\x00\x00\x01\x01\x01"},
		{"a style without an end", "\x00\x00\x01\x01\x11\x01\x03\x01\x01"},
		{"a field's number without a value", "\x00\x00\x01\x01\x00\x03"},
		{"a kind that is 0", loneBytes("\x03\x00")},
		{"a kind below 0", loneBytes("\x03\x11\x01")},
		{"a kind beyond 255", loneBytes("\x03\x02\x01\x00")},
		{"a float that is 0", loneBytes("\x04\x00")},
		{"a float that is 256 and a bit", loneBytes("\x04\x02\x01\x01")},
		{"items of 64 bits", loneBytes("\x08\x08\x01\x00\x00\x00\x00\x00\x00\x01")},
		{"a line that is 0", loneBytes("\x09\x00")},
		{"an order that is 0", loneBytes("\x0a\x00")},
		{"a length that is zero", loneBytes("\x0d\x00\x00")},
		{"a length without its N", "\x00\x00\x01\x01\x00\x0d\x01\x01"},
		{"a length of a kind below 0", loneBytes("\x0d\x11\x01\x00")},
		{"a length of a kind beyond 255", loneBytes("\x0d\x02\x01\x00\x00")},
		{"a margin that is zero", loneBytes("\x14\x00\x00")},
		{"a border that is 0", loneBytes("\x18\x00")},
		{"a padding that is 0", loneBytes("\x1f\x00")},
		{"no units", loneBytes("\x20\x00")},
		{"fewer units than none", loneBytes("\x20\x11\x01")},
		{"half a unit", "\x00\x00\x01\x01\x00\x20\x01\x01\x00"},
		{"fewer units than are told", loneBytes("\x20\x01\x02\x00\x01")},
		{"a field twice", loneBytes("\x03\x01\x01\x03\x01\x01")},
		{"a flag twice", loneBytes("\x01\x01")},
		{"fields the other way round", loneBytes("\x04\x01\x01\x03\x01\x01")},
		{"a field behind the units", loneBytes("\x20\x01\x01\x00\x01\x1f\x01\x01")},
		{"a field 33", loneBytes("\x21")},
		{"a field 33 with a value", loneBytes("\x21\x01\x01")},
		{"a field 255", loneBytes("\xff\x01\x01")},
	} {
		got, e := Read([]byte(c.b))
		if e != api.ErrBytes || !reflect.DeepEqual(got, api.Tree{}) {
			t.Errorf("P7.2: Read(%x), %s: %+v, %d", c.b, c.why, got, e)
		}
	}
}

// TestReadOfClaims: of many that are told of and not there, no room is made and nothing is waited for.
func TestReadOfClaims(t *testing.T) {
	for n := int64(1) << 24; n > 0; n <<= 1 {
		for _, many := range []int64{n, n - 1, math.MaxInt64 - n, -n, math.MinInt64 + n} {
			count := string(Put(nil, many))
			for _, b := range []string{"\x00" + count, "\x00" + count + "\x00\x00\x00", "\x00\x00" + count, "\x00\x00" + count + "\x00\x00\x00\x00", loneBytes("\x20" + count), loneBytes("\x20" + count + "\x00\x01")} {
				if got, e := Read([]byte(b)); e != api.ErrBytes || !reflect.DeepEqual(got, api.Tree{}) {
					t.Errorf("P7.2: Read(%x): %+v, %d", b, got, e)
				}
			}
		}
	}
}
