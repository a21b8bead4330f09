package style

import (
	"math"
	"math/big"
	"reflect"
	"slices"
	"testing"

	"jamb/api"
)

func px(n int64) api.Len   { return api.Len{Kind: api.LenPx, N: n} }
func part(n int64) api.Len { return api.Len{Kind: api.LenPart, N: n} }

// field is a field of a box's style: how it is set, to what it may be set, and to what not.
type field[T any] struct {
	name        string
	set         func(s *api.Style, x T)
	may, mayNot []T
}

// ask sets a field of styles of both kinds of boxes, which are right but for it, and asks of each whether it may be.
func (f field[T]) ask(t *testing.T) {
	t.Helper()
	for _, s := range []api.Style{{Kind: api.Block}, {Kind: api.Flex}, fullest(api.Block), fullest(api.Flex)} {
		for _, x := range f.may {
			f.set(&s, x)
			if !Right(s) {
				t.Errorf("P4.1: of kind %d %s may be %v", s.Kind, f.name, x)
			}
		}
		for _, x := range f.mayNot {
			f.set(&s, x)
			if Right(s) {
				t.Errorf("P4.1: of kind %d %s may not be %v", s.Kind, f.name, x)
			}
		}
	}
}

// fullest: a box's style whose fields are all as great as they may be.
func fullest(kind uint8) api.Style {
	return api.Style{
		Kind: kind, Flow: true, Float: api.SideRight, Clear: api.SideBoth,
		W: part(api.MaxPart), MinW: px(api.Max), MaxW: part(api.MaxPart), Basis: px(api.Max),
		H: px(api.Max), MinH: px(api.Max), MaxH: px(api.Max),
		Margin:  [4]api.Len{px(api.Max), part(api.MaxPart), px(-api.Max), part(-api.MaxPart)},
		Border:  [4]int64{api.Max, api.Max, api.Max, api.Max},
		Padding: [4]int64{api.Max, api.Max, api.Max, api.Max},
		Align:   api.AtMiddle, Line: api.Max, Wrap: true, Justify: api.Between, Items: api.Stretched,
		Order: api.MaxOrder, Grow: api.MaxFactor, Shrink: api.MaxFactor,
	}
}

func TestRightOfKinds(t *testing.T) {
	for kind := range 256 {
		want := kind == 1 || kind == 2 || kind == 3
		if Right(api.Style{Kind: uint8(kind)}) != want {
			t.Errorf("P4.1: a style of kind %d with all else zero: not %v", kind, want)
		}
		if kind == 3 {
			continue
		}
		if Right(fullest(uint8(kind))) != want {
			t.Errorf("P4.1: the fullest style, of kind %d: not %v", kind, want)
		}
		if Right(api.Style{Kind: uint8(kind), Units: []uint16{97}}) {
			t.Errorf("P4.1: a style of kind %d with units is right", kind)
		}
	}
}

func TestRightOfSmallNumbers(t *testing.T) {
	for _, f := range []field[uint8]{
		{"Float", func(s *api.Style, x uint8) { s.Float = x }, []uint8{0, 1, 2}, []uint8{3, 4, 128, 255}},
		{"Clear", func(s *api.Style, x uint8) { s.Clear = x }, []uint8{0, 1, 2, 3}, []uint8{4, 5, 128, 255}},
		{"Align", func(s *api.Style, x uint8) { s.Align = x }, []uint8{0, 1, 2}, []uint8{3, 4, 128, 255}},
		{"Justify", func(s *api.Style, x uint8) { s.Justify = x }, []uint8{0, 1, 2, 3}, []uint8{4, 5, 128, 255}},
		{"Items", func(s *api.Style, x uint8) { s.Items = x }, []uint8{0, 1, 2, 3}, []uint8{4, 5, 128, 255}},
	} {
		f.ask(t)
	}
}

func TestRightOfNumbers(t *testing.T) {
	sizes, noSizes := []int64{0, 1, 60, api.Max - 1, api.Max}, []int64{-1, -api.Max, api.Max + 1, math.MaxInt64, math.MinInt64}
	factors, noFactors := []int64{0, 1, 59, 60}, []int64{-1, 61, math.MaxInt64, math.MinInt64}
	fields := []field[int64]{
		{"Line", func(s *api.Style, x int64) { s.Line = x }, sizes, noSizes},
		{"Grow", func(s *api.Style, x int64) { s.Grow = x }, factors, noFactors},
		{"Shrink", func(s *api.Style, x int64) { s.Shrink = x }, factors, noFactors},
		{"Order", func(s *api.Style, x int64) { s.Order = int(x) },
			[]int64{0, 1, -1, 1<<20 - 1, 1 << 20, -1 << 20},
			[]int64{1<<20 + 1, -1<<20 - 1, math.MaxInt64, math.MinInt64}},
	}
	for i := range 4 {
		fields = append(fields,
			field[int64]{"a Border", func(s *api.Style, x int64) { s.Border[i] = x }, sizes, noSizes},
			field[int64]{"a Padding", func(s *api.Style, x int64) { s.Padding[i] = x }, sizes, noSizes})
	}
	for _, f := range fields {
		f.ask(t)
	}
}

func TestRightOfLengths(t *testing.T) {
	never := []api.Len{
		{N: 1}, {N: -1}, {N: api.Max}, {N: math.MinInt64}, {Kind: 3}, {Kind: 3, N: 1}, {Kind: 4}, {Kind: 255},
		px(api.Max + 1), px(math.MaxInt64), px(-api.Max - 1), px(math.MinInt64),
		part(100001), part(api.Max), part(math.MaxInt64), part(-100001), part(-api.Max), part(math.MinInt64),
	}
	always := []api.Len{{}, px(0), px(1), px(100001), px(api.Max - 1), px(api.Max)}
	parts := []api.Len{part(0), part(1), part(10000), part(99999), part(100000)}
	pxBelow := []api.Len{px(-1), px(-100001), px(1 - api.Max), px(-api.Max)}
	partsBelow := []api.Len{part(-1), part(-10000), part(-99999), part(-100000)}

	wides, noWides := slices.Concat(always, parts), slices.Concat(never, pxBelow, partsBelow)
	highs, noHighs := always, slices.Concat(never, parts, pxBelow, partsBelow)
	margins := slices.Concat(always, parts, pxBelow, partsBelow)
	fields := []field[api.Len]{
		{"W", func(s *api.Style, x api.Len) { s.W = x }, wides, noWides},
		{"MinW", func(s *api.Style, x api.Len) { s.MinW = x }, wides, noWides},
		{"MaxW", func(s *api.Style, x api.Len) { s.MaxW = x }, wides, noWides},
		{"Basis", func(s *api.Style, x api.Len) { s.Basis = x }, wides, noWides},
		{"H", func(s *api.Style, x api.Len) { s.H = x }, highs, noHighs},
		{"MinH", func(s *api.Style, x api.Len) { s.MinH = x }, highs, noHighs},
		{"MaxH", func(s *api.Style, x api.Len) { s.MaxH = x }, highs, noHighs},
	}
	for i := range 4 {
		fields = append(fields, field[api.Len]{"a Margin", func(s *api.Style, x api.Len) { s.Margin[i] = x }, margins, never})
	}
	for _, f := range fields {
		f.ask(t)
	}
}

func TestRightOfFlagsAndUnits(t *testing.T) {
	for _, f := range []field[bool]{
		{"Flow", func(s *api.Style, x bool) { s.Flow = x }, []bool{false, true}, nil},
		{"Wrap", func(s *api.Style, x bool) { s.Wrap = x }, []bool{false, true}, nil},
	} {
		f.ask(t)
	}
	field[[]uint16]{"Units", func(s *api.Style, x []uint16) { s.Units = x },
		[][]uint16{nil, {}, make([]uint16, 0, 5)}, [][]uint16{{0}, {97, 98}, make([]uint16, api.MaxRun), make([]uint16, api.MaxRun+1)}}.ask(t)
}

func TestRightOfTextsUnits(t *testing.T) {
	for _, c := range []struct {
		units []uint16
		want  bool
	}{
		{nil, true}, {[]uint16{}, true}, {[]uint16{97}, true}, {[]uint16{0, api.Newline, api.Space, 0xd800, 0xffff}, true},
		{make([]uint16, 65535), true}, {make([]uint16, 65536), true},
		{make([]uint16, 65537), false}, {make([]uint16, 1<<17), false},
		{make([]uint16, 5, 1<<17), true},
	} {
		if Right(api.Style{Kind: api.Text, Units: c.units}) != c.want {
			t.Errorf("P4.1: a text of %d units: not %v", len(c.units), c.want)
		}
	}
}

// parts goes through all that a value is made of, and hands on where each bool and each number is.
func parts(v reflect.Value, name string, yield func(v reflect.Value, name string)) {
	switch v.Kind() {
	case reflect.Struct:
		for i := range v.NumField() {
			parts(v.Field(i), name+"."+v.Type().Field(i).Name, yield)
		}
	case reflect.Array:
		for i := range v.Len() {
			parts(v.Index(i), name+"[]", yield)
		}
	case reflect.Bool, reflect.Uint8, reflect.Int, reflect.Int64:
		yield(v, name)
	}
}

// numbersOf: what a bool or a number of a style is set to, to see whether it is asked.
func numbersOf(v reflect.Value) []reflect.Value {
	var l []reflect.Value
	switch v.Kind() {
	case reflect.Bool:
		l = append(l, reflect.ValueOf(true))
	case reflect.Uint8:
		for x := range 255 {
			l = append(l, reflect.ValueOf(uint8(x+1)))
		}
	default:
		for _, x := range []int64{1, -1, 2, 1 << 8, 1 << 16, 1 << 32, api.Max, -api.Max, math.MaxInt64, math.MinInt64} {
			l = append(l, reflect.ValueOf(x).Convert(v.Type()))
		}
	}
	return l
}

func TestNothingButUnitsIsInATextThatIsRight(t *testing.T) {
	for _, units := range [][]uint16{nil, {97, 98}} {
		s := api.Style{Kind: api.Text, Units: units}
		found := 0
		parts(reflect.ValueOf(&s).Elem(), "", func(v reflect.Value, name string) {
			if name == ".Kind" {
				return
			}
			found++
			for _, x := range numbersOf(v) {
				v.Set(x)
				if Right(s) {
					t.Errorf("P4.1: a text with %s %v is right", name, x)
				}
			}
			v.SetZero()
			if !Right(s) {
				t.Errorf("P4.1: a text with %s zero again is not right", name)
			}
		})
		// 2 flags, 5 choices, 7 sizes and 4 margins of two parts each, 8 sides, 4 numbers.
		if found != 2+5+2*(7+4)+8+4 {
			t.Errorf("%d parts of a style were asked", found)
		}
	}
}

func TestEachNumberOfABoxHasBounds(t *testing.T) {
	for _, kind := range []uint8{api.Block, api.Flex} {
		s := api.Style{Kind: kind}
		parts(reflect.ValueOf(&s).Elem(), "", func(v reflect.Value, name string) {
			if v.Kind() == reflect.Bool {
				return
			}
			before := reflect.ValueOf(v.Interface())
			for _, x := range numbersOf(v)[len(numbersOf(v))-2:] {
				v.Set(x)
				if Right(s) {
					t.Errorf("P4.1: of kind %d with %s %v: right", kind, name, x)
				}
			}
			v.Set(before)
		})
	}
}

func TestRightLeavesWhatItIsHanded(t *testing.T) {
	room := []uint16{97, 98, 99, 100}
	s := api.Style{Kind: api.Text, Units: room[:2]}
	Right(s)
	s.Kind = api.Block
	Right(s)
	if !slices.Equal(room, []uint16{97, 98, 99, 100}) {
		t.Errorf("R3: Right changed the units to %v", room)
	}
}

// someLengths: of each kind, and of numbers that are no kind's, at, beside and beyond the bounds.
func someLengths() []api.Len {
	var l []api.Len
	for _, kind := range []uint8{0, 1, 2, 3, 255} {
		for _, n := range []int64{0, 1, 5, 3333, 5000, 10000, 10001, 100000, api.Max, api.Max + 1, math.MaxInt64} {
			l = append(l, api.Len{Kind: kind, N: n}, api.Len{Kind: kind, N: -n})
		}
		l = append(l, api.Len{Kind: kind, N: math.MinInt64})
	}
	return l
}

// someWholes: at, beside and beyond the bounds, and some between.
func someWholes() []int64 {
	return []int64{0, 1, 7, 18000, api.Max - 1, api.Max, api.Max + 1, math.MaxInt64, -1, -7, -api.Max, math.MinInt64}
}

// ofBig is P4.2, told by numbers without a bound.
func ofBig(l api.Len, whole int64) (n int64, auto, beyond bool) {
	x := big.NewInt(0)
	switch l.Kind {
	case 1:
		x.SetInt64(l.N)
	case 2:
		// Div rounds down where what it divides by is above 0.
		x.Div(x.Mul(big.NewInt(whole), big.NewInt(l.N)), big.NewInt(10000))
	}
	auto = l.Kind != 1 && l.Kind != 2
	if x.Cmp(big.NewInt(api.Max)) > 0 {
		return api.Max, auto, true
	}
	if x.Cmp(big.NewInt(-api.Max)) < 0 {
		return -api.Max, auto, true
	}
	return x.Int64(), auto, false
}

func TestOfByHand(t *testing.T) {
	for _, c := range []struct {
		l            api.Len
		whole, n     int64
		auto, beyond bool
	}{
		{part(5000), 7, 3, false, false}, {api.Len{}, 7, 0, true, false}, {px(9), 7, 9, false, false}, {px(0), 7, 0, false, false},
		{px(-9), 7, -9, false, false}, {px(-9), -7, -9, false, false},
		{px(api.Max), 0, api.Max, false, false}, {px(api.Max + 1), 0, api.Max, false, true}, {px(math.MaxInt64), 0, api.Max, false, true},
		{px(-api.Max), 0, -api.Max, false, false}, {px(-api.Max - 1), 0, -api.Max, false, true}, {px(math.MinInt64), 0, -api.Max, false, true},
		{part(0), 7, 0, false, false}, {part(10000), 7, 7, false, false}, {part(100000), 7, 70, false, false}, {part(9999), 7, 6, false, false},
		{part(-5000), 7, -4, false, false}, {part(5000), -7, -4, false, false}, {part(-5000), -7, 3, false, false},
		{part(10000), api.Max, api.Max, false, false}, {part(10001), api.Max, api.Max, false, true}, {part(-10001), api.Max, -api.Max, false, true},
		{part(-10000), api.Max, -api.Max, false, false}, {part(1), math.MaxInt64, api.Max, false, true}, {part(math.MaxInt64), math.MinInt64, -api.Max, false, true},
		{part(math.MaxInt64), 0, 0, false, false}, {part(math.MaxInt64), 1, api.Max, false, true},
		{api.Len{N: 5}, 7, 0, true, false}, {api.Len{N: math.MaxInt64}, 7, 0, true, false}, {api.Len{N: math.MinInt64}, math.MinInt64, 0, true, false},
		{api.Len{Kind: 3}, 7, 0, true, false}, {api.Len{Kind: 3, N: math.MaxInt64}, 7, 0, true, false}, {api.Len{Kind: 255, N: 5}, 7, 0, true, false},
	} {
		if n, auto, beyond := Of(c.l, c.whole); n != c.n || auto != c.auto || beyond != c.beyond {
			t.Errorf("P4.2: Of(%v, %d): %d, %v, %v; want %d, %v, %v", c.l, c.whole, n, auto, beyond, c.n, c.auto, c.beyond)
		}
	}
}

func TestOfEdges(t *testing.T) {
	for _, l := range someLengths() {
		for _, whole := range someWholes() {
			wantN, wantAuto, wantBeyond := ofBig(l, whole)
			if n, auto, beyond := Of(l, whole); n != wantN || auto != wantAuto || beyond != wantBeyond {
				t.Errorf("P4.2: Of(%v, %d): %d, %v, %v; want %d, %v, %v", l, whole, n, auto, beyond, wantN, wantAuto, wantBeyond)
			}
		}
	}
}

func TestSizeByHand(t *testing.T) {
	auto, odd := api.Len{}, api.Len{Kind: 3, N: math.MaxInt64}
	far := px(api.Max + 1)
	for _, c := range []struct {
		l, least, most api.Len
		whole, n       int64
		auto, beyond   bool
	}{
		{px(5), px(2), px(8), 10, 5, false, false}, {px(5), px(5), px(5), 10, 5, false, false},
		{px(9), px(2), px(6), 10, 6, false, false}, {px(1), px(2), px(6), 10, 2, false, false},
		{px(5), px(8), px(6), 10, 8, false, false}, {px(9), px(8), px(6), 10, 8, false, false}, {px(7), px(8), px(6), 10, 8, false, false},
		{px(9), auto, auto, 10, 9, false, false}, {px(9), auto, px(6), 10, 6, false, false}, {px(1), px(2), auto, 10, 2, false, false},
		{px(0), auto, auto, 10, 0, false, false}, {px(api.Max), auto, auto, 10, api.Max, false, false},
		{px(-9), auto, auto, 10, 0, false, false}, {px(-9), px(-12), auto, 10, -9, false, false}, {px(9), px(-12), px(-3), 10, -3, false, false},
		{px(9), auto, px(0), 10, 0, false, false}, {px(9), auto, part(5000), 10, 5, false, false}, {px(1), part(5000), auto, 10, 5, false, false},
		{part(5000), part(6000), part(2000), 10, 6, false, false}, {part(5000), part(1000), part(2000), 10, 2, false, false},
		{part(5000), part(1000), part(9000), 11, 5, false, false}, {px(5), part(100000), auto, 10, 100, false, false},
		{px(9), odd, odd, 10, 9, false, false}, {px(-9), odd, odd, 10, 0, false, false},
		{far, auto, auto, 10, api.Max, false, true}, {far, auto, px(6), 10, 6, false, true}, {px(5), far, px(6), 10, api.Max, false, true},
		{px(5), px(2), far, 10, 5, false, true}, {px(-api.Max - 1), px(-api.Max), auto, 10, -api.Max, false, true},
		{part(10001), auto, px(6), api.Max, 6, false, true}, {px(5), part(10001), auto, api.Max, api.Max, false, true}, {px(5), auto, part(10001), api.Max, 5, false, true},
		{px(5), part(10000), auto, api.Max, api.Max, false, false},
		{auto, px(8), auto, 10, 0, true, false}, {auto, auto, auto, 10, 0, true, false}, {auto, px(8), px(6), 10, 0, true, false},
		{auto, far, far, 10, 0, true, false}, {auto, part(10001), part(-10001), api.Max, 0, true, false},
		{api.Len{N: math.MaxInt64}, far, far, 10, 0, true, false}, {odd, px(8), far, 10, 0, true, false},
	} {
		if n, auto, beyond := Size(c.l, c.least, c.most, c.whole); n != c.n || auto != c.auto || beyond != c.beyond {
			t.Errorf("P4.3: Size(%v, %v, %v, %d): %d, %v, %v; want %d, %v, %v", c.l, c.least, c.most, c.whole, n, auto, beyond, c.n, c.auto, c.beyond)
		}
	}
}

// sizeBig is P4.3, told by ofBig.
func sizeBig(l, least, most api.Len, whole int64) (n int64, auto, beyond bool) {
	n, auto, beyond = ofBig(l, whole)
	if auto {
		return n, auto, beyond
	}
	low, _, lowBeyond := ofBig(least, whole)
	top, boundless, topBeyond := ofBig(most, whole)
	if !boundless && n > top {
		n = top
	}
	if n < low {
		n = low
	}
	return n, false, beyond || lowBeyond || topBeyond
}

func TestSizeOfEdges(t *testing.T) {
	lengths := someLengths()
	for _, l := range lengths {
		for _, least := range lengths {
			for _, most := range lengths {
				for _, whole := range []int64{7, 18000, api.Max, -7, math.MinInt64} {
					wantN, wantAuto, wantBeyond := sizeBig(l, least, most, whole)
					n, auto, beyond := Size(l, least, most, whole)
					if n != wantN || auto != wantAuto || beyond != wantBeyond {
						t.Fatalf("P4.3: Size(%v, %v, %v, %d): %d, %v, %v; want %d, %v, %v", l, least, most, whole, n, auto, beyond, wantN, wantAuto, wantBeyond)
					}
					if n < -api.Max || n > api.Max {
						t.Fatalf("what follows of 4: Size(%v, %v, %v, %d) is no length: %d", l, least, most, whole, n)
					}
				}
			}
		}
	}
}

func TestSizesOfARightStyleAreNotBelowZero(t *testing.T) {
	lengths := someLengths()
	for _, l := range lengths {
		for _, least := range lengths {
			for _, most := range lengths {
				if !Right(api.Style{Kind: api.Block, W: l, MinW: least, MaxW: most}) {
					continue
				}
				for _, whole := range []int64{0, 1, 7, 18000, api.Max} {
					if n, _, _ := Size(l, least, most, whole); n < 0 {
						t.Fatalf("what follows of 4: Size(%v, %v, %v, %d) is below 0: %d", l, least, most, whole, n)
					}
				}
			}
		}
	}
}

func TestAStyleStaysRightIfALengthBecomesAuto(t *testing.T) {
	for _, kind := range []uint8{api.Block, api.Flex} {
		s := fullest(kind)
		lengths := []*api.Len{&s.W, &s.H, &s.MinW, &s.MaxW, &s.MinH, &s.MaxH, &s.Basis}
		for i := range s.Margin {
			lengths = append(lengths, &s.Margin[i])
		}
		for i, l := range lengths {
			before := *l
			*l = api.Len{}
			if !Right(s) {
				t.Errorf("what follows of 4: of kind %d with length %d auto: not right", kind, i)
			}
			*l = before
		}
		for i, l := range lengths {
			*l = api.Len{}
			if !Right(s) {
				t.Errorf("what follows of 4: of kind %d with the lengths up to %d auto: not right", kind, i)
			}
		}
	}
}
