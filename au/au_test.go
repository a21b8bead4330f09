package au

import (
	"math"
	"math/big"
	"slices"
	"testing"

	"jamb/api"
)

// edgeNumbers: those at, beside and beyond the bounds of lengths and of 64 bits, and some small ones, of both signs.
func edgeNumbers() []int64 {
	l := []int64{0, math.MinInt64, math.MinInt64 + 1}
	for _, x := range []int64{1, 2, 3, 7, 60, api.Whole - 1, api.Whole, api.Whole + 1, 1<<31 - 1, 1 << 32, api.Max - 1, api.Max, api.Max + 1, 2 * api.Max, 2*api.Max + 1, 1<<62 - 1, 1 << 62, 1<<62 + 1, math.MaxInt64 - 1, math.MaxInt64} {
		l = append(l, x, -x)
	}
	return l
}

// cutBig is P1.1's cutting, told of numbers without a bound.
func cutBig(x *big.Int) (int64, bool) {
	if x.Cmp(big.NewInt(api.Max)) > 0 {
		return api.Max, true
	}
	if x.Cmp(big.NewInt(-api.Max)) < 0 {
		return -api.Max, true
	}
	return x.Int64(), false
}

func sumBig(l ...int64) (int64, bool) {
	total := new(big.Int)
	for _, x := range l {
		total.Add(total, big.NewInt(x))
	}
	return cutBig(total)
}

func mulDivBig(a, b, c int64) (int64, bool) {
	if c == 0 {
		return 0, true
	}
	over, under := new(big.Int).Mul(big.NewInt(a), big.NewInt(b)), big.NewInt(c)
	if c < 0 {
		over.Neg(over)
		under.Neg(under)
	}
	// Div rounds down where what it divides by is above 0.
	return cutBig(over.Div(over, under))
}

func TestCutAtTheBounds(t *testing.T) {
	for _, c := range []struct {
		x, want int64
		beyond  bool
	}{
		{0, 0, false}, {1, 1, false}, {-1, -1, false}, {18000, 18000, false},
		{api.Max - 1, api.Max - 1, false}, {api.Max, api.Max, false}, {api.Max + 1, api.Max, true},
		{-api.Max + 1, -api.Max + 1, false}, {-api.Max, -api.Max, false}, {-api.Max - 1, -api.Max, true},
		{math.MaxInt64, api.Max, true}, {math.MinInt64, -api.Max, true},
	} {
		if x, beyond := Cut(c.x); x != c.want || beyond != c.beyond {
			t.Errorf("P1.1: Cut(%d): %d, %v; want %d, %v", c.x, x, beyond, c.want, c.beyond)
		}
	}
}

func TestCutTwiceIsCutOnce(t *testing.T) {
	for _, x := range edgeNumbers() {
		once, _ := Cut(x)
		if twice, beyond := Cut(once); twice != once || beyond {
			t.Errorf("P1.1: Cut(Cut(%d)): %d, %v; want %d, false", x, twice, beyond, once)
		}
	}
}

func TestSumByHand(t *testing.T) {
	for _, c := range []struct {
		l      []int64
		want   int64
		beyond bool
	}{
		{nil, 0, false},
		{[]int64{}, 0, false},
		{[]int64{-5}, -5, false},
		{[]int64{1, 2, -4}, -1, false},
		{[]int64{api.Max - 1, 1}, api.Max, false},
		{[]int64{api.Max, 1}, api.Max, true},
		{[]int64{-api.Max + 1, -1}, -api.Max, false},
		{[]int64{-api.Max, -1}, -api.Max, true},
		{[]int64{api.Max + 1, -1}, api.Max, false},
		{[]int64{api.Max, api.Max, -api.Max}, api.Max, false},
		{[]int64{math.MaxInt64, 1}, api.Max, true},
		{[]int64{math.MinInt64, -1}, -api.Max, true},
		{[]int64{math.MaxInt64, math.MaxInt64, 2}, api.Max, true},
		{[]int64{math.MinInt64, math.MinInt64}, -api.Max, true},
		{[]int64{math.MinInt64, math.MinInt64, 7}, -api.Max, true},
		{[]int64{math.MaxInt64, math.MaxInt64, math.MinInt64, math.MinInt64}, -2, false},
		{[]int64{math.MinInt64, math.MaxInt64}, -1, false},
	} {
		if x, beyond := Sum(c.l...); x != c.want || beyond != c.beyond {
			t.Errorf("P1.1: Sum(%v): %d, %v; want %d, %v", c.l, x, beyond, c.want, c.beyond)
		}
	}
}

func TestSumOfEdges(t *testing.T) {
	l := edgeNumbers()
	for _, a := range l {
		for _, b := range l {
			for _, c := range l {
				want, wantBeyond := sumBig(a, b, c)
				if x, beyond := Sum(a, b, c); x != want || beyond != wantBeyond {
					t.Fatalf("P1.1: Sum(%d, %d, %d): %d, %v; want %d, %v", a, b, c, x, beyond, want, wantBeyond)
				}
			}
		}
	}
}

func TestSumOfMany(t *testing.T) {
	const n = 1 << 16
	l := slices.Repeat([]int64{math.MaxInt64}, n)
	if x, beyond := Sum(l...); x != api.Max || !beyond {
		t.Errorf("P1.1: Sum of %d greatest numbers: %d, %v", n, x, beyond)
	}
	l = append(l, slices.Repeat([]int64{math.MinInt64}, n)...)
	if x, beyond := Sum(l...); x != -n || beyond {
		t.Errorf("P1.1: Sum of %d greatest and least numbers: %d, %v; want %d, false", n, x, beyond, -n)
	}
	if x, beyond := Sum(l[n:]...); x != -api.Max || !beyond {
		t.Errorf("P1.1: Sum of %d least numbers: %d, %v", n, x, beyond)
	}
}

func TestSumInAnyOrder(t *testing.T) {
	l := []int64{api.Max, math.MinInt64, 3, math.MaxInt64, -api.Max, math.MaxInt64, 9, math.MinInt64}
	want, wantBeyond := sumBig(l...)
	for i := range l {
		for j := range l {
			l[i], l[j] = l[j], l[i]
			if x, beyond := Sum(l...); x != want || beyond != wantBeyond {
				t.Errorf("P1.1: Sum(%v): %d, %v; want %d, %v", l, x, beyond, want, wantBeyond)
			}
		}
	}
}

func TestSumOfSums(t *testing.T) {
	l := []int64{api.Max - 9, 4, -api.Max, 5, -3, api.Max - 2, 1, 1}
	want, beyond := Sum(l...)
	if beyond {
		t.Fatalf("P1.1: Sum(%v) is beyond", l)
	}
	for i := range len(l) + 1 {
		a, far := Sum(l[:i]...)
		b, farther := Sum(l[i:]...)
		if far || farther {
			continue
		}
		if x, beyond := Sum(a, b); x != want || beyond {
			t.Errorf("P1.1: Sum of the sums before and from %d: %d, %v; want %d, false", i, x, beyond, want)
		}
	}
}

func TestSumLeavesItsList(t *testing.T) {
	room := []int64{5, math.MaxInt64, math.MinInt64, 7, 8}
	before := slices.Clone(room)
	Sum(room[:3]...)
	if !slices.Equal(room, before) {
		t.Errorf("R3: Sum changed what it was handed to %v", room)
	}
}

func TestMulDivByHand(t *testing.T) {
	for _, c := range []struct {
		a, b, c, want int64
		beyond        bool
	}{
		{7, 3, 2, 10, false}, {-7, 3, 2, -11, false}, {7, -3, 2, -11, false}, {7, 3, -2, -11, false},
		{-7, -3, 2, 10, false}, {-7, 3, -2, 10, false}, {7, -3, -2, 10, false}, {-7, -3, -2, -11, false},
		{8, 3, 2, 12, false}, {-8, 3, 2, -12, false}, {8, 3, -2, -12, false},
		{0, 5, 7, 0, false}, {5, 0, -7, 0, false}, {0, -5, 7, 0, false}, {0, 0, math.MinInt64, 0, false},
		{1, 1, 0, 0, true}, {0, 0, 0, 0, true}, {-1, 1, 0, 0, true}, {math.MinInt64, math.MaxInt64, 0, 0, true},
		{-1, 1, math.MaxInt64, -1, false}, {1, 1, math.MinInt64, -1, false}, {1, 1, math.MaxInt64, 0, false},
		{api.Max, api.Max, api.Max, api.Max, false},
		{-api.Max, api.Max, api.Max, -api.Max, false},
		{api.Max, 1, 1, api.Max, false}, {api.Max + 1, 1, 1, api.Max, true},
		{-api.Max, 1, 1, -api.Max, false}, {-api.Max - 1, 1, 1, -api.Max, true},
		{2*api.Max + 1, 1, 2, api.Max, false}, {2*api.Max + 2, 1, 2, api.Max, true},
		{-2*api.Max + 1, 1, 2, -api.Max, false}, {-2*api.Max - 1, 1, 2, -api.Max, true},
		{1 << 62, 1 << 62, 1 << 62, api.Max, true},
		{1 << 62, 4 * api.Whole, 1 << 62, 4 * api.Whole, false},
		{math.MaxInt64, math.MaxInt64, 1, api.Max, true},
		{math.MinInt64, math.MaxInt64, 1, -api.Max, true},
		{math.MinInt64, math.MinInt64, 1, api.Max, true},
		{math.MinInt64, math.MinInt64, math.MinInt64, -api.Max, true},
		{math.MinInt64, 5, math.MinInt64, 5, false},
		{math.MinInt64, 5, math.MaxInt64, -6, false},
		{math.MinInt64, 1, -1, api.Max, true},
	} {
		if x, beyond := MulDiv(c.a, c.b, c.c); x != c.want || beyond != c.beyond {
			t.Errorf("P1.2: MulDiv(%d, %d, %d): %d, %v; want %d, %v", c.a, c.b, c.c, x, beyond, c.want, c.beyond)
		}
	}
}

func TestMulDivOfEdges(t *testing.T) {
	l := edgeNumbers()
	for _, a := range l {
		for _, b := range l {
			for _, c := range l {
				want, wantBeyond := mulDivBig(a, b, c)
				if x, beyond := MulDiv(a, b, c); x != want || beyond != wantBeyond {
					t.Fatalf("P1.2: MulDiv(%d, %d, %d): %d, %v; want %d, %v", a, b, c, x, beyond, want, wantBeyond)
				}
			}
		}
	}
}

func TestMulDivOfSmall(t *testing.T) {
	for a := int64(-12); a <= 12; a++ {
		for b := int64(-5); b <= 5; b++ {
			for c := int64(-7); c <= 7; c++ {
				want, wantBeyond := mulDivBig(a, b, c)
				if x, beyond := MulDiv(a, b, c); x != want || beyond != wantBeyond {
					t.Errorf("P1.2: MulDiv(%d, %d, %d): %d, %v; want %d, %v", a, b, c, x, beyond, want, wantBeyond)
				}
			}
		}
	}
}

func TestMulDivTakesTheRestAway(t *testing.T) {
	for _, want := range []int64{0, 1, -1, 10, -11, api.Max - 1, api.Max, -api.Max} {
		for _, c := range []int64{1, 2, 3, 60, api.Whole, 1 << 22} {
			for _, more := range []int64{0, 1, c / 2, c - 1} {
				if more >= c {
					continue
				}
				if x, beyond := MulDiv(want*c+more, 1, c); x != want || beyond {
					t.Errorf("P1.2: the floor of %d times %d and %d more, divided by %d: %d, %v", want, c, more, c, x, beyond)
				}
			}
		}
	}
}

func TestPart(t *testing.T) {
	for _, c := range []struct {
		whole, n, want int64
		beyond         bool
	}{
		{600, 3333, 199, false}, {600, api.Whole, 600, false}, {600, 0, 0, false}, {0, 5000, 0, false},
		{1, 9999, 0, false}, {-1, 1, -1, false}, {-600, 3333, -200, false}, {600, -3333, -200, false},
		{api.Max, api.Whole, api.Max, false}, {api.Max, 10001, api.Max, true}, {-api.Max, 10001, -api.Max, true},
		{api.Max, api.MaxPart, api.Max, true}, {math.MaxInt64, 1, api.Max, true}, {math.MinInt64, -1, api.Max, true},
	} {
		if x, beyond := Part(c.whole, c.n); x != c.want || beyond != c.beyond {
			t.Errorf("P1.2: Part(%d, %d): %d, %v; want %d, %v", c.whole, c.n, x, beyond, c.want, c.beyond)
		}
	}
	for _, whole := range edgeNumbers() {
		for _, n := range edgeNumbers() {
			want, wantBeyond := mulDivBig(whole, n, 10000)
			if x, beyond := Part(whole, n); x != want || beyond != wantBeyond {
				t.Fatalf("P1.2: Part(%d, %d): %d, %v; want %d, %v", whole, n, x, beyond, want, wantBeyond)
			}
		}
	}
}

func TestWithin(t *testing.T) {
	for _, c := range []struct{ x, least, most, want int64 }{
		{5, 1, 3, 3}, {0, 1, 3, 1}, {2, 1, 3, 2}, {1, 1, 3, 1}, {3, 1, 3, 3}, {7, 2, 2, 2}, {-7, 2, 2, 2},
		{5, 4, 3, 4}, {4, 4, 3, 4}, {0, 4, 3, 4}, {3, 4, 3, 4},
		{-5, -3, -1, -3}, {0, -3, -1, -1},
		{math.MaxInt64, math.MinInt64, math.MaxInt64, math.MaxInt64},
		{math.MinInt64, math.MinInt64, math.MaxInt64, math.MinInt64},
		{0, math.MaxInt64, math.MinInt64, math.MaxInt64},
		{api.Max + 5, 0, math.MaxInt64, api.Max + 5},
	} {
		if x := Within(c.x, c.least, c.most); x != c.want {
			t.Errorf("P1.3: Within(%d, %d, %d): %d; want %d", c.x, c.least, c.most, x, c.want)
		}
	}
}
