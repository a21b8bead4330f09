package edges

import (
	"math"
	"math/big"
	"slices"
	"testing"

	"jamb/api"
)

const (
	most  = math.MaxInt64
	least = math.MinInt64
)

func rect(x, y, w, h int64) api.Rect { return api.Rect{X: x, Y: y, W: w, H: h} }

// edgeNumbers: those at, beside and beyond the bounds of lengths and of 64 bits, and some small ones, of both signs.
func edgeNumbers() []int64 {
	return []int64{0, 1, -1, 2, 7, -7, api.Max - 1, api.Max, api.Max + 1, -api.Max, -api.Max - 1, 1 << 62, -1 << 62, most - 1, most, least, least + 1}
}

// sumBig is the sum of numbers, less others, without a bound.
func sumBig(l []int64, less ...int64) *big.Int {
	total := new(big.Int)
	for _, x := range l {
		total.Add(total, big.NewInt(x))
	}
	for _, x := range less {
		total.Sub(total, big.NewInt(x))
	}
	return total
}

// cutBig is au.Cut of a number without a bound.
func cutBig(x *big.Int) (int64, bool) {
	if x.Cmp(big.NewInt(api.Max)) > 0 {
		return api.Max, true
	}
	if x.Cmp(big.NewInt(-api.Max)) < 0 {
		return -api.Max, true
	}
	return x.Int64(), false
}

func TestSidesByHand(t *testing.T) {
	for i, c := range []struct {
		l    [][4]int64
		want [4]int64
		far  bool
	}{
		{nil, [4]int64{}, false},
		{[][4]int64{}, [4]int64{}, false},
		{[][4]int64{{1, 2, 3, 4}}, [4]int64{1, 2, 3, 4}, false},
		{[][4]int64{{1, 2, 3, 4}, {10, 20, 30, 40}}, [4]int64{11, 22, 33, 44}, false},
		{[][4]int64{{1, -2, 3, -4}, {-10, 20, -30, 40}, {5, 5, 5, 5}}, [4]int64{-4, 23, -22, 41}, false},
		{[][4]int64{{api.Max, -api.Max, 0, 0}}, [4]int64{api.Max, -api.Max, 0, 0}, false},
		{[][4]int64{{api.Max, 5, 6, 7}, {1}}, [4]int64{api.Max, 5, 6, 7}, true},
		{[][4]int64{{5, api.Max, 6, 7}, {0, 1}}, [4]int64{5, api.Max, 6, 7}, true},
		{[][4]int64{{5, 6, -api.Max, 7}, {0, 0, -1}}, [4]int64{5, 6, -api.Max, 7}, true},
		{[][4]int64{{5, 6, 7, -api.Max}, {0, 0, 0, -1}}, [4]int64{5, 6, 7, -api.Max}, true},
		{[][4]int64{{api.Max, most, least, 0}, {1, 1, -1, 0}, {-1, least, most, 0}}, [4]int64{api.Max, 0, -2, 0}, false},
		{[][4]int64{{most, least, most, least}, {most, least, most, least}, {2, 0, 2, 0}}, [4]int64{api.Max, -api.Max, api.Max, -api.Max}, true},
	} {
		if out, far := Sides(c.l...); out != c.want || far != c.far {
			t.Errorf("P2.1: Sides %d: %v, %v; want %v, %v", i, out, far, c.want, c.far)
		}
	}
}

func TestAcrossByHand(t *testing.T) {
	for i, c := range []struct {
		l          [][4]int64
		wide, high int64
		far        bool
	}{
		{nil, 0, 0, false},
		{[][4]int64{}, 0, 0, false},
		{[][4]int64{{1, 2, 3, 4}}, 6, 4, false},
		{[][4]int64{{1, 2, 3, 4}, {10, 20, 30, 40}}, 66, 44, false},
		{[][4]int64{{-1, 2, -3, 4}, {0, -20, 0, 4}}, -10, -4, false},
		{[][4]int64{{0, api.Max, 0, 1}}, api.Max, 0, true},
		{[][4]int64{{api.Max, 0, 1, 0}}, 0, api.Max, true},
		{[][4]int64{{0, -api.Max, 0, -1}}, -api.Max, 0, true},
		{[][4]int64{{-api.Max, 3, -1, 4}}, 7, -api.Max, true},
		{[][4]int64{{0, api.Max, 0, 0}, {0, 0, 0, -1}}, api.Max - 1, 0, false},
		{[][4]int64{{api.Max, 0, 1, 0}, {0, 0, -1, 0}}, 0, api.Max, false},
		{[][4]int64{{least, most, least, most}, {most, least, most, least}}, -2, -2, false},
		{[][4]int64{{most, most, most, most}, {most, most, most, most}}, api.Max, api.Max, true},
	} {
		if wide, high, far := Across(c.l...); wide != c.wide || high != c.high || far != c.far {
			t.Errorf("P2.1: Across %d: %d, %d, %v; want %d, %d, %v", i, wide, high, far, c.wide, c.high, c.far)
		}
	}
}

func TestSumsOfEdges(t *testing.T) {
	l := edgeNumbers()
	for i, a := range l {
		for j, b := range l {
			s := [][4]int64{{a, b, l[(i+j)%len(l)], b}, {b, l[(i+3)%len(l)], a, l[(j+5)%len(l)]}, {b, a, b, a}}
			var want [4]int64
			anyFar := false
			for side := range 4 {
				x, far := cutBig(sumBig([]int64{s[0][side], s[1][side], s[2][side]}))
				want[side], anyFar = x, anyFar || far
			}
			if out, far := Sides(s...); out != want || far != anyFar {
				t.Errorf("P2.1: Sides of %v: %v, %v; want %v, %v", s, out, far, want, anyFar)
			}
			wantWide, wideFar := cutBig(sumBig([]int64{s[0][1], s[0][3], s[1][1], s[1][3], s[2][1], s[2][3]}))
			wantHigh, highFar := cutBig(sumBig([]int64{s[0][0], s[0][2], s[1][0], s[1][2], s[2][0], s[2][2]}))
			if wide, high, far := Across(s...); wide != wantWide || high != wantHigh || far != (wideFar || highFar) {
				t.Errorf("P2.1: Across of %v: %d, %d, %v; want %d, %d, %v", s, wide, high, far, wantWide, wantHigh, wideFar || highFar)
			}
		}
	}
}

func TestGrowByHand(t *testing.T) {
	for _, c := range []struct {
		r, want api.Rect
		by      [4]int64
		far     bool
	}{
		{rect(5, 5, 10, 10), rect(1, 4, 16, 14), [4]int64{1, 2, 3, 4}, false},
		{rect(5, 5, 10, 10), rect(9, 6, 4, 6), [4]int64{-1, -2, -3, -4}, false},
		{rect(5, 6, 7, 8), rect(5, 6, 7, 8), [4]int64{}, false},
		{rect(0, 0, 0, 0), rect(0, -1, 0, 1), [4]int64{1, 0, 0, 0}, false},
		{rect(0, 0, 0, 0), rect(0, 0, 1, 0), [4]int64{0, 1, 0, 0}, false},
		{rect(0, 0, 0, 0), rect(0, 0, 0, 1), [4]int64{0, 0, 1, 0}, false},
		{rect(0, 0, 0, 0), rect(-1, 0, 1, 0), [4]int64{0, 0, 0, 1}, false},
		{rect(0, 0, 2, 2), rect(3, 3, -4, -4), [4]int64{-3, -3, -3, -3}, false},
		{rect(-api.Max, 0, 0, 0), rect(-api.Max, 0, 1, 0), [4]int64{0, 0, 0, 1}, true},
		{rect(0, -api.Max, 0, 0), rect(0, -api.Max, 0, 1), [4]int64{1, 0, 0, 0}, true},
		{rect(0, 0, api.Max, 0), rect(0, 0, api.Max, 0), [4]int64{0, 1, 0, 0}, true},
		{rect(0, 0, 0, api.Max), rect(0, 0, 0, api.Max), [4]int64{0, 0, 1, 0}, true},
		{rect(1-api.Max, 1-api.Max, api.Max-2, api.Max-2), rect(-api.Max, -api.Max, api.Max, api.Max), [4]int64{1, 1, 1, 1}, false},
		{rect(api.Max+1, 0, 0, 0), rect(api.Max, 0, 0, 0), [4]int64{}, true},
		{rect(least, 0, 0, 0), rect(0, 0, -1, 0), [4]int64{0, most, 0, least}, false},
		{rect(0, least, 0, 0), rect(0, 0, 0, -1), [4]int64{least, 0, most, 0}, false},
		{rect(0, 0, 0, 0), rect(api.Max, 0, -api.Max, 0), [4]int64{0, 0, 0, least}, true},
		{rect(most, most, 0, 0), rect(0, 0, api.Max, api.Max), [4]int64{most, most, most, most}, true},
		{rect(0, 0, most, least), rect(-1, 1, 0, -api.Max), [4]int64{-1, least, 0, 1}, true},
	} {
		if r, far := Grow(c.r, c.by); r != c.want || far != c.far {
			t.Errorf("P2.2: Grow(%v, %v): %v, %v; want %v, %v", c.r, c.by, r, far, c.want, c.far)
		}
	}
}

func TestGrowOfEdges(t *testing.T) {
	l := edgeNumbers()
	for _, a := range l {
		for _, b := range l {
			for _, c := range l {
				r, by := rect(a, b, c, a), [4]int64{b, c, a, b}
				var want api.Rect
				var far [4]bool
				want.X, far[0] = cutBig(sumBig([]int64{a}, b))
				want.Y, far[1] = cutBig(sumBig([]int64{b}, b))
				want.W, far[2] = cutBig(sumBig([]int64{c, b, c}))
				want.H, far[3] = cutBig(sumBig([]int64{a, b, a}))
				if out, beyond := Grow(r, by); out != want || beyond != slices.Contains(far[:], true) {
					t.Fatalf("P2.2: Grow(%v, %v): %v, %v; want %v, %v", r, by, out, beyond, want, far)
				}
			}
		}
	}
}

func TestGrowAndBackIsToStay(t *testing.T) {
	l := edgeNumbers()
	for _, r := range []api.Rect{rect(0, 0, 0, 0), rect(5, -6, 7, 8), rect(-3, 2, -4, -9), rect(api.Max, -api.Max, 0, api.Max)} {
		for i, a := range l {
			by := [4]int64{a, 1, l[(i+1)%len(l)], 2}
			grown, far := Grow(r, by)
			if far {
				continue
			}
			if back, far := Grow(grown, [4]int64{-by[0], -by[1], -by[2], -by[3]}); back != r || far {
				t.Errorf("P2.5: %v grown by %v and back: %v, %v", r, by, back, far)
			}
		}
	}
}

func TestMeetAndInsideByHand(t *testing.T) {
	for _, c := range []struct {
		a, b         api.Rect
		meet, inside bool
	}{
		{rect(0, 0, 2, 2), rect(1, 1, 2, 2), true, false},
		{rect(0, 0, 2, 2), rect(2, 0, 2, 2), false, false},
		{rect(0, 0, 2, 2), rect(0, 2, 2, 2), false, false},
		{rect(0, 0, 2, 2), rect(1, 2, 2, 2), false, false},
		{rect(0, 0, 2, 2), rect(0, 0, 2, 2), true, true},
		{rect(1, 1, 1, 1), rect(0, 0, 2, 2), true, true},
		{rect(1, 1, 2, 2), rect(0, 0, 2, 2), true, false},
		{rect(0, 0, 2, 2), rect(1, 1, 1, 1), true, false},
		{rect(1, 1, 1, 9), rect(0, 0, 2, 2), true, false},
		{rect(1, 1, 9, 1), rect(0, 0, 2, 2), true, false},
		{rect(-5, -5, 10, 10), rect(-5, -5, 11, 10), true, true},
		// None has no point in common with any, and is in each of them.
		{rect(0, 0, 0, 5), rect(0, 0, 9, 9), false, true},
		{rect(0, 0, 5, 0), rect(0, 0, 9, 9), false, true},
		{rect(9, 9, 0, 0), rect(0, 0, 1, 1), false, true},
		{rect(9, 9, -3, 4), rect(0, 0, 1, 1), false, true},
		{rect(9, 9, least, least), rect(0, 0, 1, 1), false, true},
		{rect(0, 0, 1, 1), rect(0, 0, 0, 1), false, false},
		{rect(0, 0, 1, 1), rect(-1, -1, 5, -1), false, false},
		{rect(0, 0, 1, 1), rect(-1, -1, least, 9), false, false},
		{rect(0, 0, 0, 0), rect(7, 7, 0, 0), false, true},
		{rect(0, 0, 0, 0), rect(0, 0, 0, 0), false, true},
		{rect(0, 0, -1, -1), rect(0, 0, 0, 9), false, true},
		// Ends beyond 64 bits.
		{rect(most-1, 0, most, 1), rect(most, 0, most, 1), true, false},
		{rect(most, 0, most-1, 1), rect(most-1, 0, most, 1), true, true},
		{rect(most, 0, most, 1), rect(most-1, 0, most, 1), true, false},
		{rect(most, 0, 1, 1), rect(least, 0, most, 1), false, false},
		{rect(most, most, most, most), rect(most, most, most, most), true, true},
		{rect(0, most, 1, 2), rect(0, most, 1, 1), true, false},
		{rect(least, 0, most, 1), rect(-1, 0, 1, 1), false, false},
		{rect(least, 0, most, 1), rect(-2, 0, 1, 1), true, false},
		{rect(-2, 0, 1, 1), rect(least, 0, most, 1), true, true},
		{rect(-2, 0, 2, 1), rect(least, 0, most, 1), true, false},
		{rect(0, least, 1, most), rect(0, most, 1, most), false, false},
	} {
		if meet := Meet(c.a, c.b); meet != c.meet {
			t.Errorf("P2.3: Meet(%v, %v): %v", c.a, c.b, meet)
		}
		if meet := Meet(c.b, c.a); meet != c.meet {
			t.Errorf("P2.5: Meet(%v, %v): %v", c.b, c.a, meet)
		}
		if inside := Inside(c.a, c.b); inside != c.inside {
			t.Errorf("P2.3: Inside(%v, %v): %v", c.a, c.b, inside)
		}
	}
}

// pointsOf: which points of a small field a rectangle has, told one by one.
func pointsOf(r api.Rect) (in [10][10]bool) {
	for x := range in {
		for y := range in[x] {
			px, py := int64(x)-3, int64(y)-3
			in[x][y] = px >= r.X && px < r.X+r.W && py >= r.Y && py < r.Y+r.H
		}
	}
	return in
}

// smallRects: all of a small field's, and some that are none.
func smallRects() (l []api.Rect) {
	for x := int64(-1); x <= 2; x++ {
		for y := int64(-1); y <= 2; y++ {
			for w := int64(-1); w <= 3; w++ {
				for h := int64(-1); h <= 3; h++ {
					l = append(l, rect(x, y, w, h))
				}
			}
		}
	}
	return l
}

func TestMeetAndInsideByPoints(t *testing.T) {
	l := smallRects()
	points := make([][10][10]bool, len(l))
	for i, r := range l {
		points[i] = pointsOf(r)
	}
	for i, a := range l {
		for j, b := range l {
			meet, inside := false, true
			for x := range points[i] {
				for y := range points[i][x] {
					meet = meet || points[i][x][y] && points[j][x][y]
					inside = inside && (!points[i][x][y] || points[j][x][y])
				}
			}
			if Meet(a, b) != meet || Inside(a, b) != inside {
				t.Fatalf("P2.3: of %v and %v: Meet %v, Inside %v; want %v, %v", a, b, Meet(a, b), Inside(a, b), meet, inside)
			}
		}
	}
}

// edgeRects: stretches across at, beside and beyond the bounds, and some of them down as well.
func edgeRects() (l []api.Rect) {
	for i, a := range edgeNumbers() {
		for j, b := range edgeNumbers() {
			l = append(l, rect(a, 0, b, 1))
			if (i+j)%3 == 0 {
				l = append(l, rect(b, a, most, b), rect(0, b, 5, a))
			}
		}
	}
	return l
}

// overlapBig and withinBig: of stretches that have points.
func overlapBig(a, aLong, b, bLong int64) bool {
	return sumBig([]int64{b, bLong}, a).Sign() > 0 && sumBig([]int64{a, aLong}, b).Sign() > 0
}

func withinBig(a, aLong, b, bLong int64) bool {
	return a >= b && sumBig([]int64{b, bLong}, a, aLong).Sign() >= 0
}

func TestMeetAndInsideOfEdges(t *testing.T) {
	l := edgeRects()
	full := func(r api.Rect) bool { return r.W > 0 && r.H > 0 }
	for _, a := range l {
		for _, b := range l {
			meet := full(a) && full(b) && overlapBig(a.X, a.W, b.X, b.W) && overlapBig(a.Y, a.H, b.Y, b.H)
			inside := !full(a) || full(b) && withinBig(a.X, a.W, b.X, b.W) && withinBig(a.Y, a.H, b.Y, b.H)
			if Meet(a, b) != meet || Inside(a, b) != inside {
				t.Fatalf("P2.3: of %v and %v: Meet %v, Inside %v; want %v, %v", a, b, Meet(a, b), Inside(a, b), meet, inside)
			}
		}
	}
}

func TestMeetFollows(t *testing.T) {
	l := slices.Concat(smallRects(), edgeRects())
	for _, a := range l {
		full := a.W > 0 && a.H > 0
		if Meet(a, a) != full {
			t.Errorf("P2.5: Meet of %v with itself: %v", a, !full)
		}
		for _, b := range l {
			if Meet(a, b) != Meet(b, a) {
				t.Fatalf("P2.5: to meet does not go both ways: %v, %v", a, b)
			}
			if full && Inside(a, b) && !Meet(a, b) {
				t.Fatalf("P2.5: %v is inside %v, and does not meet it", a, b)
			}
		}
	}
}

func TestCoverByHand(t *testing.T) {
	for i, c := range []struct {
		l    []api.Rect
		want api.Rect
		far  bool
	}{
		{nil, api.Rect{}, false},
		{[]api.Rect{}, api.Rect{}, false},
		{[]api.Rect{rect(3, 4, 0, 9)}, api.Rect{}, false},
		{[]api.Rect{rect(3, 4, 9, 0), rect(-3, 4, -9, 9), rect(most, most, 0, least)}, api.Rect{}, false},
		{[]api.Rect{rect(3, 4, 5, 6)}, rect(3, 4, 5, 6), false},
		{[]api.Rect{rect(-3, -4, 1, 1)}, rect(-3, -4, 1, 1), false},
		{[]api.Rect{rect(0, 0, 1, 1), rect(5, 5, 1, 1), rect(99, 99, 0, 9)}, rect(0, 0, 6, 6), false},
		{[]api.Rect{rect(99, -99, 9, 0), rect(5, 0, 1, 1), rect(0, 5, 1, 1)}, rect(0, 0, 6, 6), false},
		{[]api.Rect{rect(0, 0, 9, 9), rect(1, 1, 2, 2)}, rect(0, 0, 9, 9), false},
		{[]api.Rect{rect(1, 1, 2, 2), rect(-7, 0, 3, 1), rect(0, 8, 1, 3)}, rect(-7, 0, 10, 11), false},
		{[]api.Rect{rect(-api.Max, -api.Max, api.Max, api.Max)}, rect(-api.Max, -api.Max, api.Max, api.Max), false},
		{[]api.Rect{rect(api.Max, api.Max, api.Max, api.Max)}, rect(api.Max, api.Max, api.Max, api.Max), false},
		{[]api.Rect{rect(api.Max+1, 2, 3, 4)}, rect(api.Max, 2, 3, 4), true},
		{[]api.Rect{rect(1, -api.Max-1, 3, 4)}, rect(1, -api.Max, 3, 4), true},
		{[]api.Rect{rect(1, 2, api.Max+1, 4)}, rect(1, 2, api.Max, 4), true},
		{[]api.Rect{rect(1, 2, 3, api.Max+1)}, rect(1, 2, 3, api.Max), true},
		{[]api.Rect{rect(0, 0, 1, 1), rect(api.Max-1, 0, 1, 1)}, rect(0, 0, api.Max, 1), false},
		{[]api.Rect{rect(0, 0, 1, 1), rect(api.Max, 0, 1, 1)}, rect(0, 0, api.Max, 1), true},
		{[]api.Rect{rect(api.Max, 0, 1, 1), rect(0, 0, 1, 1)}, rect(0, 0, api.Max, 1), true},
		{[]api.Rect{rect(0, 0, 1, 1), rect(0, api.Max, 1, 1), rect(0, 2, 1, 1)}, rect(0, 0, 1, api.Max), true},
		{[]api.Rect{rect(least, 0, 1, 1), rect(most, 0, 1, 1)}, rect(-api.Max, 0, api.Max, 1), true},
		{[]api.Rect{rect(0, least, 1, most), rect(0, most, 1, most)}, rect(0, -api.Max, 1, api.Max), true},
		// What has no points is not covered, be it as far out as it may.
		{[]api.Rect{rect(least, most, 0, most), rect(1, 2, 3, 4), rect(most, least, most, least)}, rect(1, 2, 3, 4), false},
	} {
		if r, far := Cover(c.l...); r != c.want || far != c.far {
			t.Errorf("P2.4: Cover %d: %v, %v; want %v, %v", i, r, far, c.want, c.far)
		}
	}
}

// coverBig is P2.4's rectangle of two that have points.
func coverBig(a, b api.Rect) (out api.Rect, beyond bool) {
	long := func(at, from, wide int64) *big.Int { return sumBig([]int64{from, wide}, at) }
	farther := func(a, b *big.Int) *big.Int {
		if a.Cmp(b) > 0 {
			return a
		}
		return b
	}
	var far [4]bool
	x, y := min(a.X, b.X), min(a.Y, b.Y)
	out.X, far[0] = cutBig(big.NewInt(x))
	out.Y, far[1] = cutBig(big.NewInt(y))
	out.W, far[2] = cutBig(farther(long(x, a.X, a.W), long(x, b.X, b.W)))
	out.H, far[3] = cutBig(farther(long(y, a.Y, a.H), long(y, b.Y, b.H)))
	return out, slices.Contains(far[:], true)
}

func TestCoverOfEdges(t *testing.T) {
	l := edgeRects()
	full := func(r api.Rect) bool { return r.W > 0 && r.H > 0 }
	for _, a := range l {
		for _, b := range l {
			if !full(a) || !full(b) {
				continue
			}
			want, beyond := coverBig(a, b)
			if r, far := Cover(a, rect(least, least, 0, most), b); r != want || far != beyond {
				t.Fatalf("P2.4: Cover of %v and %v: %v, %v; want %v, %v", a, b, r, far, want, beyond)
			}
		}
	}
}

func TestCoverIsTheLeast(t *testing.T) {
	l := smallRects()
	for i, a := range l {
		b, c := l[(i*7+3)%len(l)], l[(i*31+11)%len(l)]
		cover, far := Cover(a, b, c)
		if far {
			t.Fatalf("P2.4: Cover of %v, %v, %v is beyond", a, b, c)
		}
		if !Inside(a, cover) || !Inside(b, cover) || !Inside(c, cover) {
			t.Errorf("P2.5: %v does not cover %v, %v, %v", cover, a, b, c)
		}
		if cover == (api.Rect{}) {
			continue
		}
		for side := range 4 {
			var by [4]int64
			by[side] = -1
			smaller, _ := Grow(cover, by)
			if Inside(a, smaller) && Inside(b, smaller) && Inside(c, smaller) {
				t.Errorf("P2.4: %v covers %v, %v, %v, and so does %v", cover, a, b, c, smaller)
			}
		}
	}
}

func TestCoveredLiesInside(t *testing.T) {
	l := edgeRects()
	for _, a := range l {
		for _, b := range l {
			if cover, far := Cover(a, b); !far && (!Inside(a, cover) || !Inside(b, cover)) {
				t.Fatalf("P2.5: %v does not cover %v, %v", cover, a, b)
			}
		}
	}
}

func TestListsAreLeft(t *testing.T) {
	sides := [][4]int64{{1, 2, 3, 4}, {most, least, most, least}, {5, 6, 7, 8}, {9, 9, 9, 9}}
	sidesBefore := slices.Clone(sides)
	Sides(sides[:2]...)
	Across(sides[:3]...)
	if !slices.Equal(sides, sidesBefore) {
		t.Errorf("R3: sides were changed to %v", sides)
	}
	rects := []api.Rect{rect(0, 0, 0, 1), rect(5, 5, 1, 1), rect(most, least, 1, 1), rect(2, 2, 2, 2)}
	rectsBefore := slices.Clone(rects)
	Cover(rects[:3]...)
	if !slices.Equal(rects, rectsBefore) {
		t.Errorf("R3: rectangles were changed to %v", rects)
	}
}
