package text

import (
	"math"
	"math/big"
	"slices"
	"strings"
	"testing"

	"jamb/api"
)

const (
	most  = math.MaxInt64
	least = math.MinInt64
)

// units of a text that is told by letters: _ a space, / an end.
func units(s string) []uint16 {
	l := make([]uint16, 0, len(s))
	for _, c := range []byte(s) {
		switch c {
		case '_':
			c = ' '
		case '/':
			c = '\n'
		}
		l = append(l, uint16(c))
	}
	return l
}

// table of the advances of a, b, the space and the end, all others 0.
func table(a, b, space, end int64) []int64 {
	l := make([]int64, 99)
	l['a'], l['b'], l[api.Space], l[api.Newline] = a, b, space, end
	return l
}

// plain is the table of the chapter's examples.
func plain() []int64 { return table(10, 20, 5, 0) }

// tables: those of lengths, of numbers at and beyond the bounds, of none, and of too few.
func tables() [][]int64 {
	return [][]int64{
		plain(), nil, {}, table(10, 20, 5, 7), table(0, 0, 0, 0), plain()[:98], plain()[:97], plain()[:33], plain()[:32],
		table(api.Max, 1, api.Max, api.Max), table(api.Max+1, -1, 3, 0), table(1, 2, api.Max+1, 0), table(-10, -20, -5, -1),
		table(-api.Max, -1, -api.Max, 0), table(-1, 1, -api.Max-1, 0), table(most, least, most, least), table(least, most, least, most),
		table(api.Max/2, api.Max/2+1, 1, 0), table(0, 0, 0, most),
	}
}

// texts: all of the four letters that are so long or shorter.
func texts(long int) []string {
	all := []string{""}
	for from := 0; long > 0; long-- {
		to := len(all)
		for _, s := range all[from:to] {
			for _, c := range []string{"a", "b", "_", "/"} {
				all = append(all, s+c)
			}
		}
		from = to
	}
	return all
}

// sumBig is au.Sum, told of numbers without a bound.
func sumBig(l []int64) (int64, bool) {
	total := new(big.Int)
	for _, x := range l {
		total.Add(total, big.NewInt(x))
	}
	if total.Cmp(big.NewInt(api.Max)) > 0 {
		return api.Max, true
	}
	if total.Cmp(big.NewInt(-api.Max)) < 0 {
		return -api.Max, true
	}
	return total.Int64(), false
}

// wideByWords is P6.1, told word by word.
func wideByWords(l []uint16, advances []int64) (int64, bool) {
	var all []int64
	for _, u := range l {
		for number, advance := range advances {
			if number == int(u) {
				all = append(all, advance)
			}
		}
	}
	return sumBig(all)
}

func inWord(u uint16) bool { return u != 32 && u != 10 }

// stretchesByWords: from where to where words reach, each one asked whether it is a row of other units, as long as may be.
func stretchesByWords(l []uint16) (all [][2]int) {
	for from := range l {
		for to := from + 1; to <= len(l); to++ {
			outside := slices.ContainsFunc(l[from:to], func(u uint16) bool { return !inWord(u) })
			longer := from > 0 && inWord(l[from-1]) || to < len(l) && inWord(l[to])
			if !outside && !longer {
				all = append(all, [2]int{from, to})
			}
		}
	}
	return all
}

// wordsByWords is P6.2, told word by word.
func wordsByWords(l []uint16, advances []int64) (words []api.Word, beyond bool) {
	ahead := 0
	for i, s := range stretchesByWords(l) {
		w := api.Word{From: s[0], To: s[1]}
		var wide, space bool
		w.W, wide = wideByWords(l[s[0]:s[1]], advances)
		between := l[ahead:s[0]]
		for _, u := range between {
			if u == 10 {
				w.Forced++
			}
		}
		if i > 0 && slices.Contains(between, 32) && !slices.Contains(between, 10) {
			w.Gap, space = wideByWords([]uint16{32}, advances)
		}
		words, beyond, ahead = append(words, w), beyond || wide || space, s[1]
	}
	return words, beyond
}

// extentByWords is P6.3, told word by word.
func extentByWords(words []api.Word) (narrow, greatest int64, beyond bool) {
	var rows [][]int64
	for i, w := range words {
		if i == 0 || w.W > narrow {
			narrow = w.W
		}
		if i == 0 || w.Forced > 0 {
			rows = append(rows, []int64{w.W})
		} else {
			rows[len(rows)-1] = append(rows[len(rows)-1], w.Gap, w.W)
		}
	}
	for _, row := range rows {
		w, far := sumBig(row)
		greatest, beyond = max(greatest, w), beyond || far
	}
	return narrow, greatest, beyond
}

func TestWideByHand(t *testing.T) {
	for _, c := range []struct {
		s        string
		advances []int64
		want     int64
		beyond   bool
	}{
		{"", plain(), 0, false}, {"", nil, 0, false},
		{"a", plain(), 10, false}, {"ab", plain(), 30, false}, {"aba", plain(), 40, false},
		{"_", plain(), 5, false}, {"a__b", plain(), 40, false},
		{"/", table(10, 20, 5, 7), 7, false}, {"a/b", table(10, 20, 5, 7), 37, false}, {"_/_", table(10, 20, 5, 7), 17, false},
		{"ab", nil, 0, false}, {"ab", plain()[:97], 0, false}, {"ab", plain()[:98], 10, false}, {"zab", plain(), 30, false},
		{"_", plain()[:32], 0, false}, {"_", plain()[:33], 5, false},
		{"a", table(api.Max, 0, 0, 0), api.Max, false}, {"ab", table(api.Max, 1, 0, 0), api.Max, true}, {"ab", table(api.Max-1, 1, 0, 0), api.Max, false},
		{"a", table(-api.Max, 0, 0, 0), -api.Max, false}, {"ab", table(-api.Max, -1, 0, 0), -api.Max, true},
		{"a", table(api.Max+1, 0, 0, 0), api.Max, true}, {"a", table(most, 0, 0, 0), api.Max, true}, {"a", table(least, 0, 0, 0), -api.Max, true},
		{"_", table(0, 0, api.Max+1, 0), api.Max, true}, {"/", table(0, 0, 0, -api.Max-1), -api.Max, true},
		// The whole sum is meant, not what comes of its parts.
		{"aab", table(api.Max, -api.Max, 0, 0), api.Max, false}, {"ab", table(api.Max+1, -1, 0, 0), api.Max, false},
		{"ab", table(most, least, 0, 0), -1, false}, {"aabb", table(most, least, 0, 0), -2, false}, {"aa", table(most, 0, 0, 0), api.Max, true},
	} {
		if w, beyond := Wide(units(c.s), c.advances); w != c.want || beyond != c.beyond {
			t.Errorf("P6.1: Wide of %q: %d, %v; want %d, %v", c.s, w, beyond, c.want, c.beyond)
		}
	}
}

func TestWideOfAnyUnits(t *testing.T) {
	full := make([]int64, math.MaxUint16+1)
	for i := range full {
		full[i] = int64(i) + 1
	}
	for _, u := range []uint16{0, 1, 9, 10, 11, 31, 32, 33, 97, 127, 128, 255, 256, 4095, 4096, 0x2028, 0xd800, 0xdfff, 0xfffe, 0xffff} {
		if w, beyond := Wide([]uint16{u}, full); w != int64(u)+1 || beyond {
			t.Errorf("P6.1: Wide of the unit %d: %d, %v", u, w, beyond)
		}
		if w, beyond := Wide([]uint16{u}, full[:int(u)+1]); w != int64(u)+1 || beyond {
			t.Errorf("P6.1: Wide of the unit %d, the last one of the advances: %d, %v", u, w, beyond)
		}
		if w, beyond := Wide([]uint16{u, u}, full[:u]); w != 0 || beyond {
			t.Errorf("P6.1: Wide of the unit %d, behind the advances: %d, %v", u, w, beyond)
		}
	}
}

func TestWideByWords(t *testing.T) {
	for _, advances := range tables() {
		for _, s := range texts(5) {
			want, wantBeyond := wideByWords(units(s), advances)
			if w, beyond := Wide(units(s), advances); w != want || beyond != wantBeyond {
				t.Fatalf("P6.1: Wide of %q, %v: %d, %v; want %d, %v", s, advances, w, beyond, want, wantBeyond)
			}
		}
	}
}

// hold holds what Words answers of a text against what it is to answer.
func hold(t *testing.T, s string, advances []int64, want []api.Word, wantBeyond bool) {
	t.Helper()
	if l, beyond := Words(units(s), advances); !slices.Equal(l, want) || beyond != wantBeyond {
		t.Errorf("P6.2: Words of %q: %v, %v; want %v, %v", s, l, beyond, want, wantBeyond)
	}
}

func TestWordsByHand(t *testing.T) {
	for _, c := range []struct {
		s               string
		want            []api.Word
		least, greatest int64
	}{
		{"", nil, 0, 0}, {"_", nil, 0, 0}, {"/", nil, 0, 0}, {"//", nil, 0, 0}, {"_/_", nil, 0, 0}, {"___", nil, 0, 0},
		{"ab__a", []api.Word{{From: 0, To: 2, W: 30}, {From: 4, To: 5, W: 10, Gap: 5}}, 30, 45},
		{"_a_/_b/", []api.Word{{From: 1, To: 2, W: 10}, {From: 5, To: 6, W: 20, Forced: 1}}, 20, 20},
		{"a", []api.Word{{From: 0, To: 1, W: 10}}, 10, 10},
		{"abab", []api.Word{{From: 0, To: 4, W: 60}}, 60, 60},
		{"_a", []api.Word{{From: 1, To: 2, W: 10}}, 10, 10},
		{"/a", []api.Word{{From: 1, To: 2, W: 10, Forced: 1}}, 10, 10},
		{"_/_/_a", []api.Word{{From: 5, To: 6, W: 10, Forced: 2}}, 10, 10},
		{"a_b", []api.Word{{From: 0, To: 1, W: 10}, {From: 2, To: 3, W: 20, Gap: 5}}, 20, 35},
		{"a/b", []api.Word{{From: 0, To: 1, W: 10}, {From: 2, To: 3, W: 20, Forced: 1}}, 20, 20},
		{"a//b", []api.Word{{From: 0, To: 1, W: 10}, {From: 3, To: 4, W: 20, Forced: 2}}, 20, 20},
		{"a_/b", []api.Word{{From: 0, To: 1, W: 10}, {From: 3, To: 4, W: 20, Forced: 1}}, 20, 20},
		{"a/_b", []api.Word{{From: 0, To: 1, W: 10}, {From: 3, To: 4, W: 20, Forced: 1}}, 20, 20},
		{"a/_/b", []api.Word{{From: 0, To: 1, W: 10}, {From: 4, To: 5, W: 20, Forced: 2}}, 20, 20},
		// What stood ahead of one word says nothing of the next one.
		{"/a_b", []api.Word{{From: 1, To: 2, W: 10, Forced: 1}, {From: 3, To: 4, W: 20, Gap: 5}}, 20, 35},
		{"a_b/a_b_b/a", []api.Word{{From: 0, To: 1, W: 10}, {From: 2, To: 3, W: 20, Gap: 5}, {From: 4, To: 5, W: 10, Forced: 1}, {From: 6, To: 7, W: 20, Gap: 5}, {From: 8, To: 9, W: 20, Gap: 5}, {From: 10, To: 11, W: 10, Forced: 1}}, 20, 60},
		{"b_b//_a__b_", []api.Word{{From: 0, To: 1, W: 20}, {From: 2, To: 3, W: 20, Gap: 5}, {From: 6, To: 7, W: 10, Forced: 2}, {From: 9, To: 10, W: 20, Gap: 5}}, 20, 45},
		{"z_z", []api.Word{{From: 0, To: 1}, {From: 2, To: 3, Gap: 5}}, 0, 5},
	} {
		hold(t, c.s, plain(), c.want, false)
		l, _ := Words(units(c.s), plain())
		if narrow, wide, beyond := Extent(l); narrow != c.least || wide != c.greatest || beyond {
			t.Errorf("P6.3: Extent of %q: %d, %d, %v; want %d, %d, false", c.s, narrow, wide, beyond, c.least, c.greatest)
		}
	}
}

func TestWordsAreOfAllOtherUnits(t *testing.T) {
	for u := range math.MaxUint16 + 1 {
		l, beyond := Words([]uint16{97, uint16(u), 98}, plain())
		var want []api.Word
		switch u {
		case 32:
			want = []api.Word{{From: 0, To: 1, W: 10}, {From: 2, To: 3, W: 20, Gap: 5}}
		case 10:
			want = []api.Word{{From: 0, To: 1, W: 10}, {From: 2, To: 3, W: 20, Forced: 1}}
		case 97:
			want = []api.Word{{From: 0, To: 3, W: 40}}
		case 98:
			want = []api.Word{{From: 0, To: 3, W: 50}}
		default:
			want = []api.Word{{From: 0, To: 3, W: 30}}
		}
		if !slices.Equal(l, want) || beyond {
			t.Fatalf("P6.2: Words with the unit %d: %v, %v; want %v", u, l, beyond, want)
		}
	}
}

func TestWordsBeyond(t *testing.T) {
	two := func(a, b, gap int64) []api.Word {
		return []api.Word{{From: 0, To: 1, W: a}, {From: 2, To: 3, W: b, Gap: gap}}
	}
	ends := []api.Word{{From: 0, To: 1, W: 1}, {From: 3, To: 4, W: 2, Forced: 1}}
	for _, c := range []struct {
		s        string
		advances []int64
		want     []api.Word
		beyond   bool
	}{
		{"a_b", table(api.Max, api.Max, api.Max, 0), two(api.Max, api.Max, api.Max), false},
		{"a_b", table(-api.Max, -api.Max, -api.Max, 0), two(-api.Max, -api.Max, -api.Max), false},
		{"a_b", table(api.Max+1, 2, 3, 0), two(api.Max, 2, 3), true},
		{"a_b", table(1, -api.Max-1, 3, 0), two(1, -api.Max, 3), true},
		{"a_b", table(1, 2, api.Max+1, 0), two(1, 2, api.Max), true},
		{"a_b", table(1, 2, -api.Max-1, 0), two(1, 2, -api.Max), true},
		{"a_b", table(1, 2, least, 0), two(1, 2, -api.Max), true},
		{"a_b", table(most, least, most, 0), two(api.Max, -api.Max, api.Max), true},
		// A space is no more than one, however many there are.
		{"a__b", table(1, 2, api.Max, 0), []api.Word{{From: 0, To: 1, W: 1}, {From: 3, To: 4, W: 2, Gap: api.Max}}, false},
		{"ab", table(api.Max, 1, 0, 0), []api.Word{{From: 0, To: 2, W: api.Max}}, true},
		{"ab", table(api.Max+1, -1, 0, 0), []api.Word{{From: 0, To: 2, W: api.Max}}, false},
		{"a/ab", table(api.Max, 1, 0, 0), []api.Word{{From: 0, To: 1, W: api.Max}, {From: 2, To: 4, W: api.Max, Forced: 1}}, true},
		{"ab_a", table(api.Max, 1, 0, 0), []api.Word{{From: 0, To: 2, W: api.Max}, {From: 3, To: 4, W: api.Max}}, true},
		// An advance that no word and no gap asks for.
		{"a_/b", table(1, 2, most, most), ends, false},
		{"a/_b", table(1, 2, most, most), ends, false},
		{"__a_/", table(1, most, most, most), []api.Word{{From: 2, To: 3, W: 1}}, false},
		{"_//__", table(most, most, most, most), nil, false},
		{"", table(most, most, most, most), nil, false},
	} {
		hold(t, c.s, c.advances, c.want, c.beyond)
	}
}

func TestWordsByWords(t *testing.T) {
	for _, advances := range tables() {
		for _, s := range texts(6) {
			want, wantBeyond := wordsByWords(units(s), advances)
			l, beyond := Words(units(s), advances)
			if !slices.Equal(l, want) || beyond != wantBeyond {
				t.Fatalf("P6.2: Words of %q, %v: %v, %v; want %v, %v", s, advances, l, beyond, want, wantBeyond)
			}
		}
	}
}

func TestWordsOfLongTexts(t *testing.T) {
	const n = api.MaxRun
	hold(t, strings.Repeat("a", n), plain(), []api.Word{{To: n, W: 10 * n}}, false)
	hold(t, strings.Repeat("/", n)+"a"+strings.Repeat("/", n), plain(), []api.Word{{From: n, To: n + 1, W: 10, Forced: n}}, false)
	hold(t, "a"+strings.Repeat("_", n)+"a", plain(), []api.Word{{To: 1, W: 10}, {From: n + 1, To: n + 2, W: 10, Gap: 5}}, false)
	l, beyond := Words(units(strings.Repeat("a_", n)), plain())
	if len(l) != n || beyond {
		t.Fatalf("P6.2: %d words, %v; want %d", len(l), beyond, n)
	}
	if narrow, wide, beyond := Extent(l); narrow != 10 || wide != 15*n-5 || beyond {
		t.Errorf("P6.3: Extent of %d words: %d, %d, %v", n, narrow, wide, beyond)
	}
	l, beyond = Words(units(strings.Repeat("a/", n)), plain())
	if len(l) != n || beyond {
		t.Fatalf("P6.2: %d words behind ends, %v; want %d", len(l), beyond, n)
	}
	if narrow, wide, beyond := Extent(l); narrow != 10 || wide != 10 || beyond {
		t.Errorf("P6.3: Extent of %d rows: %d, %d, %v", n, narrow, wide, beyond)
	}
}

func TestExtentByHand(t *testing.T) {
	for _, c := range []struct {
		l               []api.Word
		least, greatest int64
		beyond          bool
	}{
		{nil, 0, 0, false}, {[]api.Word{}, 0, 0, false}, {[]api.Word{{}}, 0, 0, false},
		{[]api.Word{{W: 7}}, 7, 7, false}, {[]api.Word{{W: 7}, {W: 9}, {W: 8}}, 9, 24, false},
		// The gap of a row's first word says nothing, be it forced or not.
		{[]api.Word{{W: 7, Gap: 3}}, 7, 7, false}, {[]api.Word{{W: 7, Gap: 3}, {W: 9, Gap: 4}}, 9, 20, false},
		{[]api.Word{{W: 7, Gap: most}, {W: 9, Gap: least, Forced: 1}}, 9, 9, false},
		{[]api.Word{{W: 7}, {W: 9, Gap: 4, Forced: 2}, {W: 1, Gap: 5}}, 9, 15, false},
		{[]api.Word{{W: 7}, {W: 9, Gap: 4}, {W: 1, Gap: 5, Forced: 1}}, 9, 20, false},
		{[]api.Word{{W: 1}, {W: 2, Forced: 1}, {W: 3}, {W: 4, Forced: 1}}, 4, 5, false},
		// The first word begins one row, whatever its Forced.
		{[]api.Word{{W: 7, Forced: 1}, {W: 9}}, 9, 16, false}, {[]api.Word{{W: 7, Forced: math.MaxInt}, {W: 9}}, 9, 16, false},
		// Only above 0 it begins a row.
		{[]api.Word{{W: 7}, {W: 9, Forced: -1}}, 9, 16, false}, {[]api.Word{{W: 7}, {W: 9, Forced: math.MinInt}}, 9, 16, false},
		{[]api.Word{{W: 7}, {W: 9, Forced: math.MaxInt}}, 9, 9, false},
		// Widths below 0, and gaps.
		{[]api.Word{{W: -5}}, -5, 0, false}, {[]api.Word{{W: -5}, {W: -3}, {W: -9}}, -3, 0, false},
		{[]api.Word{{W: -5}, {W: 3}}, 3, 0, false}, {[]api.Word{{W: -5}, {W: 3, Forced: 1}}, 3, 3, false}, {[]api.Word{{W: 8}, {W: 8, Gap: -6}}, 8, 10, false},
		// At the bounds and beyond: of the sums this is told, of the greatest width not.
		{[]api.Word{{W: api.Max}}, api.Max, api.Max, false}, {[]api.Word{{W: -api.Max}}, -api.Max, 0, false},
		{[]api.Word{{W: api.Max}, {W: 1}}, api.Max, api.Max, true}, {[]api.Word{{W: api.Max}, {Gap: 1}}, api.Max, api.Max, true},
		{[]api.Word{{W: api.Max}, {W: 1, Forced: 1}}, api.Max, api.Max, false}, {[]api.Word{{W: api.Max}, {W: 1}, {W: -1}}, api.Max, api.Max, false},
		{[]api.Word{{W: 1}, {W: api.Max, Forced: 1}, {W: 1}, {W: 1, Forced: 1}}, api.Max, api.Max, true},
		{[]api.Word{{W: -api.Max}, {W: -1}}, -1, 0, true}, {[]api.Word{{W: -api.Max}, {W: -1, Forced: 1}}, -1, 0, false},
		{[]api.Word{{W: 4}, {W: -api.Max, Forced: 1}, {W: -1}}, 4, 4, true},
		{[]api.Word{{W: api.Max + 1}}, api.Max + 1, api.Max, true}, {[]api.Word{{W: most}}, most, api.Max, true},
		{[]api.Word{{W: least}}, least, 0, true}, {[]api.Word{{W: least}, {W: most}}, most, 0, false},
		{[]api.Word{{W: most}, {W: least, Gap: 5}}, most, 4, false}, {[]api.Word{{W: most}, {W: most, Gap: most}}, most, api.Max, true},
		{[]api.Word{{W: most}, {W: most, Gap: least}, {W: 1, Gap: least}}, most, 0, false},
		// From and To say nothing here.
		{[]api.Word{{From: math.MaxInt, To: math.MinInt, W: 7}, {From: -1, To: -2, W: 9, Gap: 1}}, 9, 17, false},
	} {
		if narrow, wide, beyond := Extent(c.l); narrow != c.least || wide != c.greatest || beyond != c.beyond {
			t.Errorf("P6.3: Extent(%v): %d, %d, %v; want %d, %d, %v", c.l, narrow, wide, beyond, c.least, c.greatest, c.beyond)
		}
	}
}

func TestExtentByWords(t *testing.T) {
	var some []api.Word
	for _, w := range []int64{0, 3, -3, api.Max, -api.Max, most, least} {
		for _, gap := range []int64{0, 1, -api.Max, most} {
			for _, forced := range []int{0, 2, -1} {
				some = append(some, api.Word{W: w, Gap: gap, Forced: forced})
			}
		}
	}
	for _, a := range some {
		for _, b := range some {
			for _, c := range some {
				l := []api.Word{a, b, c}
				wantLeast, wantGreatest, wantBeyond := extentByWords(l)
				if narrow, wide, beyond := Extent(l); narrow != wantLeast || wide != wantGreatest || beyond != wantBeyond {
					t.Fatalf("P6.3: Extent(%v): %d, %d, %v; want %d, %d, %v", l, narrow, wide, beyond, wantLeast, wantGreatest, wantBeyond)
				}
			}
		}
	}
	for _, advances := range tables() {
		for _, s := range texts(5) {
			l, _ := Words(units(s), advances)
			wantLeast, wantGreatest, wantBeyond := extentByWords(l)
			if narrow, wide, beyond := Extent(l); narrow != wantLeast || wide != wantGreatest || beyond != wantBeyond {
				t.Fatalf("P6.3: Extent of %q, %v: %d, %d, %v; want %d, %d, %v", s, advances, narrow, wide, beyond, wantLeast, wantGreatest, wantBeyond)
			}
		}
	}
}

func TestWordsAndWhatIsBetweenAreAllUnits(t *testing.T) {
	for _, s := range texts(7) {
		l := units(s)
		words, _ := Words(l, plain())
		behind := 0
		for i, w := range words {
			if w.From < behind || i > 0 && w.From == behind || w.To <= w.From || w.To > len(l) {
				t.Fatalf("P6.4: words of %q are not in order: %v", s, words)
			}
			if slices.ContainsFunc(l[behind:w.From], inWord) || !slices.Equal(slices.DeleteFunc(slices.Clone(l[w.From:w.To]), inWord), []uint16{}) {
				t.Fatalf("P6.4: words of %q are not all units but spaces and ends: %v", s, words)
			}
			behind = w.To
		}
		if slices.ContainsFunc(l[behind:], inWord) {
			t.Fatalf("P6.4: words of %q lack some behind the last one: %v", s, words)
		}
	}
}

// moved: words that stand so many units further behind, from the word of that number on.
func moved(words []api.Word, from, by int) []api.Word {
	l := slices.Clone(words)
	for i := from; i < len(l); i++ {
		l[i].From += by
		l[i].To += by
	}
	return l
}

func TestSpacesThatSayNothing(t *testing.T) {
	for _, advances := range [][]int64{plain(), table(10, 20, 5, 7), table(1, 2, most, most)} {
		for _, s := range texts(5) {
			words, beyond := Words(units(s), advances)
			for _, more := range []string{"_", "__", "/", "/_", "_/", "//"} {
				hold(t, s+"_"+more, advances, words, beyond)
			}
			hold(t, s+"_", advances, words, beyond)
			hold(t, "_"+s, advances, moved(words, 0, 1), beyond)
			hold(t, "___"+s, advances, moved(words, 0, 3), beyond)
			for i, c := range []byte(s) {
				if c == '_' {
					behind := slices.IndexFunc(words, func(w api.Word) bool { return w.From > i })
					if behind < 0 {
						behind = len(words)
					}
					hold(t, s[:i]+"__"+s[i:], advances, moved(words, behind, 2), beyond)
				}
			}
		}
	}
}

func TestEndsBehindTheLastWordSayNothing(t *testing.T) {
	for _, s := range texts(5) {
		words, beyond := Words(units(s), plain())
		narrow, wide, far := Extent(words)
		for _, more := range []string{"/", "//", "/_/"} {
			hold(t, s+more, plain(), words, beyond)
			l, _ := Words(units(s+more), plain())
			if a, b, beyond := Extent(l); a != narrow || b != wide || beyond != far {
				t.Errorf("P6.4: Extent of %q: %d, %d, %v; want %d, %d, %v", s+more, a, b, beyond, narrow, wide, far)
			}
		}
	}
}

func TestLeastGreatestWideRise(t *testing.T) {
	sizes := []int64{0, 1, 7, api.Max/2 + 1, api.Max - 1, api.Max}
	for _, a := range sizes {
		for _, space := range sizes {
			for _, end := range []int64{0, 3, api.Max} {
				advances := table(a, 2, space, end)
				for _, s := range texts(4) {
					l, _ := Words(units(s), advances)
					narrow, greatest, _ := Extent(l)
					if all, _ := Wide(units(s), advances); narrow < 0 || narrow > greatest || greatest > all {
						t.Fatalf("P6.4: of %q, a %d, space %d, end %d: %d, %d, %d", s, a, space, end, narrow, greatest, all)
					}
				}
			}
		}
	}
}

func TestNothingIsChangedAndNothingKept(t *testing.T) {
	room, advances := units("ab_a/b_a"), append(plain(), 1, 2, 3)
	roomBefore, advancesBefore := slices.Clone(room), slices.Clone(advances)
	l := room[:6]
	Wide(l, advances[:99])
	first, _ := Words(l, advances[:99])
	second, _ := Words(l, advances[:99])
	if !slices.Equal(room, roomBefore) || !slices.Equal(advances, advancesBefore) {
		t.Error("R3: Wide or Words changed what they were handed")
	}
	want := []api.Word{{From: 0, To: 2, W: 30}, {From: 3, To: 4, W: 10, Gap: 5}, {From: 5, To: 6, W: 20, Forced: 1}}
	clear(first)
	clear(room)
	clear(advances)
	if !slices.Equal(second, want) {
		t.Errorf("R3: Words answered memory that is not its own: %v", second)
	}

	words := append(slices.Clone(want), api.Word{W: 99}, api.Word{W: 98})
	before := slices.Clone(words)
	Extent(words[:3])
	if !slices.Equal(words, before) {
		t.Errorf("R3: Extent changed what it was handed to %v", words)
	}
}
