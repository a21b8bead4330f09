package table

import (
	"errors"
	"math"
	"runtime"
	"slices"
	"sync"
	"sync/atomic"
	"testing"

	"jamb/api"
)

// big takes so long to be written that whoever is too early sees a part of it.
type big [512]int

func bigOf(x int) (b big) {
	for i := range b {
		b[i] = x
	}
	return b
}

// whole: is it one that bigOf answers, but no zero value?
func (b big) whole() bool { return b[0] != 0 && b == bigOf(b[0]) }

func made[T any](t *testing.T, n int) *Table[T] {
	t.Helper()
	x, e := New[T](n)
	if e != api.OK || x == nil {
		t.Fatalf("P3.1: New(%d): %v, %v", n, x, e)
	}
	return x
}

// together calls f at a time so many times, each with a number of its own, and waits for all.
func together(n int, f func(g int)) {
	var ready, all sync.WaitGroup
	ready.Add(n)
	for g := range n {
		all.Go(func() {
			ready.Done()
			ready.Wait()
			f(g)
		})
	}
	all.Wait()
}

func TestNewAtTheBounds(t *testing.T) {
	for _, n := range []int{math.MinInt, -65536, -2, -1, api.MaxNodes + 1, api.MaxNodes * 2, 1 << 32, math.MaxInt} {
		if x, e := New[int](n); x != nil || e != api.ErrArg {
			t.Errorf("P3.1: New(%d): %v, %v; want no table, %v", n, x, e, api.ErrArg)
		}
	}
	for _, n := range []int{0, 1, 2, 63, 64, 65, api.MaxNodes - 1, api.MaxNodes} {
		x := made[int](t, n)
		if x.Size() != n || x.Left() != n {
			t.Errorf("P3.1: New(%d): size %d, left %d", n, x.Size(), x.Left())
		}
		for i := range n {
			if v, e := x.Get(i); v != 0 || e != api.ErrNone {
				t.Fatalf("P3.1: New(%d): cell %d: %d, %v; want 0, %v", n, i, v, e, api.ErrNone)
			}
		}
	}
}

func TestOfNoTable(t *testing.T) {
	var x *Table[string]
	if x.Size() != 0 || x.Left() != 0 {
		t.Errorf("P3.1: of no table: size %d, left %d", x.Size(), x.Left())
	}
	// ErrNil is ahead of ErrArg.
	for _, i := range []int{math.MinInt, -1, 0, 1, math.MaxInt} {
		if e := x.Put(i, "a"); e != api.ErrNil {
			t.Errorf("P3.2: of no table: Put(%d): %v; want %v", i, e, api.ErrNil)
		}
		if v, e := x.Get(i); v != "" || e != api.ErrNil {
			t.Errorf("P3.2: of no table: Get(%d): %q, %v; want %v", i, v, e, api.ErrNil)
		}
	}
	if l, e := x.All(); len(l) != 0 || e != api.ErrNil {
		t.Errorf("P3.3: of no table: %q, %v; want %v", l, e, api.ErrNil)
	}
}

// TestOfNoCells asks a table of none, and one that nobody made.
func TestOfNoCells(t *testing.T) {
	for _, x := range []*Table[int]{made[int](t, 0), {}} {
		if x.Size() != 0 || x.Left() != 0 {
			t.Errorf("P3.1: size %d, left %d", x.Size(), x.Left())
		}
		for _, i := range []int{-1, 0, 1} {
			if e := x.Put(i, 7); e != api.ErrArg {
				t.Errorf("P3.2: Put(%d): %v; want %v", i, e, api.ErrArg)
			}
			if v, e := x.Get(i); v != 0 || e != api.ErrArg {
				t.Errorf("P3.2: Get(%d): %d, %v; want %v", i, v, e, api.ErrArg)
			}
		}
		if l, e := x.All(); len(l) != 0 || e != api.OK {
			t.Errorf("P3.3: %d, %v; want none, OK", l, e)
		}
	}
}

// step is a call with what it is to answer.
type step struct {
	call string
	i, v int
	list []int
	want api.Errno
}

// do does a step, and tells whether it was answered as it is to be.
func (s step) do(x *Table[int]) bool {
	switch s.call {
	case "put":
		return x.Put(s.i, s.v) == s.want
	case "get":
		v, e := x.Get(s.i)
		return v == s.v && e == s.want
	case "left":
		return x.Left() == s.v
	case "size":
		return x.Size() == s.v
	}
	l, e := x.All()
	return slices.Equal(l, s.list) && e == s.want
}

func TestStepsByHand(t *testing.T) {
	x := made[int](t, 3)
	for i, s := range []step{
		{call: "left", v: 3}, {call: "size", v: 3},
		{call: "get", i: 0, want: api.ErrNone}, {call: "all", want: api.ErrNone},
		{call: "put", i: 1, v: 7, want: api.OK},
		{call: "left", v: 2}, {call: "get", i: 1, v: 7, want: api.OK},
		{call: "get", i: 0, want: api.ErrNone}, {call: "get", i: 2, want: api.ErrNone},
		{call: "put", i: 1, v: 8, want: api.ErrState}, {call: "put", i: 1, v: 7, want: api.ErrState},
		{call: "left", v: 2}, {call: "get", i: 1, v: 7, want: api.OK}, {call: "all", want: api.ErrNone},
		// Wrong cells, and nothing has changed behind them.
		{call: "put", i: -1, v: 9, want: api.ErrArg}, {call: "get", i: -1, want: api.ErrArg},
		{call: "put", i: 3, v: 9, want: api.ErrArg}, {call: "get", i: 3, want: api.ErrArg},
		{call: "put", i: math.MinInt, v: 9, want: api.ErrArg}, {call: "get", i: math.MinInt, want: api.ErrArg},
		{call: "put", i: math.MaxInt, v: 9, want: api.ErrArg}, {call: "get", i: math.MaxInt, want: api.ErrArg},
		{call: "left", v: 2}, {call: "size", v: 3}, {call: "get", i: 1, v: 7, want: api.OK},
		// A zero value is a value.
		{call: "put", i: 2, v: 0, want: api.OK}, {call: "left", v: 1},
		{call: "get", i: 2, v: 0, want: api.OK}, {call: "put", i: 2, v: 5, want: api.ErrState},
		{call: "get", i: 2, v: 0, want: api.OK}, {call: "all", want: api.ErrNone},
		{call: "put", i: 0, v: -4, want: api.OK}, {call: "left", v: 0}, {call: "size", v: 3},
		{call: "all", list: []int{-4, 7, 0}, want: api.OK},
		{call: "put", i: 0, v: 1, want: api.ErrState}, {call: "put", i: 3, v: 1, want: api.ErrArg},
		{call: "left", v: 0}, {call: "all", list: []int{-4, 7, 0}, want: api.OK},
	} {
		if !s.do(x) {
			t.Errorf("P3.2, P3.3, P3.5: step %d is not answered as is told here: %+v", i, s)
		}
	}
}

func TestTheChaptersExample(t *testing.T) {
	x := made[int](t, 2)
	for i, s := range []step{
		{call: "left", v: 2}, {call: "get", i: 0, want: api.ErrNone}, {call: "put", i: 0, v: 7}, {call: "put", i: 0, v: 8, want: api.ErrState},
		{call: "get", i: 0, v: 7}, {call: "left", v: 1},
		{call: "all", want: api.ErrNone}, {call: "put", i: 1, v: 9}, {call: "all", list: []int{7, 9}}, {call: "put", i: 2, v: 1, want: api.ErrArg},
	} {
		if !s.do(x) {
			t.Errorf("P3.1 to P3.3: step %d is not answered as the chapter tells: %+v", i, s)
		}
	}
}

func TestZeroValuesBesideErrors(t *testing.T) {
	boxes := made[*int](t, 1)
	if v, e := boxes.Get(0); v != nil || e != api.ErrNone {
		t.Errorf("P3.2: %v, %v", v, e)
	}
	if e := boxes.Put(0, nil); e != api.OK {
		t.Errorf("P3.2: nil: %v", e)
	}
	if v, e := boxes.Get(0); v != nil || e != api.OK {
		t.Errorf("P3.2: nil that is published: %v, %v", v, e)
	}
	if e := boxes.Put(0, new(int)); e != api.ErrState {
		t.Errorf("P3.2: behind a nil: %v; want %v", e, api.ErrState)
	}
	frags := made[api.Frag](t, 2)
	frags.Put(0, api.Frag{X: 1, Y: 2, W: 3, H: 4, Lines: []api.Line{{Y: 5, H: 6}}})
	for _, i := range []int{-1, 1, 2} {
		if v, _ := frags.Get(i); v.X != 0 || v.Y != 0 || v.W != 0 || v.H != 0 || v.Lines != nil {
			t.Errorf("P3.2: Get(%d): %v beside an error", i, v)
		}
	}
	if v, e := frags.Get(0); v.X != 1 || v.Y != 2 || v.W != 3 || v.H != 4 || len(v.Lines) != 1 || e != api.OK {
		t.Errorf("P3.2: %v, %v", v, e)
	}
	nothings := made[struct{}](t, 2)
	nothings.Put(0, struct{}{})
	if _, e := nothings.Get(0); e != api.OK || nothings.Put(0, struct{}{}) != api.ErrState || nothings.Left() != 1 {
		t.Errorf("P3.2: of values without room: %v, left %d", e, nothings.Left())
	}
	failures := made[error](t, 1)
	failure := errors.New("one")
	failures.Put(0, failure)
	if v, e := failures.Get(0); !errors.Is(v, failure) || e != api.OK {
		t.Errorf("P3.2: %v, %v", v, e)
	}
}

func TestAllIsAListOfItsOwn(t *testing.T) {
	x := made[int](t, 4)
	for i := range 4 {
		x.Put(i, 10+i)
	}
	want := []int{10, 11, 12, 13}
	one, _ := x.All()
	two, _ := x.All()
	for i := range one {
		one[i] = -1
	}
	_ = append(one[:1], -2, -2, -2)
	if three, e := x.All(); !slices.Equal(two, want) || !slices.Equal(three, want) || e != api.OK {
		t.Errorf("P3.3: behind writing to one list others are %d, %d, %v; want %d", two, three, e, want)
	}
	if v, _ := x.Get(0); v != 10 {
		t.Errorf("P3.3: behind writing to a list a cell is %d; want 10", v)
	}
}

func TestAllOfTheGreatestTable(t *testing.T) {
	x := made[int](t, api.MaxNodes)
	for i := range api.MaxNodes - 1 {
		// 40503 is odd, so its multiples go through all cells but the first one, in no order.
		if e := x.Put((i+1)*40503%api.MaxNodes, (i+1)*40503%api.MaxNodes+1); e != api.OK {
			t.Fatalf("P3.2: Put %d: %v", i, e)
		}
	}
	if l, e := x.All(); len(l) != 0 || e != api.ErrNone || x.Left() != 1 {
		t.Errorf("P3.3: with one that is not published: %d values, %v, left %d", len(l), e, x.Left())
	}
	x.Put(0, 1)
	l, e := x.All()
	if len(l) != api.MaxNodes || e != api.OK || x.Left() != 0 {
		t.Fatalf("P3.3: %d values, %v, left %d", len(l), e, x.Left())
	}
	for i, v := range l {
		if v != i+1 {
			t.Fatalf("P3.3: value %d: %d; want %d", i, v, i+1)
		}
	}
}

// TestEachOrderOfThree holds a table against a map, over all runs of Puts to cells from -1 to 3 of a table of three.
func TestEachOrderOfThree(t *testing.T) {
	const puts = 5
	for run := range 5 * 5 * 5 * 5 * 5 {
		x, told := made[int](t, 3), map[int]int{}
		for k, rest := 0, run; k < puts; k, rest = k+1, rest/5 {
			i, want := rest%5-1, api.ErrArg
			if _, there := told[i]; there {
				want = api.ErrState
			} else if i >= 0 && i < 3 {
				want, told[i] = api.OK, k
			}
			if e := x.Put(i, k); e != want {
				t.Fatalf("P3.2: run %d, Put(%d, %d): %v; want %v", run, i, k, e, want)
			}
			if x.Left() != 3-len(told) || x.Size() != 3 {
				t.Fatalf("P3.5: run %d, behind Put(%d, %d): left %d; want %d", run, i, k, x.Left(), 3-len(told))
			}
			for i := range 3 {
				want, there := told[i]
				if v, e := x.Get(i); v != want || (e == api.OK) != there || !there && e != api.ErrNone {
					t.Fatalf("P3.2, P3.5: run %d, Get(%d): %d, %v; want %d", run, i, v, e, want)
				}
			}
			if l, e := x.All(); len(told) < 3 && (len(l) != 0 || e != api.ErrNone) || len(told) == 3 && (len(l) != 3 || e != api.OK) {
				t.Fatalf("P3.3: run %d, with %d published: %d, %v", run, len(told), l, e)
			}
		}
	}
}

// TestWhileAPutIsUnderWay holds a cell where a Put has taken it and written, but not published it.
func TestWhileAPutIsUnderWay(t *testing.T) {
	x := made[int](t, 2)
	x.Put(1, 9)
	c := &x.cells[0]
	c.stands.Store(taken)
	x.values[0] = 7
	if v, e := x.Get(0); v != 0 || e != api.ErrNone {
		t.Errorf("P3.2: Get(0): %d, %v; want 0, %v", v, e, api.ErrNone)
	}
	if l, e := x.All(); len(l) != 0 || e != api.ErrNone || x.Left() != 1 {
		t.Errorf("P3.3, P3.5: %d, %v, left %d; want none, %v, 1", l, e, x.Left(), api.ErrNone)
	}
	together(4, func(g int) {
		if g == 0 {
			for range 1000 {
				runtime.Gosched()
			}
			c.stands.Store(published)
			c.filled.Done()
			return
		}
		// This one comes too late, but may not say so ahead of what makes it so.
		put := x.Put(0, 8)
		if v, e := x.Get(0); put != api.ErrState || v != 7 || e != api.OK || x.Left() != 0 {
			t.Errorf("P3.2: Put(0): %v, and then Get(0): %d, %v, left %d; want %v, 7, OK, 0", put, v, e, x.Left(), api.ErrState)
		}
	})
}

// TestOneOfMany has many goroutines put into the same cells, in the same order, so that they are at one cell at about a time.
func TestOneOfMany(t *testing.T) {
	const cells, workers = 2000, 8
	for range 8 {
		x := made[big](t, cells)
		var won [cells][workers]bool
		together(workers, func(g int) {
			for i := range cells {
				won[i][g] = putAndSee(t, x, i, g)
			}
		})
		l, e := x.All()
		if len(l) != cells || e != api.OK || x.Left() != 0 {
			t.Fatalf("P3.4: behind all Puts: %d values, %v, left %d", len(l), e, x.Left())
		}
		for i, v := range l {
			var want [workers]bool
			if v.whole() && v[0] <= workers {
				want[v[0]-1] = true
			}
			if won[i] != want {
				t.Errorf("P3.4: cell %d has the value of %d, and OK were answered %v", i, v[0], won[i])
			}
		}
	}
}

// putAndSee puts what is g's own into a cell, and tells whether that was answered OK. Answered so or ErrState, the cell is published.
func putAndSee(t *testing.T, x *Table[big], i, g int) bool {
	put := x.Put(i, bigOf(1+g))
	if put != api.OK && put != api.ErrState {
		t.Errorf("P3.4: Put(%d): %v", i, put)
	}
	if v, e := x.Get(i); e != api.OK || !v.whole() {
		t.Errorf("P3.2, P3.4: Get(%d) behind a Put: %d .. %d, %v", i, v[0], v[len(v)-1], e)
	}
	return put == api.OK
}

// TestReadWhileItIsWritten has goroutines read cells till they are there, while others put into them.
func TestReadWhileItIsWritten(t *testing.T) {
	const cells, workers = 5000, 4
	for range 8 {
		x := made[big](t, cells)
		together(2*workers, func(g int) {
			for i := range cells {
				if g%2 == 0 {
					x.Put(i, bigOf(1+g))
				} else {
					readTillItIsThere(t, x, i)
				}
			}
		})
	}
}

func readTillItIsThere(t *testing.T, x *Table[big], i int) {
	v, e := x.Get(i)
	for tries := 1; e == api.ErrNone; v, e = x.Get(i) {
		if v != (big{}) {
			t.Errorf("P3.2: Get(%d): %d .. %d beside ErrNone", i, v[0], v[len(v)-1])
		}
		// Seldom, so that most tries are made while the value is written.
		if tries++; tries%256 == 0 {
			runtime.Gosched()
		}
	}
	if e != api.OK || !v.whole() {
		t.Errorf("P3.4: Get(%d): %d .. %d, %v", i, v[0], v[len(v)-1], e)
	}
	if again, e := x.Get(i); again != v || e != api.OK {
		t.Errorf("P3.5: Get(%d): %d, and then %d, %v", i, v[0], again[0], e)
	}
}

// TestLeftWhileItGoesDown has goroutines ask what is left while others put: it never grows, and tells of all Puts that have come back.
func TestLeftWhileItGoesDown(t *testing.T) {
	const cells, workers = 512, 4
	for range 20 {
		x := made[int](t, cells)
		var back, begun atomic.Int64
		together(2*workers, func(g int) {
			if g%2 == 0 {
				for i := g / 2; i < cells; i += workers {
					begun.Add(1)
					x.Put(i, i)
					back.Add(1)
					x.Put(i, -1)
				}
				return
			}
			for last := cells; last > 0; {
				before := int(back.Load())
				left := x.Left()
				after := int(begun.Load())
				if left > last || left > cells-before || left < cells-after {
					t.Errorf("P3.4, P3.5: left %d, behind %d, with %d that were back and %d that were begun", left, last, before, after)
				}
				last = left
				runtime.Gosched()
			}
			if l, e := x.All(); len(l) != cells || e != api.OK {
				t.Errorf("P3.3: nothing is left, and All answers %d values, %v", len(l), e)
			}
		})
	}
}

// TestAllWhileItIsPut has goroutines ask for all values while others put: what they get is whole, and in order.
func TestAllWhileItIsPut(t *testing.T) {
	const cells, workers = 4, 4
	for range 10000 {
		x := made[big](t, cells)
		together(2*workers, func(g int) {
			if g%2 == 0 {
				for i := range cells {
					x.Put(i, bigOf(1+i))
				}
				return
			}
			l, e := x.All()
			for tries := 1; e == api.ErrNone; l, e = x.All() {
				if len(l) != 0 {
					t.Errorf("P3.3: %d values beside ErrNone", len(l))
				}
				// Seldom, so that most tries are made while the last value is written.
				if tries++; tries%256 == 0 {
					runtime.Gosched()
				}
			}
			for i, v := range l {
				if v != bigOf(1+i) {
					t.Errorf("P3.4: value %d of all: %d .. %d", i, v[0], v[len(v)-1])
				}
			}
		})
	}
}
