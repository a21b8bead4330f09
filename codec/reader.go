package codec

import "jamb/api"

// whole is a type of a tree's numbers.
type whole interface{ uint8 | int | int64 }

// reader goes through bytes. Where they say nothing it panics, so that no step has to hand an error on.
type reader struct {
	b  []byte
	at int
}

// must: the bytes say nothing, if it does not hold.
func must(holds bool) {
	if !holds {
		panic(api.ErrBytes)
	}
}

// takeByte: the next byte.
func takeByte(r *reader) byte {
	must(r.at < len(r.b))
	r.at++
	return r.b[r.at-1]
}

// takeNumber: the next number, which must be one of T.
func takeNumber[T whole](r *reader) T {
	n, next, e := Take(r.b, r.at)
	must(e == api.OK && int64(T(n)) == n)
	r.at = next
	return T(n)
}

// takeList: how many there are, and each of them; none, if they are not to be kept.
func takeList[T any](r *reader, keep bool, take func(*reader) T) []T {
	n := takeNumber[int64](r)
	must(n >= 0)
	var l []T
	// No room is made ahead: a few bytes may tell of many that are not there.
	for range n {
		x := take(r)
		if keep {
			l = append(l, x)
		}
	}
	return l
}

// takeAll: the tree whose bytes are all of b; without its lists, if they are not to be kept.
func takeAll(b []byte, keep bool) (t api.Tree) {
	r, table := &reader{b: b}, fields()
	t.View = takeNumber[int64](r)
	t.Advances = takeList(r, keep, takeNumber[int64])
	t.Nodes = takeList(r, keep, func(r *reader) (n api.Node) {
		n.Parent = takeNumber[int](r)
		takeStyle(r, &n.Style, table)
		return n
	})
	must(r.at == len(b))
	return t
}

// takeStyle: the next style, into one that is zero.
func takeStyle(r *reader, s *api.Style, table []field) {
	last := 0
	for {
		n := int(takeByte(r))
		if n == 0 {
			return
		}
		must(last < n && n <= len(table))
		f := table[n-1]
		f.take(r, s)
		// It would not have been written.
		must(!f.zero(s))
		last = n
	}
}
