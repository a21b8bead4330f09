package codec

import "jamb/api"

// field of a style: whether it is zero, and how its value goes to bytes and comes from there.
type field struct {
	zero func(s *api.Style) bool
	add  func(b []byte, s *api.Style) []byte
	take func(r *reader, s *api.Style)
}

// fields: all of them in their order, the field 1 first.
func fields() []field {
	all := []field{
		flag(func(s *api.Style) *bool { return &s.Flow }),
		flag(func(s *api.Style) *bool { return &s.Wrap }),
		plain(func(s *api.Style) *uint8 { return &s.Kind }),
		plain(func(s *api.Style) *uint8 { return &s.Float }),
		plain(func(s *api.Style) *uint8 { return &s.Clear }),
		plain(func(s *api.Style) *uint8 { return &s.Align }),
		plain(func(s *api.Style) *uint8 { return &s.Justify }),
		plain(func(s *api.Style) *uint8 { return &s.Items }),
		plain(func(s *api.Style) *int64 { return &s.Line }),
		plain(func(s *api.Style) *int { return &s.Order }),
		plain(func(s *api.Style) *int64 { return &s.Grow }),
		plain(func(s *api.Style) *int64 { return &s.Shrink }),
		length(func(s *api.Style) *api.Len { return &s.W }),
		length(func(s *api.Style) *api.Len { return &s.H }),
		length(func(s *api.Style) *api.Len { return &s.MinW }),
		length(func(s *api.Style) *api.Len { return &s.MaxW }),
		length(func(s *api.Style) *api.Len { return &s.MinH }),
		length(func(s *api.Style) *api.Len { return &s.MaxH }),
		length(func(s *api.Style) *api.Len { return &s.Basis }),
	}
	for side := range 4 {
		all = append(all, length(func(s *api.Style) *api.Len { return &s.Margin[side] }))
	}
	for side := range 4 {
		all = append(all, plain(func(s *api.Style) *int64 { return &s.Border[side] }))
	}
	for side := range 4 {
		all = append(all, plain(func(s *api.Style) *int64 { return &s.Padding[side] }))
	}
	return append(all, units())
}

// of: the field that stands at a place of a style, with what its value is as bytes.
func of[T comparable](at func(*api.Style) *T, add func([]byte, T) []byte, take func(*reader) T) field {
	var nothing T
	return field{
		zero: func(s *api.Style) bool { return *at(s) == nothing },
		add:  func(b []byte, s *api.Style) []byte { return add(b, *at(s)) },
		take: func(r *reader, s *api.Style) { *at(s) = take(r) },
	}
}

// flag: a field that has no value but that it is there.
func flag(at func(*api.Style) *bool) field {
	return of(at, func(b []byte, _ bool) []byte { return b }, func(*reader) bool { return true })
}

// plain: a field whose value is a number.
func plain[T whole](at func(*api.Style) *T) field {
	return of(at, addNumber[T], takeNumber[T])
}

// length: a field whose value is a length.
func length(at func(*api.Style) *api.Len) field {
	return of(at, addLen, takeLen)
}

// addLen: a length's two numbers.
func addLen(b []byte, l api.Len) []byte {
	return addNumber(addNumber(b, l.Kind), l.N)
}

// takeLen: the next length.
func takeLen(r *reader) (l api.Len) {
	l.Kind = takeNumber[uint8](r)
	l.N = takeNumber[int64](r)
	return l
}

// units: the field of a text's units.
func units() field {
	return field{
		zero: func(s *api.Style) bool { return len(s.Units) == 0 },
		add:  func(b []byte, s *api.Style) []byte { return addList(b, s.Units, addUnit) },
		take: func(r *reader, s *api.Style) { s.Units = takeList(r, true, takeUnit) },
	}
}

// addUnit: a unit's two bytes.
func addUnit(b []byte, u uint16) []byte { return append(b, byte(u>>8), byte(u)) }

// takeUnit: the next unit.
func takeUnit(r *reader) uint16 {
	high := takeByte(r)
	return uint16(high)<<8 | uint16(takeByte(r))
}
