// Package value implements the values of the store: their validation, order and textual form.
package value

import "fasti/api"

// Check returns OK for a valid value, and ErrArg for any other.
func Check(v api.Value) api.Errno {
	switch {
	case v.Kind == api.VNum && v.S == "":
		return api.OK
	case v.Kind == api.VText && v.N == 0 && len(v.S) <= api.MaxText && Runes(v.S) >= 0:
		return api.OK
	}
	return api.ErrArg
}

// Cmp orders any two values by Kind, then N, then the bytes of S.
func Cmp(a, b api.Value) int {
	if c := order(a.Kind, b.Kind); c != 0 {
		return c
	}
	if c := order(a.N, b.N); c != 0 {
		return c
	}
	return order(a.S, b.S)
}

func order[T ~int | ~string](a, b T) int {
	switch {
	case a < b:
		return -1
	case a > b:
		return 1
	}
	return 0
}

// Text returns the textual form of a valid value.
func Text(v api.Value) (string, api.Errno) {
	if e := Check(v); e != api.OK {
		return "", e
	}
	if v.Kind == api.VText {
		return Quote(v.S)
	}
	return string(appendInteger(nil, v.N)), api.OK
}

// Quote returns the textual form of a valid string of any length.
func Quote(s string) (quoted string, e api.Errno) {
	defer func() {
		if recover() != nil {
			quoted, e = "", api.ErrArg
		}
	}()
	out := []byte{'"'}
	walk(s, func(_ int, c rune) { out = appendPoint(out, c) })
	return string(append(out, '"')), api.OK
}

// Parse returns the value whose textual form is s, and the length of s; or
// the offset of what is wrong, and the error.
func Parse(s string) (v api.Value, n int, e api.Errno) {
	defer func() {
		if cause := recover(); cause != nil {
			at, _ := cause.(misfit)
			v, n, e = api.Value{}, int(at), api.ErrFormat
		}
	}()
	var r reader
	walk(s, r.read)
	if !r.complete() {
		return api.Value{}, len(s), api.ErrShort
	}
	if r.tooBig() {
		return api.Value{}, 0, api.ErrBig
	}
	return r.value(), len(s), api.OK
}

// Runes returns the number of code points of a valid string, and -1 for any other.
func Runes(s string) (n int) {
	defer func() {
		if recover() != nil {
			n = -1
		}
	}()
	walk(s, func(int, rune) { n++ })
	return n
}
