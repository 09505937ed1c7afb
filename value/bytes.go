package value

import (
	"bytes"

	"encore/api"
)

// wordSize is how many bytes an int's number takes.
const wordSize = 8

// Bytes is the encoding of v.
func Bytes(v api.Value) ([]byte, api.Errno) {
	if e := Check(v); e != api.OK {
		return nil, e
	}
	return encoded(v), api.OK
}

// Take takes a value off b.
func Take(b []byte) (v api.Value, rest []byte, e api.Errno) {
	r := reader{b: b}
	v = r.value(0)
	if r.e != api.OK {
		return api.Value{}, nil, r.e
	}
	if e := Check(v); e != api.OK {
		return api.Value{}, nil, e
	}
	return v, bytes.Clone(r.b), api.OK
}

// encoded is the encoding of v, which is valid.
func encoded(v api.Value) []byte {
	kind := single(v.Kind)
	switch v.Kind {
	case api.KindInt:
		return join(kind, word(v.N))
	case api.KindBool, api.KindFuture:
		return join(kind, single(v.N))
	case api.KindText:
		return join(kind, counted(v.S))
	case api.KindList, api.KindRec:
		return join(kind, single(len(v.L)), elements(v))
	}
	return kind
}

// elements is the encodings of the elements of v, each behind its name if it has one.
func elements(v api.Value) []byte {
	var parts [][]byte
	for i := range len(v.L) {
		if v.Kind == api.KindRec {
			parts = append(parts, counted(v.Names[i]))
		}
		parts = append(parts, encoded(v.L[i]))
	}
	return join(parts...)
}

// join is the parts, one behind the other.
func join(parts ...[]byte) []byte {
	return bytes.Join(parts, nil)
}

// single is a number that one byte holds.
func single(n int) []byte {
	return []byte{byte(n)}
}

// counted is a string behind the number of its bytes.
func counted(s string) []byte {
	return join(single(len(s)), []byte(s))
}

// word is the number of an int.
func word(n int) []byte {
	b := make([]byte, wordSize)
	for i := range wordSize {
		b[i] = byte(uint64(n) >> (8 * (wordSize - 1 - i)))
	}
	return b
}

// reader reads from the bytes that are left. It keeps the first error; from then on all that it reads is zeros, which stand for a value without contents.
type reader struct {
	b []byte
	e api.Errno
}

// fail keeps an error, unless there is one.
func (r *reader) fail(e api.Errno) {
	if r.e == api.OK {
		r.e = e
	}
}

// value reads a value that is inside so many others.
func (r *reader) value(others int) api.Value {
	if others == api.MaxDeep && len(r.b) > 0 {
		r.fail(api.ErrLimit)
	}
	v := api.Value{Kind: r.single()}
	switch v.Kind {
	case api.KindNone:
	case api.KindInt:
		v.N = r.word()
	case api.KindBool:
		v.N = r.single()
		if v.N > 1 {
			r.fail(api.ErrSyntax)
		}
	case api.KindText:
		v.S = r.counted(api.MaxText)
	case api.KindList:
		for range r.count(api.MaxList) {
			v.L = append(v.L, r.value(others+1))
		}
	case api.KindRec:
		for range r.count(api.MaxFields) {
			v.Names = append(v.Names, r.counted(api.MaxName))
			v.L = append(v.L, r.value(others+1))
		}
	case api.KindFuture:
		v.N = r.single()
	default:
		r.fail(api.ErrSyntax)
	}
	return v
}

// take reads n bytes; they are none if there are fewer.
func (r *reader) take(n int) []byte {
	if len(r.b) < n {
		r.fail(api.ErrTrunc)
	}
	if r.e != api.OK {
		return nil
	}
	taken := r.b[:n]
	r.b = r.b[n:]
	return taken
}

// single reads a number of one byte.
func (r *reader) single() int {
	return r.number(1)
}

// word reads the number of an int.
func (r *reader) word() int {
	return r.number(wordSize)
}

// number reads a number of so many bytes.
func (r *reader) number(size int) int {
	var n uint64
	for _, c := range r.take(size) {
		n = n<<8 | uint64(c)
	}
	return int(n)
}

// count reads how many of something follow; there may be so many at most.
func (r *reader) count(most int) int {
	n := r.single()
	if n > most {
		r.fail(api.ErrLimit)
		return 0
	}
	return n
}

// counted reads a string of so many bytes at most.
func (r *reader) counted(most int) string {
	return string(r.take(r.count(most)))
}
