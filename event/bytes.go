package event

import (
	"bytes"

	"encore/api"
	"encore/bin"
	"encore/value"
)

// An encoding starts with a version and a kind; the encoding of a number takes so many bytes at most.
const (
	version    = 1
	headSize   = 2
	mostNumber = 9
)

// Bytes is the encoding of e.
func Bytes(e api.Event) ([]byte, api.Errno) {
	if no := Check(e); no != api.OK {
		return nil, no
	}
	b := []byte{version, byte(e.Kind)}
	puts := [...]func(api.Event) ([]byte, api.Errno){putFlow, putId, putN, putS, putV}
	for i, put := range puts {
		if !has(e.Kind, 1<<i) {
			continue
		}
		field, no := put(e)
		if no != api.OK {
			return nil, no
		}
		b = append(b, field...)
	}
	return b, api.OK
}

// Take takes an event off b.
func Take(b []byte) (x api.Event, rest []byte, e api.Errno) {
	x, rest, e = decode(b)
	if e != api.OK {
		return api.Event{}, nil, e
	}
	return x, bytes.Clone(rest), api.OK
}

// Parse is the event that b is, as a whole.
func Parse(b []byte) (api.Event, api.Errno) {
	x, rest, e := decode(b)
	switch {
	case e != api.OK:
		return api.Event{}, e
	case len(rest) > 0:
		return api.Event{}, api.ErrSyntax
	}
	return x, api.OK
}

// decode is the event that b starts with, as far as there is no error, and what of b remains.
func decode(b []byte) (x api.Event, rest []byte, e api.Errno) {
	if len(b) < headSize {
		return x, nil, api.ErrTrunc
	}
	x.Kind = int(b[1])
	if b[0] != version || !isKind(x.Kind) {
		return x, nil, api.ErrSyntax
	}
	rest = b[headSize:]
	takes := [...]func(*api.Event, []byte) ([]byte, api.Errno){takeFlow, takeId, takeN, takeS, takeV}
	for i, take := range takes {
		if !has(x.Kind, 1<<i) {
			continue
		}
		if rest, e = take(&x, rest); e != api.OK {
			return x, nil, e
		}
	}
	return x, rest, Check(x)
}

func putFlow(x api.Event) ([]byte, api.Errno) { return bin.Num(x.Flow) }

func putId(x api.Event) ([]byte, api.Errno) { return bin.Num(x.Id) }

func putN(x api.Event) ([]byte, api.Errno) { return bin.Int(x.N), api.OK }

func putS(x api.Event) ([]byte, api.Errno) { return bin.Text(x.S, api.MaxName) }

func putV(x api.Event) ([]byte, api.Errno) { return value.Bytes(x.V) }

func takeFlow(x *api.Event, b []byte) (rest []byte, e api.Errno) {
	x.Flow, rest, e = takeOff(b, mostNumber, bin.TakeNum)
	return rest, e
}

func takeId(x *api.Event, b []byte) (rest []byte, e api.Errno) {
	x.Id, rest, e = takeOff(b, mostNumber, bin.TakeNum)
	return rest, e
}

func takeN(x *api.Event, b []byte) (rest []byte, e api.Errno) {
	x.N, rest, e = takeOff(b, mostNumber, bin.TakeInt)
	return rest, e
}

func takeS(x *api.Event, b []byte) (rest []byte, e api.Errno) {
	x.S, rest, e = takeOff(b, mostNumber+api.MaxName, takeName)
	return rest, e
}

func takeName(b []byte) (s string, rest []byte, e api.Errno) {
	return bin.TakeText(b, api.MaxName)
}

func takeV(x *api.Event, b []byte) (rest []byte, e api.Errno) {
	x.V, rest, e = takeOff(b, len(b), value.Take)
	return rest, e
}

// takeOff takes a field off b, where it needs so many bytes at most. What remains behind it is copied by take, so take is given no more than these.
func takeOff[T any](b []byte, most int, take func([]byte) (T, []byte, api.Errno)) (field T, rest []byte, e api.Errno) {
	head := b[:min(len(b), most)]
	field, left, e := take(head)
	if e != api.OK {
		return field, nil, e
	}
	return field, b[len(head)-len(left):], api.OK
}
