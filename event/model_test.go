package event_test

import (
	"bytes"
	"math"
	"reflect"
	"slices"
	"strings"

	"encore/api"
	"encore/bin"
	"encore/value"
)

// row is a row of the chapter's table: what each field holds, "" where it is not listed.
type row struct{ id, n, s, v string }

var rows = map[int]row{
	1:  {id: "start beside N", n: "flow or 0", s: "name", v: "any"},
	2:  {id: "start", s: "name", v: "any"},
	3:  {id: "start", n: "count"},
	4:  {id: "start", n: "count"},
	5:  {id: "start", v: "any"},
	6:  {id: "start", n: "count", v: "int but 0"},
	7:  {id: "start", n: "tick", v: "int"},
	8:  {id: "start"},
	9:  {id: "count", s: "name"},
	10: {s: "name", v: "any"},
	11: {id: "start", n: "flow", s: "name", v: "any"},
	12: {id: "count", n: "tick"},
	13: {id: "count", n: "tick"},
	14: {},
	15: {n: "any int", v: "none beside N"},
}

// rowOf is the row of a kind, if there is one.
func rowOf(kind int) (r row, is bool) {
	r, is = rows[kind]
	return r, is
}

// kinds are those of the table.
func kinds() []int { return []int{1, 2, 3, 4, 5, 6, 7, 8, 9, 10, 11, 12, 13, 14, 15} }

var bounds = map[string][2]int{
	"":          {0, 0},
	"start":     {1, 64},
	"count":     {1, 1<<53 - 1},
	"tick":      {0, 1<<53 - 1},
	"flow":      {1, 8},
	"flow or 0": {0, 8},
	"any int":   {math.MinInt, math.MaxInt},
}

// isNumber is whether n is what a field holds that is a number.
func isNumber(what string, n int) bool {
	b, known := bounds[what]
	if !known {
		panic(what)
	}
	return b[0] <= n && n <= b[1]
}

// isName is whether s is a name, by its definition.
func isName(s string) bool {
	rest := strings.TrimLeft(s, "abcdefghijklmnopqrstuvwxyz0123456789_")
	return len(s) >= 1 && len(s) <= 16 && rest == "" && s[0] >= 'a'
}

// isValid is whether x is valid, by the table.
func isValid(x api.Event) bool {
	r, is := rowOf(x.Kind)
	if !is || x.Flow < 1 || x.Flow > 8 || !isNumber(r.n, x.N) {
		return false
	}
	if r.id == "start beside N" {
		r.id = "start"
		if x.N == 0 {
			r.id = ""
		}
	}
	if r.v == "none beside N" {
		r.v = "any"
		if x.N != 0 {
			r.v = ""
		}
	}
	if !isNumber(r.id, x.Id) || (r.s == "") != (x.S == "") || r.s != "" && !isName(x.S) {
		return false
	}
	return isValue(r.v, x.V)
}

// isValue is whether v is what a field holds that is a value.
func isValue(what string, v api.Value) bool {
	switch what {
	case "":
		return v.Kind == 0 && v.N == 0 && v.S == "" && len(v.L) == 0 && len(v.Names) == 0
	case "int":
		return value.Is(v, "int")
	case "int but 0":
		return value.Is(v, "int") && v.N != 0
	}
	return value.Check(v) == api.OK
}

// encodedAs is the encoding of x, which is valid, by its definition.
func encodedAs(x api.Event) []byte {
	r, _ := rowOf(x.Kind)
	num := func(n int) []byte {
		b, e := bin.Num(n)
		if e != api.OK {
			panic(e)
		}
		return b
	}
	b := append([]byte{1, byte(x.Kind)}, byte(x.Flow))
	if r.id != "" {
		b = append(b, num(x.Id)...)
	}
	if r.n != "" {
		b = append(b, bin.Int(x.N)...)
	}
	if r.s != "" {
		b = append(append(b, byte(len(x.S))), x.S...)
	}
	if r.v != "" {
		v, _ := value.Bytes(x.V)
		b = append(b, v...)
	}
	return b
}

// taken is what Take returns by its definition; it leaves with the first error.
func taken(b []byte) (x api.Event, rest []byte, e api.Errno) {
	defer func() {
		if p := recover(); p != nil {
			x, rest, e = api.Event{}, nil, p.(api.Errno)
		}
	}()
	must := func(e api.Errno) {
		if e != api.OK {
			panic(e)
		}
	}
	if len(b) < 2 {
		panic(api.ErrTrunc)
	}
	r, is := rowOf(int(b[1]))
	if b[0] != 1 || !is {
		panic(api.ErrSyntax)
	}
	x.Kind = int(b[1])
	x.Flow, b, e = bin.TakeNum(b[2:])
	must(e)
	if r.id != "" {
		x.Id, b, e = bin.TakeNum(b)
		must(e)
	}
	if r.n != "" {
		x.N, b, e = bin.TakeInt(b)
		must(e)
	}
	if r.s != "" {
		x.S, b, e = bin.TakeText(b, 16)
		must(e)
	}
	if r.v != "" {
		x.V, b, e = value.Take(b)
		must(e)
	}
	if !isValid(x) {
		panic(api.ErrArg)
	}
	return x, b, api.OK
}

// equal is whether all fields of a and b are, where nil and empty lists are equal.
func equal(a, b api.Event) bool {
	same := equalValues(a.V, b.V)
	a.V, b.V = api.Value{}, api.Value{}
	return same && reflect.DeepEqual(a, b)
}

func equalValues(a, b api.Value) bool {
	if a.Kind != b.Kind || a.N != b.N || a.S != b.S || !slices.Equal(a.Names, b.Names) || len(a.L) != len(b.L) {
		return false
	}
	for i := range a.L {
		if !equalValues(a.L[i], b.L[i]) {
			return false
		}
	}
	return true
}

// random is a source of numbers that are the same in each run.
type random uint64

// below is a number from 0 to n - 1.
func (r *random) below(n int) int {
	*r = *r*6364136223846793005 + 1442695040888963407
	return int(uint64(*r>>33) % uint64(n))
}

// one is one of the list.
func one[T any](r *random, l []T) T { return l[r.below(len(l))] }

// someNumbers are those at the ends of what the fields hold, and of the sizes of their encodings.
var someNumbers = []int{0, 1, 2, 7, 8, 9, 63, 64, 65, 127, 128, 16383, 16384, 1<<53 - 2, 1<<53 - 1, 1 << 53, 1<<56 - 1, 1 << 56,
	math.MaxInt, -1, -2, -64, -65, -1 << 53, -1 << 55, -1<<55 - 1, math.MinInt + 1, math.MinInt}

var someTexts = []string{"", "a", "z", "pay", "a_0", "abcdefghijklmnop", "z999999999999999", "abcdefghijklmnopq", "A", "_a", "0", "a-", "a b", "a:none,b", "a\x00", "é", strings.Repeat("a", 1000)}

// someValues are of all kinds; the last ones are not valid.
var someValues = []api.Value{
	{}, num(0), num(0), num(1), num(-1), num(5), num(math.MinInt), num(math.MaxInt), {Kind: 2}, {Kind: 2, N: 1},
	text(""), text("ab"), text(strings.Repeat("\xff", 64)), {Kind: 4}, list(), list(num(1), text("x")),
	nested(7), {Kind: 5}, rec("a", num(7)), {Kind: 6, N: 1}, {Kind: 6, N: 64},
	list(text(strings.Repeat("a", 64)), text(strings.Repeat("b", 64)), text(strings.Repeat("c", 64)), text(strings.Repeat("d", 59))),

	{N: 1}, {S: "a"}, {L: []api.Value{{}}}, {Names: []string{"a"}}, {Kind: 1, S: "a"}, {Kind: 1, N: 1, L: []api.Value{{}}}, {Kind: 1, N: 1, Names: []string{"a"}},
	{Kind: 2, N: 2}, text(strings.Repeat("a", 65)), nested(8), rec("A", num(1)), {Kind: 6}, {Kind: 6, N: 65}, {Kind: 7}, {Kind: -1}, {Kind: math.MinInt},
}

// wild is an event with any fields.
func (r *random) wild() api.Event {
	return api.Event{Kind: r.below(18) - 1, Flow: one(r, someNumbers), Id: one(r, someNumbers), N: one(r, someNumbers), S: one(r, someTexts), V: one(r, someValues)}
}

// valid is a valid event of that kind.
func (r *random) valid(kind int) api.Event {
	x := api.Event{Kind: kind, Flow: 1 + r.below(8)}
	row, _ := rowOf(kind)
	for {
		w := r.wild()
		if row.n != "" {
			x.N = w.N
		}
		if row.id != "" {
			x.Id = w.Id
		}
		if row.s != "" {
			x.S = w.S
		}
		if row.v != "" {
			x.V = w.V
		}
		if isValid(x) {
			return x
		}
	}
}

// valids are n valid events of each kind.
func (r *random) valids(n int) []api.Event {
	var l []api.Event
	for range n {
		for _, kind := range kinds() {
			l = append(l, r.valid(kind))
		}
	}
	return l
}

// changed is x with another one of its fields.
func (r *random) changed(x api.Event) api.Event {
	w := r.wild()
	switch r.below(6) {
	case 0:
		x.Kind = w.Kind
	case 1:
		x.Flow = w.Flow
	case 2:
		x.Id = w.Id
	case 3:
		x.N = w.N
	case 4:
		x.S = w.S
	case 5:
		x.V = w.V
	}
	return x
}

// damaged is b with a few bytes changed, left out or added.
func (r *random) damaged(b []byte) []byte {
	b = bytes.Clone(b)
	marks := []byte{0, 1, 2, 3, 4, 5, 6, 7, 8, 9, 15, 16, 17, 64, 65, 127, 128, 192, 254, 255}
	for range 1 + r.below(2) {
		at := r.below(len(b) + 1)
		switch {
		case at == len(b) || r.below(4) == 0:
			b = slices.Insert(b, at, one(r, marks))
		case r.below(3) == 0:
			b = slices.Delete(b, at, at+1)
		default:
			b[at] = one(r, marks)
		}
	}
	return b
}
