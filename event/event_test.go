package event_test

import (
	"bytes"
	"encoding/hex"
	"math"
	"slices"
	"strings"
	"testing"

	"encore/api"
	"encore/bin"
	"encore/event"
)

func num(n int) api.Value { return api.Value{Kind: api.KindInt, N: n} }

func text(s string) api.Value { return api.Value{Kind: api.KindText, S: s} }

func list(l ...api.Value) api.Value { return api.Value{Kind: api.KindList, L: l} }

// rec is a record of the names, which stand in one string, and the values.
func rec(names string, l ...api.Value) api.Value {
	return api.Value{Kind: api.KindRec, Names: strings.Fields(names), L: l}
}

// nested is none inside so many lists.
func nested(n int) api.Value {
	v := api.Value{}
	for range n {
		v = list(v)
	}
	return v
}

func unhex(t *testing.T, s string) []byte {
	t.Helper()
	b, err := hex.DecodeString(strings.ReplaceAll(s, " ", ""))
	if err != nil {
		t.Fatal(err)
	}
	return b
}

// tails are what may lie behind an encoding.
func tails() [][]byte {
	return [][]byte{nil, {0}, {1}, {255}, {1, 14, 3}, {2, 1}, bytes.Repeat([]byte{7}, 100), bytes.Repeat([]byte{255}, 5000)}
}

func TestExamples(t *testing.T) {
	for _, c := range []struct {
		x    api.Event
		want string
	}{
		{api.Event{Kind: api.EventCancel, Flow: 3}, "01 0e 03"},
		{api.Event{Kind: api.EventTry, Flow: 1, Id: 2, N: 1}, "01 03 01 02 02"},
	} {
		if b, e := event.Bytes(c.x); e != api.OK || !bytes.Equal(b, unhex(t, c.want)) {
			t.Errorf("%v: %x, %d", c.x, b, e)
		}
	}
	for _, c := range []struct {
		b    string
		want api.Errno
	}{{"02 0e 03", api.ErrSyntax}, {"01 10 03", api.ErrSyntax}, {"01 0e", api.ErrTrunc}, {"01 0e 00", api.ErrArg}, {"01 0e 03 00", api.ErrSyntax}} {
		if x, e := event.Parse(unhex(t, c.b)); e != c.want || !equal(x, api.Event{}) {
			t.Errorf("Parse of %s: %v, %d", c.b, x, e)
		}
	}
}

// P8.1: what is valid, at the ends of what each field may be.
func TestValid(t *testing.T) {
	const most = api.MaxNumber
	long := "abcdefghijklmno9"
	for i, x := range []api.Event{
		{Kind: 1, Flow: 1, S: "main"}, {Kind: 1, Flow: 8, S: "a"}, {Kind: 1, Flow: 2, N: 1, Id: 1, S: long}, {Kind: 1, Flow: 2, N: 8, Id: 64, S: "a_0", V: rec("a", num(1))}, {Kind: 1, Flow: 2, N: 2, Id: 1, S: "a"},
		{Kind: 2, Flow: 1, Id: 1, S: "pay", V: num(5)}, {Kind: 2, Flow: 1, Id: 64, S: long}, {Kind: 2, Flow: 1, Id: 1, S: "z", V: nested(7)},
		{Kind: 3, Flow: 1, Id: 1, N: 1}, {Kind: 3, Flow: 1, Id: 64, N: most}, {Kind: 4, Flow: 1, Id: 1, N: 1}, {Kind: 4, Flow: 1, Id: 64, N: most},
		{Kind: 5, Flow: 1, Id: 1}, {Kind: 5, Flow: 1, Id: 64, V: text("")},
		{Kind: 6, Flow: 1, Id: 1, N: 1, V: num(1)}, {Kind: 6, Flow: 1, Id: 64, N: most, V: num(math.MinInt)},
		{Kind: 7, Flow: 1, Id: 1, V: num(0)}, {Kind: 7, Flow: 1, Id: 64, N: most, V: num(math.MaxInt)}, {Kind: 7, Flow: 1, Id: 1, V: num(-1)},
		{Kind: 8, Flow: 1, Id: 1}, {Kind: 8, Flow: 8, Id: 64},
		{Kind: 9, Flow: 1, Id: 1, S: "go"}, {Kind: 9, Flow: 1, Id: 65, S: "go"}, {Kind: 9, Flow: 1, Id: most, S: "go"},
		{Kind: 10, Flow: 1, S: "go"}, {Kind: 10, Flow: 1, S: "go", V: list()},
		{Kind: 11, Flow: 1, Id: 1, N: 1, S: "main"}, {Kind: 11, Flow: 1, Id: 64, N: 8, S: "main", V: num(3)},
		{Kind: 12, Flow: 1, Id: 1}, {Kind: 12, Flow: 1, Id: most, N: most}, {Kind: 13, Flow: 1, Id: 1}, {Kind: 13, Flow: 1, Id: most, N: most},
		{Kind: 14, Flow: 1}, {Kind: 14, Flow: 8},
		{Kind: 15, Flow: 1}, {Kind: 15, Flow: 1, V: num(0)}, {Kind: 15, Flow: 1, N: 1}, {Kind: 15, Flow: 1, N: math.MinInt}, {Kind: 15, Flow: 1, N: math.MaxInt},
	} {
		if e := event.Check(x); e != api.OK {
			t.Errorf("%d, %v: %d", i, x, e)
		}
	}
}

// P8.1: what is not valid, by one fault each.
func TestNotValid(t *testing.T) {
	const more = api.MaxNumber + 1
	for i, x := range []api.Event{
		{}, {Flow: 1}, {Kind: 16, Flow: 1}, {Kind: -1, Flow: 1}, {Kind: 256 + 14, Flow: 1}, {Kind: math.MaxInt, Flow: 1}, {Kind: math.MinInt, Flow: 1},
		{Kind: 14}, {Kind: 14, Flow: -1}, {Kind: 14, Flow: 9}, {Kind: 14, Flow: math.MaxInt}, {Kind: 14, Flow: math.MinInt},
		{Kind: 1, Flow: 1, Id: 1, S: "a"}, {Kind: 1, Flow: 1, N: 1, S: "a"}, {Kind: 1, Flow: 1, N: 1, Id: 65, S: "a"}, {Kind: 1, Flow: 1, N: 1, Id: -1, S: "a"}, {Kind: 1, Flow: 1, N: 9, Id: 1, S: "a"}, {Kind: 1, Flow: 1, N: -1, Id: 1, S: "a"},
		{Kind: 1, Flow: 1}, {Kind: 1, Flow: 1, S: "abcdefghijklmnopq"}, {Kind: 1, Flow: 1, S: "Main"}, {Kind: 1, Flow: 1, S: "a", V: nested(8)},
		{Kind: 2, Flow: 1, S: "a"}, {Kind: 2, Flow: 1, Id: 65, S: "a"}, {Kind: 2, Flow: 1, Id: 1}, {Kind: 2, Flow: 1, Id: 1, S: "a:int,b"}, {Kind: 2, Flow: 1, Id: 1, S: "a", V: api.Value{Kind: 2, N: 2}},
		{Kind: 3, Flow: 1, N: 1}, {Kind: 3, Flow: 1, Id: 65, N: 1}, {Kind: 3, Flow: 1, Id: 1}, {Kind: 3, Flow: 1, Id: 1, N: -1}, {Kind: 3, Flow: 1, Id: 1, N: more},
		{Kind: 4, Flow: 1, N: 1}, {Kind: 4, Flow: 1, Id: 65, N: 1}, {Kind: 4, Flow: 1, Id: 1}, {Kind: 4, Flow: 1, Id: 1, N: -1}, {Kind: 4, Flow: 1, Id: 1, N: more},
		{Kind: 5, Flow: 1}, {Kind: 5, Flow: 1, Id: 65}, {Kind: 5, Flow: 1, Id: 1, V: api.Value{N: 1}},
		{Kind: 6, Flow: 1, Id: 1, N: 1}, {Kind: 6, Flow: 1, Id: 1, N: 1, V: num(0)}, {Kind: 6, Flow: 1, Id: 1, N: 1, V: api.Value{Kind: 2, N: 1}}, {Kind: 6, Flow: 1, Id: 1, V: num(1)}, {Kind: 6, Flow: 1, Id: 1, N: more, V: num(1)}, {Kind: 6, Flow: 1, N: 1, V: num(1)}, {Kind: 6, Flow: 1, Id: 65, N: 1, V: num(1)}, {Kind: 6, Flow: 1, Id: 1, N: 1, V: api.Value{Kind: 1, N: 1, S: "a"}},
		{Kind: 7, Flow: 1, Id: 1}, {Kind: 7, Flow: 1, Id: 1, V: text("5")}, {Kind: 7, Flow: 1, Id: 1, N: -1, V: num(5)}, {Kind: 7, Flow: 1, Id: 1, N: more, V: num(5)}, {Kind: 7, Flow: 1, V: num(5)}, {Kind: 7, Flow: 1, Id: 65, V: num(5)},
		{Kind: 8, Flow: 1}, {Kind: 8, Flow: 1, Id: 65}, {Kind: 8, Flow: 1, Id: -1},
		{Kind: 9, Flow: 1, S: "go"}, {Kind: 9, Flow: 1, Id: -1, S: "go"}, {Kind: 9, Flow: 1, Id: more, S: "go"}, {Kind: 9, Flow: 1, Id: 1}, {Kind: 9, Flow: 1, Id: 1, S: "_"},
		{Kind: 10, Flow: 1}, {Kind: 10, Flow: 1, S: "9"}, {Kind: 10, Flow: 1, S: "go", V: api.Value{Kind: 7}},
		{Kind: 11, Flow: 1, Id: 1, S: "a"}, {Kind: 11, Flow: 1, Id: 1, N: 9, S: "a"}, {Kind: 11, Flow: 1, N: 1, S: "a"}, {Kind: 11, Flow: 1, Id: 65, N: 1, S: "a"}, {Kind: 11, Flow: 1, Id: 1, N: 1}, {Kind: 11, Flow: 1, Id: 1, N: 1, S: "a", V: api.Value{Kind: 6}},
		{Kind: 12, Flow: 1, N: 1}, {Kind: 12, Flow: 1, Id: more}, {Kind: 12, Flow: 1, Id: 1, N: -1}, {Kind: 12, Flow: 1, Id: 1, N: more},
		{Kind: 13, Flow: 1, N: 1}, {Kind: 13, Flow: 1, Id: more}, {Kind: 13, Flow: 1, Id: 1, N: -1}, {Kind: 13, Flow: 1, Id: 1, N: more},
		{Kind: 15, Flow: 1, N: 1, V: num(1)}, {Kind: 15, Flow: 1, N: -1, V: list()}, {Kind: 15, Flow: 1, V: nested(8)}, {Kind: 15, Flow: 1, N: 1, V: api.Value{N: 1}},
	} {
		if e := event.Check(x); e != api.ErrArg {
			t.Errorf("%d, %v: %d", i, x, e)
		}
	}
}

// P8.1: a field that the table does not list must be zero.
func TestOtherFields(t *testing.T) {
	r := random(3)
	for _, x := range r.valids(5) {
		id, n, s, v := x, x, x, x
		id.Id, n.N, s.S, v.V = 1, 1, "a", num(1)
		row, _ := rowOf(x.Kind)
		for field, c := range []struct {
			x      api.Event
			listed bool
		}{{id, row.id != ""}, {n, row.n != ""}, {s, row.s != ""}, {v, row.v != ""}} {
			if e := event.Check(c.x); !c.listed && e != api.ErrArg {
				t.Errorf("%v, field %d: %d", c.x, field, e)
			}
		}
	}
}

// P8.1: empty lists are as none at all.
func TestEmptyLists(t *testing.T) {
	a := api.Event{Kind: api.EventFails, Flow: 1, Id: 1, N: 1, V: num(1)}
	b := a
	b.V.L, b.V.Names = []api.Value{}, []string{}
	c, d := api.Event{Kind: api.EventCancel, Flow: 1}, api.Event{Kind: api.EventCancel, Flow: 1}
	d.V.L, d.V.Names = []api.Value{}, []string{}
	for _, x := range []api.Event{b, d} {
		if e := event.Check(x); e != api.OK {
			t.Errorf("%v: %d", x, e)
		}
	}
	if !event.Same(a, b) || !event.Same(d, c) {
		t.Error("not the same")
	}
}

// P8.1: Check and Bytes hold against the table, for events with and without faults.
func TestCheckAll(t *testing.T) {
	r := random(1)
	faults := 0
	for _, x := range r.valids(400) {
		for _, y := range []api.Event{x, r.changed(x), r.changed(r.changed(x)), r.wild()} {
			want, bytesWanted := api.OK, []byte(nil)
			if isValid(y) {
				bytesWanted = encodedAs(y)
			} else {
				want = api.ErrArg
				faults++
			}
			if e := event.Check(y); e != want {
				t.Fatalf("Check(%v): %d", y, e)
			}
			if b, e := event.Bytes(y); e != want || !bytes.Equal(b, bytesWanted) {
				t.Fatalf("Bytes(%v): %x, %d", y, b, e)
			}
		}
	}
	if faults < 5000 {
		t.Errorf("%d faults", faults)
	}
}

// P8.1: every name of up to two bytes, and every byte at an end of a long one.
func TestNames(t *testing.T) {
	check := func(s string) {
		want := api.ErrArg
		if isName(s) {
			want = api.OK
		}
		if e := event.Check(api.Event{Kind: api.EventSignal, Flow: 1, S: s}); e != want {
			t.Errorf("%q: %d", s, e)
		}
	}
	for a := range 256 {
		first := string([]byte{byte(a)})
		check(first)
		check("abcdefgh" + first)
		check("abcdefghijklmno" + first)
		check("abcdefghijklmnop" + first)
		for b := range 256 {
			check(first + string([]byte{byte(b)}))
		}
	}
}

// P8.1: two events are the same if no field differs, valid or not.
func TestSame(t *testing.T) {
	r := random(2)
	differ := 0
	for range 3000 {
		x := r.wild()
		y := r.changed(x)
		if !event.Same(x, x) {
			t.Fatalf("%v is not the same as itself", x)
		}
		if event.Same(x, y) != equal(x, y) || event.Same(y, x) != equal(x, y) {
			t.Fatalf("%v and %v: %v", x, y, event.Same(x, y))
		}
		if !equal(x, y) {
			differ++
		}
	}
	if differ < 1000 {
		t.Errorf("%d differ", differ)
	}
	x := api.Event{Kind: 20, Flow: -1, Id: 99, N: -5, S: "?", V: api.Value{Kind: 4, N: 3, S: "s", L: []api.Value{num(1)}, Names: []string{"n"}}}
	y := x
	y.V.L = []api.Value{num(2)}
	if event.Same(x, y) {
		t.Error("elements that differ")
	}
	y = x
	y.V.Names = []string{"m"}
	if event.Same(x, y) {
		t.Error("names that differ")
	}
}

// P8.1: the fields of each kind, in their order.
func TestBytes(t *testing.T) {
	for _, c := range []struct {
		x    api.Event
		want string
	}{
		{api.Event{Kind: 1, Flow: 1, S: "main"}, "01 01 01 00 00 04 6d61696e 00"},
		{api.Event{Kind: 1, Flow: 2, N: 1, Id: 64, S: "a", V: api.Value{Kind: 2, N: 1}}, "01 01 02 40 02 01 61 02 01"},
		{api.Event{Kind: 2, Flow: 1, Id: 1, S: "pay", V: num(5)}, "01 02 01 01 03 706179 01 0000000000000005"},
		{api.Event{Kind: 3, Flow: 8, Id: 3, N: 64}, "01 03 08 03 80 80"},
		{api.Event{Kind: 4, Flow: 8, Id: 3, N: api.MaxNumber}, "01 04 08 03 fe 3f ff ff ff ff ff fe"},
		{api.Event{Kind: 5, Flow: 1, Id: 2, V: text("ab")}, "01 05 01 02 03 02 61 62"},
		{api.Event{Kind: 6, Flow: 1, Id: 2, N: 3, V: num(-1)}, "01 06 01 02 06 01 ffffffffffffffff"},
		{api.Event{Kind: 7, Flow: 1, Id: 2, V: num(0)}, "01 07 01 02 00 01 0000000000000000"},
		{api.Event{Kind: 8, Flow: 1, Id: 64}, "01 08 01 40"},
		{api.Event{Kind: 9, Flow: 1, Id: 128, S: "b"}, "01 09 01 80 80 01 62"},
		{api.Event{Kind: 10, Flow: 1, S: "b", V: list()}, "01 0a 01 01 62 04 00"},
		{api.Event{Kind: 11, Flow: 1, Id: 2, N: 8, S: "b"}, "01 0b 01 02 10 01 62 00"},
		{api.Event{Kind: 12, Flow: 1, Id: api.MaxNumber}, "01 0c 01 fe 1f ff ff ff ff ff ff 00"},
		{api.Event{Kind: 13, Flow: 1, Id: 1, N: 63}, "01 0d 01 01 7e"},
		{api.Event{Kind: 14, Flow: 1}, "01 0e 01"},
		{api.Event{Kind: 15, Flow: 1, V: api.Value{Kind: 6, N: 7}}, "01 0f 01 00 06 07"},
		{api.Event{Kind: 15, Flow: 1, N: -4}, "01 0f 01 07 00"},
		{api.Event{Kind: 15, Flow: 1, N: math.MinInt}, "01 0f 01 ff ff ff ff ff ff ff ff ff 00"},
	} {
		if b, e := event.Bytes(c.x); e != api.OK || !bytes.Equal(b, unhex(t, c.want)) {
			t.Errorf("%v: %x, %d", c.x, b, e)
		}
		if x, e := event.Parse(unhex(t, c.want)); e != api.OK || !equal(x, c.x) {
			t.Errorf("%s: %v, %d", c.want, x, e)
		}
	}
}

// P8.2: each error, and which one comes first.
func TestTakeErrors(t *testing.T) {
	for _, c := range []struct {
		b    string
		want api.Errno
	}{
		{"", api.ErrTrunc}, {"01", api.ErrTrunc}, {"02", api.ErrTrunc}, {"00", api.ErrTrunc}, {"ff", api.ErrTrunc},
		{"00 0e 03", api.ErrSyntax}, {"02 00", api.ErrSyntax}, {"01 00", api.ErrSyntax}, {"01 00 03", api.ErrSyntax}, {"01 10", api.ErrSyntax}, {"01 ff 03", api.ErrSyntax}, {"01 8e 03", api.ErrSyntax},
		// Flow
		{"01 0e", api.ErrTrunc}, {"01 0e 80", api.ErrTrunc}, {"01 0e 80 03", api.ErrSyntax}, {"01 0e ff ff ff ff ff ff ff ff ff", api.ErrSyntax}, {"01 0e fe 20 00 00 00 00 00 00", api.ErrSyntax}, {"01 0e 00", api.ErrArg}, {"01 0e 09", api.ErrArg}, {"01 0e fe 1f ff ff ff ff ff ff", api.ErrArg},
		// Id: a fault of Flow is told only behind all errors of decoding
		{"01 08 01", api.ErrTrunc}, {"01 08 00 80", api.ErrTrunc}, {"01 08 00 80 01", api.ErrSyntax}, {"01 08 01 00", api.ErrArg}, {"01 08 01 41", api.ErrArg}, {"01 09 01 fe 20 00 00 00 00 00 00", api.ErrSyntax},
		// N
		{"01 03 01 00", api.ErrTrunc}, {"01 03 01 00 c0 40", api.ErrTrunc}, {"01 03 01 00 80 02", api.ErrSyntax}, {"01 03 01 01 00", api.ErrArg}, {"01 03 01 01 01", api.ErrArg}, {"01 0c 01 01 fe 40 00 00 00 00 00 00", api.ErrArg},
		// S
		{"01 09 00 00", api.ErrTrunc}, {"01 09 00 00 80", api.ErrTrunc}, {"01 09 00 00 80 01", api.ErrSyntax}, {"01 09 00 00 11", api.ErrLimit}, {"01 09 01 01 fe 1f ff ff ff ff ff ff", api.ErrLimit}, {"01 09 00 00 02 61", api.ErrTrunc}, {"01 09 01 01 00", api.ErrArg}, {"01 09 01 01 01 41", api.ErrArg},
		// V
		{"01 05 00 00", api.ErrTrunc}, {"01 05 00 00 07", api.ErrSyntax}, {"01 05 00 00 02 02", api.ErrSyntax}, {"01 05 00 00 03 41", api.ErrLimit}, {"01 05 00 00 03 02 61", api.ErrTrunc}, {"01 05 01 01 06 00", api.ErrArg}, {"01 05 01 01 0401 0401 0401 0401 0401 0401 0401 0401", api.ErrTrunc}, {"01 05 01 01 0401 0401 0401 0401 0401 0401 0401 0401 00", api.ErrLimit},
		{"01 0a 00 11 07", api.ErrLimit}, {"01 0a 00 01 41 07", api.ErrSyntax}, {"01 06 00 00 80 02 07", api.ErrSyntax}, {"01 0b 01 01 00 11", api.ErrLimit},
		{"01 06 01 01 02 01 0000000000000000", api.ErrArg}, {"01 06 01 01 02 02 01", api.ErrArg}, {"01 07 01 01 02 00", api.ErrArg}, {"01 0f 01 02 02 01", api.ErrArg},
		{"01 01 01 01 00 01 61 00", api.ErrArg}, {"01 01 01 00 02 01 61 00", api.ErrArg},
	} {
		b := unhex(t, c.b)
		if x, rest, e := event.Take(b); e != c.want || !equal(x, api.Event{}) || len(rest) > 0 {
			t.Errorf("Take of %s: %v, %x, %d", c.b, x, rest, e)
		}
		if x, e := event.Parse(b); e != c.want || !equal(x, api.Event{}) {
			t.Errorf("Parse of %s: %v, %d", c.b, x, e)
		}
		if x, rest, e := taken(b); e != c.want || !equal(x, api.Event{}) || len(rest) > 0 {
			t.Errorf("by the definition, %s: %v, %x, %d", c.b, x, rest, e)
		}
	}
}

// P8.2: a value far too great for an event is read as a whole ahead of ErrArg.
func TestGreatValue(t *testing.T) {
	b := []byte{1, 5, 1, 1, 4, 32}
	for range 32 {
		b = append(b, 4, 32)
		for range 32 {
			b = append(append(b, 3, 64), bytes.Repeat([]byte{'a'}, 64)...)
		}
	}
	if _, _, e := event.Take(append(bytes.Clone(b), 7)); e != api.ErrArg {
		t.Errorf("whole: %d", e)
	}
	if _, _, e := event.Take(b[:len(b)-1]); e != api.ErrTrunc {
		t.Errorf("cut off: %d", e)
	}
}

// P8.2: the remaining bytes are those behind the event; Parse wants none.
func TestTake(t *testing.T) {
	r := random(4)
	for _, x := range r.valids(20) {
		b := encodedAs(x)
		for _, tail := range tails() {
			whole := slices.Concat(b, tail)
			if y, rest, e := event.Take(whole); e != api.OK || !equal(x, y) || !bytes.Equal(rest, tail) {
				t.Fatalf("%x: %v, %x, %d", whole, y, rest, e)
			}
			parsed, want := x, api.OK
			if len(tail) > 0 {
				parsed, want = api.Event{}, api.ErrSyntax
			}
			if y, e := event.Parse(whole); e != want || !equal(y, parsed) {
				t.Fatalf("Parse of %x: %v, %d", whole, y, e)
			}
		}
	}
}

// P8.2, P8.4: Take holds against its definition for bytes that are damaged; what is decoded has no other encoding.
func TestTakeAll(t *testing.T) {
	r := random(5)
	counts := map[api.Errno]int{}
	for _, x := range r.valids(500) {
		for range 4 {
			b := r.damaged(encodedAs(x))
			wantX, wantRest, wantE := taken(b)
			y, rest, e := event.Take(b)
			if e != wantE || !equal(y, wantX) || !bytes.Equal(rest, wantRest) {
				t.Fatalf("%x: %v, %x, %d, not %v, %x, %d", b, y, rest, e, wantX, wantRest, wantE)
			}
			counts[e]++
			if e != api.OK {
				continue
			}
			if again, e := event.Bytes(y); e != api.OK || !bytes.Equal(again, b[:len(b)-len(rest)]) {
				t.Fatalf("%x is encoded as %x, %d", b, again, e)
			}
		}
	}
	for _, e := range []api.Errno{api.OK, api.ErrArg, api.ErrTrunc, api.ErrSyntax, api.ErrLimit} {
		if counts[e] < 100 {
			t.Errorf("error %d: %d times", e, counts[e])
		}
	}
}

// P8.2 (W6): any short bytes.
func TestShortBytes(t *testing.T) {
	for kind := range 256 {
		for a := range 256 {
			for _, more := range [][]byte{nil, {0}, {1}, {1, 0}, {1, 2}, {255, 255}, {1, 2, 1, 97, 0}} {
				b := append([]byte{1, byte(kind), byte(a)}, more...)
				wantX, wantRest, wantE := taken(b)
				if x, rest, e := event.Take(b); e != wantE || !equal(x, wantX) || !bytes.Equal(rest, wantRest) {
					t.Fatalf("%x: %v, %x, %d, not %v, %x, %d", b, x, rest, e, wantX, wantRest, wantE)
				}
			}
		}
	}
}

// P8.3: arguments, and what lies behind them, stay as they are; results share no memory with them.
func TestMemory(t *testing.T) {
	x := api.Event{Kind: api.EventAct, Flow: 1, Id: 1, S: "pay", V: rec("a b", text("ab"), list(num(1), num(2)))}
	names, elements := slices.Clone(x.V.Names), slices.Clone(x.V.L)
	room := append(bytes.Repeat([]byte{9}, 300), encodedAs(x)...)
	room = append(append(room, 1, 14, 3), bytes.Repeat([]byte{9}, 300)...)
	before := bytes.Clone(room)
	arg := room[300 : len(room)-300]

	y, rest, e := event.Take(arg)
	if e != api.OK || !equal(x, y) {
		t.Fatal(y, e)
	}
	_ = append(rest, 1, 2, 3)
	for i := range rest {
		rest[i] = 0
	}
	z, _, _ := event.Take(arg)
	z.V.L[0], z.V.L[1].L[0], z.V.Names[0] = num(9), num(9), "z"
	b, _ := event.Bytes(x)
	_ = append(b, 1, 2, 3)
	for i := range b {
		b[i] = 0
	}
	if w, _, e := event.Take(arg[:len(arg)-3]); e != api.OK || !equal(w, x) {
		t.Errorf("%v, %d", w, e)
	}
	if !bytes.Equal(room, before) {
		t.Error("an argument of Take is not what it was")
	}
	if !slices.Equal(x.V.Names, names) || !equalValues(list(x.V.L...), list(elements...)) {
		t.Error("an argument of Bytes is not what it was")
	}
	p, _ := event.Parse(arg[:len(arg)-3])
	for i := range room {
		room[i] = 0
	}
	if !equal(x, y) || !equal(x, p) {
		t.Error("a result is not what it was")
	}
	if c, _ := event.Bytes(x); !bytes.Equal(c, encodedAs(x)) {
		t.Error("the encoding is not what it was")
	}
}

// P8.3: remaining bytes of an event without more fields are a copy too.
func TestMemoryOfCancel(t *testing.T) {
	b := []byte{1, 14, 3, 7, 7, 0, 0}[:5]
	_, rest, e := event.Take(b)
	if e != api.OK || len(rest) != 2 {
		t.Fatal(rest, e)
	}
	_ = append(rest, 9, 9)
	rest[0] = 8
	if !bytes.Equal(b[:7], []byte{1, 14, 3, 7, 7, 0, 0}) {
		t.Errorf("%x", b[:7])
	}
}

// P8.4: what is encoded is decoded, and encoded again it is the same bytes; less of it is cut off.
func TestThereAndBack(t *testing.T) {
	r := random(6)
	for _, x := range r.valids(100) {
		b, e := event.Bytes(x)
		if e != api.OK {
			t.Fatal(x, e)
		}
		for _, tail := range tails() {
			y, rest, e := event.Take(append(bytes.Clone(b), tail...))
			if e != api.OK || !event.Same(x, y) || !bytes.Equal(rest, tail) {
				t.Fatalf("%v: %v, %x, %d", x, y, rest, e)
			}
			if c, e := event.Bytes(y); e != api.OK || !bytes.Equal(b, c) {
				t.Fatalf("%v: %x, then %x, %d", x, b, c, e)
			}
		}
		for n := range b {
			if y, rest, e := event.Take(b[:n]); e != api.ErrTrunc || !equal(y, api.Event{}) || len(rest) > 0 {
				t.Fatalf("%x of %x: %v, %x, %d", b[:n], b, y, rest, e)
			}
			if y, e := event.Parse(b[:n]); e != api.ErrTrunc || !equal(y, api.Event{}) {
				t.Fatalf("Parse of %x: %v, %d", b[:n], y, e)
			}
		}
	}
}

// P8.4: two events have the same encoding only if they are the same.
func TestOneEncoding(t *testing.T) {
	r := random(7)
	l := r.valids(30)
	for _, x := range l {
		b, _ := event.Bytes(x)
		for _, y := range l {
			if c, _ := event.Bytes(y); bytes.Equal(b, c) != event.Same(x, y) {
				t.Fatalf("%v and %v: %x and %x", x, y, b, c)
			}
		}
	}
}

// P8.4: events behind one another are taken one after the other.
func TestRow(t *testing.T) {
	r := random(8)
	l := r.valids(60)
	var b []byte
	for _, x := range l {
		c, _ := event.Bytes(x)
		b = append(b, c...)
	}
	for i, x := range l {
		y, rest, e := event.Take(b)
		if e != api.OK || !event.Same(x, y) {
			t.Fatalf("%d: %v, not %v, %d", i, y, x, e)
		}
		b = rest
	}
	if len(b) > 0 {
		t.Errorf("%x remains", b)
	}
}

// P8.5: of all versions, one is known.
func TestVersions(t *testing.T) {
	r := random(9)
	for _, x := range r.valids(3) {
		for version := range 256 {
			b, _ := event.Bytes(x)
			if b[0] != 1 {
				t.Fatalf("version %d", b[0])
			}
			b[0] = byte(version)
			want := api.ErrSyntax
			if version == 1 {
				want = api.OK
			}
			if _, _, e := event.Take(b); e != want {
				t.Errorf("Take, version %d: %d", version, e)
			}
			if _, e := event.Parse(b); e != want {
				t.Errorf("Parse, version %d: %d", version, e)
			}
			if _, _, e := event.Take(b[:2]); version != 1 && e != api.ErrSyntax {
				t.Errorf("Take of two bytes, version %d: %d", version, e)
			}
		}
	}
}

// R1: arguments far beyond the limits, and a value that contains itself, end in an error.
func TestBeyondLimits(t *testing.T) {
	loop := list(num(1))
	loop.L[0] = loop
	great := strings.Repeat("a", 1<<20)
	for _, x := range []api.Event{
		{Kind: 10, Flow: 1, S: "a", V: loop}, {Kind: 14, Flow: 1, V: loop}, {Kind: 6, Flow: 1, Id: 1, N: 1, V: loop},
		{Kind: 10, Flow: 1, S: great}, {Kind: 14, Flow: 1, S: great}, {Kind: 10, Flow: 1, S: "a", V: text(great)},
		{Kind: 10, Flow: 1, S: "a", V: nested(1 << 16)},
	} {
		if b, e := event.Bytes(x); e != api.ErrArg || len(b) > 0 {
			t.Errorf("kind %d: %d bytes, %d", x.Kind, len(b), e)
		}
	}
	if _, _, e := event.Take(append([]byte{1, 9, 1, 1}, mustNum(1<<20)...)); e != api.ErrLimit {
		t.Error(e)
	}
	deep := append([]byte{1, 5, 1, 1}, bytes.Repeat([]byte{4, 1}, 1<<16)...)
	if _, _, e := event.Take(deep); e != api.ErrLimit {
		t.Error(e)
	}
	b := append([]byte{1, 14, 3}, make([]byte, 1<<20)...)
	if x, rest, e := event.Take(b); e != api.OK || x.Flow != 3 || len(rest) != 1<<20 {
		t.Error(x, len(rest), e)
	}
}

func mustNum(n int) []byte {
	b, e := bin.Num(n)
	if e != api.OK {
		panic(e)
	}
	return b
}
