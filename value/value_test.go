package value_test

import (
	"bytes"
	"cmp"
	"encoding/hex"
	"fmt"
	"math"
	"reflect"
	"slices"
	"strings"
	"testing"

	"encore/api"
	"encore/value"
)

func none() api.Value { return api.Value{} }

func num(n int) api.Value { return api.Value{Kind: api.KindInt, N: n} }

func boolean(n int) api.Value { return api.Value{Kind: api.KindBool, N: n} }

func text(s string) api.Value { return api.Value{Kind: api.KindText, S: s} }

func list(l ...api.Value) api.Value { return api.Value{Kind: api.KindList, L: l} }

func future(n int) api.Value { return api.Value{Kind: api.KindFuture, N: n} }

// rec is a record of the names, which stand in one string, and the values.
func rec(names string, l ...api.Value) api.Value {
	return api.Value{Kind: api.KindRec, Names: strings.Fields(names), L: l}
}

// many are n values that are the same.
func many(n int, v api.Value) []api.Value { return slices.Repeat([]api.Value{v}, n) }

// nested is v inside so many lists.
func nested(n int, v api.Value) api.Value {
	for range n {
		v = list(v)
	}
	return v
}

func unhex(t *testing.T, s string) []byte {
	t.Helper()
	b, err := hex.DecodeString(strings.ReplaceAll(s, " ", ""))
	if err != nil {
		t.Fatal(err)
	}
	return b
}

// equal is whether all fields are equal, where nil and empty lists are.
func equal(a, b api.Value) bool { return rank(a) == rank(b) }

func TestExamples(t *testing.T) {
	for _, c := range []struct {
		v    api.Value
		want string
	}{
		{num(258), "01 00 00 00 00 00 00 01 02"},
		{num(-1), "01 ff ff ff ff ff ff ff ff"},
		{boolean(1), "02 01"},
		{text("ab"), "03 02 61 62"},
		{future(7), "06 07"},
		{rec("a b", none(), list(boolean(1))), "05 02 01 61 00 01 62 04 01 02 01"},
	} {
		if b, e := value.Bytes(c.v); e != api.OK || !bytes.Equal(b, unhex(t, c.want)) {
			t.Errorf("%v: %x, %d", c.v, b, e)
		}
	}
	for _, c := range []struct {
		b    string
		want api.Errno
	}{{"02 02", api.ErrSyntax}, {"07", api.ErrSyntax}, {"03 41", api.ErrLimit}, {"03", api.ErrTrunc}, {"06 00", api.ErrArg}, {"04 21", api.ErrLimit}} {
		if v, rest, e := value.Take(unhex(t, c.b)); e != c.want || !equal(v, none()) || len(rest) > 0 {
			t.Errorf("Take(%s): %v, %x, %d", c.b, v, rest, e)
		}
	}
	if !value.Is(list(num(1), num(2)), "[int]") || !value.Is(list(), "[text]") || !value.Is(rec("a", num(1)), "{a:int}") || value.Is(num(1), "bool") {
		t.Error("Is")
	}
	if value.Fits("[int") || value.Fits("{b:int,a:int}") || !value.Fits("{}") {
		t.Error("Fits")
	}
	if s := value.Show(rec("a b", num(-5), text("\x22A\x00"))); s != `{a:-5,b:"\22A\00"}` {
		t.Error(s)
	}
	if s := value.Show(list(future(3), none())); s != "[#3,none]" {
		t.Error(s)
	}
	if v := rec("ab", text("xyz")); value.Size(v) != 7 || value.Depth(v) != 2 {
		t.Errorf("size %d, depth %d", value.Size(v), value.Depth(v))
	}
	if value.Compare(num(1), boolean(1)) != -1 || value.Compare(list(num(1)), list(num(1), num(0))) != -1 {
		t.Error("Compare")
	}
}

// P7.1: what is valid, at the ends of each limit.
func TestValid(t *testing.T) {
	for i, v := range []api.Value{
		none(), num(0), num(math.MinInt), num(math.MaxInt), boolean(0), boolean(1),
		text(""), text(strings.Repeat("\xff", 64)),
		list(), list(many(32, none())...), nested(7, none()), nested(7, list()),
		rec(""), rec("a b c d e f g h", many(8, none())...), rec("a_0 z", none(), none()), rec("abcdefghijklmno9 z", none(), none()),
		future(1), future(64),
		list(text(strings.Repeat("a", 64)), text(strings.Repeat("b", 64)), text(strings.Repeat("c", 64)), text(strings.Repeat("d", 59))),
		rec("abcdefghijklmnop", list(many(31, list(many(6, none())...))...)),
	} {
		if e := value.Check(v); e != api.OK {
			t.Errorf("%d, %v: %d", i, v, e)
		}
	}
}

// P7.1: what is not valid, by one fault each.
func TestNotValid(t *testing.T) {
	for i, v := range []api.Value{
		boolean(2), boolean(-1), text(strings.Repeat("a", 65)), list(many(33, none())...), nested(8, none()),
		rec("a b c d e f g h i", many(9, none())...), rec("a", none(), none()), rec("a b", none()), rec("", none()), rec("a"),
		rec("b a", none(), none()), rec("a a", none(), none()), rec("aa a", none(), none()),
		rec("A", none()), rec("_a", none()), rec("0a", none()), rec("a-", none()), rec("aZ", none()), rec("a`", none()), rec("a{", none()), rec("{", none()), rec("`", none()), rec("a/", none()), rec("a:", none()), rec("aé", none()),
		{Kind: api.KindRec, Names: []string{""}, L: many(1, none())}, {Kind: api.KindRec, Names: []string{"a "}, L: many(1, none())},
		rec("abcdefghijklmnopq", none()),
		future(0), future(65), future(-1), {Kind: 7}, {Kind: -1}, {Kind: math.MaxInt}, {Kind: math.MinInt},
		list(text(strings.Repeat("a", 64)), text(strings.Repeat("b", 64)), text(strings.Repeat("c", 64)), text(strings.Repeat("d", 60))),
		list(many(32, list(many(7, none())...))...), rec("abcdefghijklmnop b", none(), list(many(32, list(many(7, none())...))...)),
		list(boolean(2)), rec("a", list(none(), future(0))), list(none(), none(), nested(7, none())),
	} {
		if e := value.Check(v); e != api.ErrArg {
			t.Errorf("%d, %v: %d", i, v, e)
		}
	}
}

// P7.1: a field that is not one of the kind's must be zero or empty; that it is nil or empty is the same.
func TestOtherFields(t *testing.T) {
	for _, v := range []api.Value{none(), num(5), boolean(1), text("a"), list(none()), list(), rec("a", none()), rec(""), future(3)} {
		number, letters, elements, names := v, v, v, v
		number.N, letters.S, elements.L, names.Names = 1, "b", many(1, none()), []string{"a"}
		for field, w := range map[int]api.Value{0: number, 1: letters, 2: elements, 3: names} {
			want := api.ErrArg
			if isValid(w) {
				want = api.OK
			}
			if e := value.Check(w); e != want {
				t.Errorf("%v, field %d: %d", w, field, e)
			}
		}
		if len(v.L) == 0 {
			v.L = []api.Value{}
		}
		if len(v.Names) == 0 {
			v.Names = []string{}
		}
		if e := value.Check(v); e != api.OK {
			t.Errorf("%#v: %d", v, e)
		}
	}
}

// P7.1: names, by all strings of two bytes.
func TestNames(t *testing.T) {
	for first := range 256 {
		for second := range 257 {
			name := string([]byte{byte(first), byte(second)})
			if second == 256 {
				name = name[:1]
			}
			v := api.Value{Kind: api.KindRec, Names: []string{name}, L: many(1, none())}
			if e := value.Check(v); (e == api.OK) != aName.MatchString(name) {
				t.Fatalf("%q: %d", name, e)
			}
		}
	}
}

// P7.1: what is valid, and what the size and the depth are, in values that have some fault or none.
func TestCheckSizeAndDepthByDefinition(t *testing.T) {
	r := random(1)
	good := 0
	for range 20000 {
		v := r.wild(1 + r.below(9))
		for range r.below(3) {
			v = r.changed(v)
		}
		want := api.ErrArg
		if isValid(v) {
			want = api.OK
			good++
		}
		if e := value.Check(v); e != want {
			t.Fatalf("%v: %d, not %d", v, e, want)
		}
		if value.Size(v) != sizeOf(v) || value.Depth(v) != depthOf(v) {
			t.Fatalf("%v: size %d, depth %d, not %d, %d", v, value.Size(v), value.Depth(v), sizeOf(v), depthOf(v))
		}
	}
	if good < 5000 || good > 15000 {
		t.Errorf("%d of the values are valid", good)
	}
}

// P7.1: the size and the depth are those of any value: of elements of a kind that has none, of names without elements, and far beyond the limits.
func TestSizeAndDepthOfAnyValue(t *testing.T) {
	odd := api.Value{Kind: -5, N: 9, S: "abc", L: []api.Value{text("d"), list(none())}, Names: []string{"", "ef"}}
	deep := nested(1<<16-1, none())
	wide := list(many(100000, text("a"))...)
	for i, c := range []struct {
		v           api.Value
		size, depth int
	}{{none(), 1, 1}, {odd, 10, 3}, {deep, 1 << 16, 1 << 16}, {wide, 200001, 2}} {
		if value.Size(c.v) != c.size || value.Depth(c.v) != c.depth {
			t.Errorf("%d: size %d, depth %d", i, value.Size(c.v), value.Depth(c.v))
		}
	}
	for i, v := range []api.Value{odd, deep, wide} {
		if e := value.Check(v); e != api.ErrArg {
			t.Errorf("%d: %d", i, e)
		}
		if !value.Same(v, v) || value.Compare(v, v) != 0 || value.Is(v, "[none]") || value.Show(v) != "" {
			t.Errorf("%d: compared, typed or shown", i)
		}
	}
	if value.Compare(deep, nested(1<<16-1, num(0))) != -1 || value.Compare(wide, list(many(100001, text("a"))...)) != -1 {
		t.Error("the order of great values")
	}
}

// P7.1, R1: a check ends in a value that is inside itself, so that it has no end.
func TestCheckEnds(t *testing.T) {
	round := many(32, list())
	for i := range round {
		round[i].L = round
	}
	if e := value.Check(round[0]); e != api.ErrArg {
		t.Errorf("%d", e)
	}
	if value.Show(round[0]) != "" || value.Is(round[0], "[[none]]") {
		t.Error("it is shown, or of a type")
	}
	if b, e := value.Bytes(round[0]); e != api.ErrArg || len(b) > 0 {
		t.Errorf("%x, %d", b, e)
	}
}

// P7.1: each field is compared, in the order of the fields; valid or not.
func TestFieldsInTheirOrder(t *testing.T) {
	rising := []api.Value{
		{Kind: -1, N: 9},
		{N: math.MinInt, S: "z"}, {N: -1, S: "z"}, {},
		{L: many(1, none())}, {L: many(2, none())}, {L: []api.Value{none(), num(-1)}}, {L: many(1, num(0))},
		{Names: []string{""}}, {Names: []string{"", ""}, L: many(1, none())}, {Names: []string{"", "a"}}, {Names: []string{"a"}}, {Names: []string{"a", ""}}, {Names: []string{"aa"}}, {Names: []string{"b"}},
		{S: "\x00"}, {S: "\x00a", Names: []string{"b"}}, {S: "a"}, {S: "aa"}, {S: "b"}, {S: "\x7f"}, {S: "\x80"}, {S: "\xff"},
		{N: 1}, {N: math.MaxInt},
		num(-2), num(-1), num(0), num(2), num(10),
		boolean(0), boolean(1), text(""), text("a"), text("a\x00"), text("ab"), text("b"),
		list(), list(none()), list(none(), none()), list(num(1)), list(num(1), num(0)), list(num(2)),
		rec(""), rec("a", none()), rec("a", num(1)), rec("a b", none(), none()), rec("aa", none()), rec("b", none()),
		future(1), future(2), {Kind: 7},
	}
	for i, a := range rising {
		for j, b := range rising {
			if c := value.Compare(a, b); c != cmp.Compare(i, j) {
				t.Errorf("%v and %v: %d", a, b, c)
			}
			if value.Same(a, b) != (i == j) {
				t.Errorf("%v and %v: same or not", a, b)
			}
		}
	}
}

// P7.1: nil and empty lists are equal.
func TestNilAndEmpty(t *testing.T) {
	a := api.Value{Kind: api.KindRec, L: []api.Value{}, Names: []string{}}
	b := api.Value{Kind: api.KindRec}
	for range 3 {
		if !value.Same(a, b) || !value.Same(b, a) || value.Compare(a, b) != 0 || value.Compare(b, a) != 0 {
			t.Errorf("%#v and %#v", a, b)
		}
		a, b = list(a, b), list(b, a)
	}
}

// P7.1, P7.7: the order of any values is that of their ranks, and those are the same of which neither is less; so it is transitive.
func TestOrderByDefinition(t *testing.T) {
	r := random(2)
	for range 1500 {
		v := r.wild(4)
		l := []api.Value{v, cloned(v), r.wild(4)}
		for range 5 {
			l = append(l, r.changed(l[r.below(len(l))]))
		}
		for _, a := range l {
			for _, b := range l {
				want := strings.Compare(rank(a), rank(b))
				if c := value.Compare(a, b); c != want {
					t.Fatalf("%v and %v: %d, not %d", a, b, c, want)
				}
				if value.Same(a, b) != (want == 0) {
					t.Fatalf("%v and %v: same or not", a, b)
				}
			}
		}
		slices.SortFunc(l, value.Compare)
		if !slices.IsSortedFunc(l, func(a, b api.Value) int { return strings.Compare(rank(a), rank(b)) }) {
			t.Fatalf("%v is not sorted", l)
		}
	}
}

// P7.2: encodings by their definition, and none of what is not valid.
func TestBytesByDefinition(t *testing.T) {
	r := random(3)
	for range 10000 {
		v := r.valid()
		if b, e := value.Bytes(v); e != api.OK || hex.EncodeToString(b) != encodedAs(v) {
			t.Fatalf("%v: %x, %d, not %s", v, b, e, encodedAs(v))
		}
		w := r.changed(v)
		if b, e := value.Bytes(w); (e == api.OK) != isValid(w) || e != api.OK && (e != api.ErrArg || len(b) > 0) {
			t.Fatalf("%v: %x, %d", w, b, e)
		}
	}
	for n, want := range map[int]string{math.MinInt: "018000000000000000", math.MaxInt: "017fffffffffffffff", 0: "010000000000000000"} {
		if b, e := value.Bytes(num(n)); e != api.OK || hex.EncodeToString(b) != want {
			t.Errorf("%d: %x, %d", n, b, e)
		}
	}
}

// P7.3: the first error counts, and what is not valid is told only behind the last byte.
func TestTakeErrors(t *testing.T) {
	eight := strings.Repeat("04 01 ", 8)
	long := func(n int) string { return strings.Repeat("61 ", n) }
	for _, c := range []struct {
		b    string
		want api.Errno
	}{
		{"", api.ErrTrunc}, {"01", api.ErrTrunc}, {"01 00 00 00 00 00 00 00", api.ErrTrunc}, {"02", api.ErrTrunc}, {"03 01", api.ErrTrunc}, {"03 40 " + long(63), api.ErrTrunc},
		{"04", api.ErrTrunc}, {"04 01", api.ErrTrunc}, {"05", api.ErrTrunc}, {"05 01", api.ErrTrunc}, {"05 01 00", api.ErrTrunc}, {"05 01 10 " + long(15), api.ErrTrunc}, {"05 01 01 61", api.ErrTrunc}, {"06", api.ErrTrunc},
		{"ff", api.ErrSyntax}, {"08 00", api.ErrSyntax}, {"02 ff", api.ErrSyntax}, {"04 02 07", api.ErrSyntax}, {"04 02 00 07", api.ErrSyntax}, {"05 02 01 61 02 02 11", api.ErrSyntax},
		{"03 ff", api.ErrLimit}, {"04 ff", api.ErrLimit}, {"05 09", api.ErrLimit}, {"05 01 11", api.ErrLimit}, {"05 01 ff", api.ErrLimit}, {"04 02 03 41 07", api.ErrLimit},
		{eight, api.ErrTrunc}, {eight + "00", api.ErrLimit}, {eight + "07", api.ErrLimit}, {eight + "04 00", api.ErrLimit}, {strings.Repeat("05 01 01 61 ", 8) + "00", api.ErrLimit}, {strings.Repeat("05 01 01 61 ", 8), api.ErrTrunc},
		{"06 41", api.ErrArg}, {"06 ff 00", api.ErrArg}, {"05 01 00 00", api.ErrArg}, {"05 01 01 41 00", api.ErrArg}, {"05 02 01 62 00 01 61 00", api.ErrArg}, {"05 02 01 61 00 01 61 00", api.ErrArg},
		{"04 04 03 40 " + long(64) + "03 40 " + long(64) + "03 40 " + long(64) + "03 3c " + long(60), api.ErrArg},
		{"04 02 06 00", api.ErrTrunc}, {"04 02 06 00 07", api.ErrSyntax}, {"05 02 01 41 00 11", api.ErrLimit}, {"04 02 06 00 02 02", api.ErrSyntax},
	} {
		if v, rest, e := value.Take(unhex(t, c.b)); e != c.want || !equal(v, none()) || len(rest) > 0 {
			t.Errorf("%s: %v, %x, %d, not %d", c.b, v, rest, e, c.want)
		}
	}
}

// P7.3: what is at a limit is taken.
func TestTakeAtLimits(t *testing.T) {
	for _, v := range []api.Value{
		text(strings.Repeat("a", 64)), list(many(32, none())...), rec("a b c d e f g h", many(8, none())...), rec("abcdefghijklmnop", none()), nested(7, list()), future(64),
		list(text(strings.Repeat("a", 64)), text(strings.Repeat("b", 64)), text(strings.Repeat("c", 64)), text(strings.Repeat("d", 59))),
	} {
		b, _ := value.Bytes(v)
		if w, rest, e := value.Take(b); e != api.OK || !equal(w, v) || len(rest) > 0 {
			t.Errorf("%v: %v, %x, %d", v, w, rest, e)
		}
	}
}

// mixed are bytes that nearly are an encoding, or of which each may stand at some place of one.
func (r *random) mixed() []byte {
	v := r.wild(1 + r.below(10))
	for range r.below(2) {
		v = r.changed(v)
	}
	b, _ := hex.DecodeString(encodedAs(cut(v)))
	for range r.below(3) {
		b[r.below(len(b))] = byte(r.below(9))
	}
	if r.below(4) == 0 {
		b = b[:r.below(len(b)+1)]
	}
	if r.below(4) == 0 {
		b = nil
		for range r.below(20) {
			b = append(b, byte([]int{0, 1, 2, 3, 4, 4, 4, 5, 5, 6, 7, 'a', 'b', 65, 64, 16, 17}[r.below(17)]))
		}
	}
	return append(b, make([]byte, r.below(4))...)
}

// cut is v with a kind, names and numbers that can be written.
func cut(v api.Value) api.Value {
	v = cloned(v)
	if v.Kind < 0 {
		v.Kind = 7
	}
	if v.Kind == api.KindBool || v.Kind == api.KindFuture {
		v.N &= 255
	}
	for len(v.Names) < len(v.L) {
		v.Names = append(v.Names, "y")
	}
	for i := range v.L {
		v.L[i] = cut(v.L[i])
	}
	return v
}

// P7.3: what is taken and each error, by the definition; P7.6: what is taken has no other encoding.
func TestTakeByDefinition(t *testing.T) {
	r := random(4)
	seen := map[api.Errno]int{}
	for range 60000 {
		b := r.mixed()
		v, rest, e := value.Take(b)
		w, left, want := taken(b)
		if e != want || !equal(v, w) || !bytes.Equal(rest, left) {
			t.Fatalf("%x: %v, %x, %d, not %v, %x, %d", b, v, rest, e, w, left, want)
		}
		if e == api.OK {
			if again, _ := value.Bytes(v); !bytes.Equal(append(again, rest...), b) {
				t.Fatalf("%x: taken is %v, encoded as %x", b, v, again)
			}
		}
		seen[e]++
	}
	for _, e := range []api.Errno{api.OK, api.ErrArg, api.ErrTrunc, api.ErrSyntax, api.ErrLimit} {
		if seen[e] < 500 {
			t.Errorf("%d came %d times", e, seen[e])
		}
	}
}

// P7.3: bytes that are cut off anywhere.
func TestTakeCut(t *testing.T) {
	r := random(5)
	for range 2000 {
		b, _ := value.Bytes(r.valid())
		for n := range len(b) {
			if v, rest, e := value.Take(b[:n]); e != api.ErrTrunc || !equal(v, none()) || len(rest) > 0 {
				t.Fatalf("%x cut at %d: %v, %x, %d", b, n, v, rest, e)
			}
		}
	}
}

// P7.4: which strings are type expressions, among all rows of five tokens.
func TestFitsInRowsOfTokens(t *testing.T) {
	tokens := []string{"[", "]", "{", "}", ",", ":", "int", "future", "a", ""}
	good := 0
	for row := range 100000 {
		s := ""
		for n := row; n > 0; n /= 10 {
			s += tokens[n%10]
		}
		if value.Fits(s) != isType(s) {
			t.Fatalf("%q: %v", s, value.Fits(s))
		}
		if isType(s) {
			good++
		}
	}
	if good < 20 {
		t.Errorf("%d of the rows are type expressions", good)
	}
}

// P7.4: type expressions and what is not quite one, by their definition.
func TestFitsByDefinition(t *testing.T) {
	r := random(6)
	good := 0
	for range 10000 {
		s := typeOf(r.valid())
		for range r.below(3) {
			at := r.below(len(s) + 1)
			to := min(len(s), at+r.below(2))
			s = s[:at] + []string{"", "", "[", "]", "{", "}", ",", ":", "a", "none", "A", " ", "_", "0", "\x00"}[r.below(15)] + s[to:]
		}
		if value.Fits(s) != isType(s) {
			t.Fatalf("%q: %v", s, value.Fits(s))
		}
		if isType(s) {
			good++
		}
	}
	if good < 2000 || good > 8000 {
		t.Errorf("%d are type expressions", good)
	}
}

// P7.4: type expressions and others, at the limits and around them.
func TestFits(t *testing.T) {
	nine := "{a:int,b:int,c:int,d:int,e:int,f:int,g:int,h:int,i:int}"
	for _, s := range []string{
		"none", "int", "bool", "text", "future", "[none]", "[{}]", "{int:int}", "{a:int,a_:[bool],b0:{c:text}}", nine,
		strings.Repeat("[", 30) + "none" + strings.Repeat("]", 30), "{abcdefghijklmnop:int}",
	} {
		if !value.Fits(s) || !isType(s) {
			t.Errorf("%q: %v", s, value.Fits(s))
		}
	}
	for _, s := range []string{
		"", "in", "intt", "int ", " int", "Int", "nones", "[]", "[int]]", "[int,int]", "[[int]", "int]", "{", "}", "{,}", "{a}", "{a:}", "{a:int,}", "{,a:int}", "{a:int", "{a:int]", "{:int}", "{a:int b:int}", "{a:int;b:int}",
		"{A:int}", "{0:int}", "{_:int}", "{a:int,a:int}", "{b:int,a:int}", "{aa:int,a:int}", "{abcdefghijklmnopq:int}", "list", "rec", "[int]\x00", "future#", "{a::int}",
		strings.Repeat("[", 31) + "int" + strings.Repeat("]", 31), strings.Repeat("[", 1000000), strings.Repeat("[", 1000000) + "int" + strings.Repeat("]", 1000000),
	} {
		if value.Fits(s) || isType(s) {
			t.Errorf("%.80q: %v", s, value.Fits(s))
		}
	}
	if s := "[{abcdefghijklmnop:{abcdefghijklmnop:{abcdefghijkl:int,b:bool}}}]"; len(s) != 65 || value.Fits(s) || !value.Fits(s[1:64]) {
		t.Errorf("%d bytes", len(s))
	}
	if s := "{abcdefghijklmnop:{abcdefghijklmnop:{abcdefghijklm:int,b:bool}}}"; len(s) != 64 || !value.Fits(s) {
		t.Errorf("%d bytes", len(s))
	}
}

// P7.4: values of a type, and values and types that differ a bit.
func TestIsByDefinition(t *testing.T) {
	r := random(7)
	good, bad := 0, 0
	for range 20000 {
		v := r.valid()
		s := typeOf(v)
		if r.below(2) == 0 {
			v = r.changed(v)
		}
		if r.below(4) == 0 {
			s = strings.Replace(s, []string{"int", "none", "[", "a", "text"}[r.below(5)], []string{"bool", "none", "[[", "b", "future"}[r.below(5)], 1)
		}
		want := isType(s) && isValid(v) && isOf(v, s)
		if value.Is(v, s) != want {
			t.Fatalf("%v is of the type %s: %v", v, s, !want)
		}
		if want {
			good++
		} else if isType(s) && isValid(v) {
			bad++
		}
	}
	if good < 5000 || bad < 1000 {
		t.Errorf("%d are of the type, %d are not", good, bad)
	}
}

// P7.4: each kind against each simple type, and the empty list and record against theirs.
func TestIs(t *testing.T) {
	types := []string{"none", "int", "bool", "text", "[int]", "{}", "future", "[[none]]", "{a:int}", "list", "", "?"}
	for _, v := range []api.Value{none(), num(0), boolean(0), text(""), list(), rec(""), future(1), rec("a", num(1)), rec("a", none()), list(list()), list(list(none())), list(num(1), none()), boolean(2), future(0), list(future(65)), rec("a b", num(1), num(1))} {
		for _, s := range types {
			want := isType(s) && isValid(v) && isOf(v, s)
			if value.Is(v, s) != want {
				t.Errorf("%v is of the type %q: %v", v, s, !want)
			}
		}
	}
	if !value.Is(list(), "[[none]]") || value.Is(list(), "{}") || value.Is(rec(""), "[int]") || value.Is(boolean(2), "bool") || value.Is(future(0), "future") {
		t.Error("lists, records, and what is not valid")
	}
}

// P7.4: textual forms by their definition, and none of what is not valid.
func TestShowByDefinition(t *testing.T) {
	r := random(8)
	for range 10000 {
		v := r.valid()
		if s := value.Show(v); s != shownAs(v) {
			t.Fatalf("%v: %s, not %s", v, s, shownAs(v))
		}
		if w := r.changed(v); !isValid(w) && value.Show(w) != "" {
			t.Fatalf("%v: %s", w, value.Show(w))
		}
	}
	for c := range 256 {
		want := fmt.Sprintf(`"%c"`, c)
		if c < 32 || c > 126 || c == '"' || c == '\\' {
			want = fmt.Sprintf(`"\%02x"`, c)
		}
		if s := value.Show(text(string([]byte{byte(c)}))); s != want {
			t.Errorf("byte %d: %s", c, s)
		}
	}
	if s := value.Show(list(num(math.MinInt), boolean(0), boolean(1), rec(""), list(), text(""))); s != `[-9223372036854775808,false,true,{},[],""]` {
		t.Error(s)
	}
}

// P7.5: what is passed stays.
func TestArgumentsStay(t *testing.T) {
	r := random(9)
	for range 2000 {
		v := r.wild(4)
		for range r.below(3) {
			v = r.changed(v)
		}
		// Room behind the lists would be written on unseen.
		v.L = append(many(len(v.L), none())[:0], append(v.L, num(77))...)[:len(v.L)]
		v.Names = append(v.Names, "room")[:len(v.Names)]
		before := []api.Value{cloned(v), cloned(v.L[:len(v.L)+1][len(v.L)])}
		value.Check(v)
		value.Size(v)
		value.Depth(v)
		value.Same(v, v)
		value.Compare(v, v)
		value.Bytes(v)
		value.Is(v, typeOf(r.valid()))
		value.Show(v)
		after := []api.Value{v, v.L[:len(v.L)+1][len(v.L)]}
		if !slices.EqualFunc(before, after, equal) || v.Names[:len(v.Names)+1][len(v.Names)] != "room" {
			t.Fatalf("%v, not %v", after, before)
		}
		b := r.mixed()
		whole := append(bytes.Clone(b), 77, 78)
		value.Take(whole[:len(b)])
		if !bytes.Equal(whole, append(bytes.Clone(b), 77, 78)) {
			t.Fatalf("%x, not %x", whole, b)
		}
	}
}

// P7.5: bytes share nothing with each other, nor the value that is taken off them, nor what remains.
func TestResultsAreNewMemory(t *testing.T) {
	v := rec("a b", list(text("xyz"), list(none())), text("abc"))
	first, _ := value.Bytes(v)
	second, _ := value.Bytes(v)
	want := bytes.Clone(second)
	_ = append(first, 1, 2, 3)
	clear(first)
	if !bytes.Equal(second, want) {
		t.Errorf("%x, not %x", second, want)
	}
	b := append(second, 9, 8, 7)
	w, rest, _ := value.Take(b)
	x, left, _ := value.Take(b)
	_ = append(rest, 1)
	clear(rest)
	clear(w.Names)
	clear(w.L[0].L)
	_ = append(w.L[:1], num(5))
	if !bytes.Equal(b, append(bytes.Clone(want), 9, 8, 7)) || !equal(x, v) || !bytes.Equal(left, []byte{9, 8, 7}) {
		t.Errorf("%x; %v, %x", b, x, left)
	}
	clear(b)
	if !equal(x, v) || !bytes.Equal(left, []byte{9, 8, 7}) {
		t.Errorf("%v, %x lie in what they were taken off", x, left)
	}
}

// P7.5, R2: what a call returns is the same each time.
func TestCallsHaveNoMemory(t *testing.T) {
	r := random(10)
	for range 1000 {
		v, w, b := r.valid(), r.valid(), r.mixed()
		all := func() []any {
			e, f := value.Bytes(v)
			taken, rest, g := value.Take(b)
			return []any{value.Check(v), value.Size(v), value.Depth(v), value.Same(v, w), value.Compare(v, w), e, f, taken, rest, g, value.Fits(typeOf(v)), value.Is(v, typeOf(w)), value.Show(v)}
		}
		if first, second := all(), all(); !reflect.DeepEqual(first, second) {
			t.Fatalf("%v, not %v", second, first)
		}
	}
}

// P7.6: decoding returns what was encoded, whatever follows.
func TestRoundTrip(t *testing.T) {
	r := random(11)
	for range 10000 {
		v := r.valid()
		b, _ := value.Bytes(v)
		behind := r.mixed()
		w, rest, e := value.Take(append(b, behind...))
		if e != api.OK || !equal(v, w) || !bytes.Equal(rest, behind) {
			t.Fatalf("%v: %v, %x, %d", v, w, rest, e)
		}
	}
}

// P7.6: no encoding is the beginning of another one; P7.7: the same values have the same textual forms, and no others have.
func TestEncodingsAndFormsTellValuesApart(t *testing.T) {
	r := random(12)
	l := r.valids(600)
	codes, forms := make([]string, len(l)), make([]string, len(l))
	for i, v := range l {
		b, _ := value.Bytes(v)
		codes[i], forms[i] = string(b), value.Show(v)
	}
	pairs := 0
	for i, v := range l {
		for j, w := range l {
			same := value.Same(v, w)
			if same && i != j {
				pairs++
			}
			if same != strings.HasPrefix(codes[i], codes[j]) {
				t.Fatalf("%v and %v: %x and %x", v, w, codes[i], codes[j])
			}
			if same != (forms[i] == forms[j]) || same != (value.Compare(v, w) == 0) {
				t.Fatalf("%v and %v: %s and %s", v, w, forms[i], forms[j])
			}
		}
	}
	if pairs < 200 || pairs > 100000 {
		t.Errorf("%d pairs are the same", pairs)
	}
}

// P7.7: of three values, if the first is not above the second, nor that above the third, then neither is the first above the third.
func TestOrderIsTransitive(t *testing.T) {
	r := random(13)
	for range 300 {
		l := r.valids(12)
		for _, a := range l {
			for _, b := range l {
				for _, c := range l {
					if value.Compare(a, b) <= 0 && value.Compare(b, c) <= 0 && value.Compare(a, c) > 0 {
						t.Fatalf("%v, %v, %v", a, b, c)
					}
				}
				if value.Compare(a, b) != -value.Compare(b, a) {
					t.Fatalf("%v, %v", a, b)
				}
			}
		}
	}
}

// P7.8: a list of values of one type is of that type's list, where that is a type expression and the list is valid.
func TestListsOfOneType(t *testing.T) {
	r := random(14)
	lists := 0
	for range 20000 {
		v := r.valid()
		s := typeOf(v)
		if !value.Is(v, s) {
			continue
		}
		l := list(many(r.below(6), v)...)
		if r.below(2) == 0 {
			if w := r.changed(v); value.Is(w, s) {
				l.L = append(l.L, w)
			}
		}
		if !isValid(l) || len(s) > 62 {
			continue
		}
		lists++
		if !value.Is(l, "["+s+"]") {
			t.Fatalf("%v is not of the type [%s]", l, s)
		}
	}
	if lists < 5000 {
		t.Errorf("%d lists", lists)
	}
}

// P7.8: an encoding has no less bytes than the size, and at most nine times as many.
func TestEncodingAgainstSize(t *testing.T) {
	r := random(15)
	for _, v := range append(r.valids(10000), none(), num(1), rec("a", none()), list(many(32, num(-1))...), text(strings.Repeat("a", 64))) {
		b, _ := value.Bytes(v)
		if n := value.Size(v); len(b) < n || len(b) > 9*n {
			t.Fatalf("%v has the size %d and %d bytes", v, n, len(b))
		}
	}
}
