package value_test

import (
	"fmt"
	"regexp"
	"slices"
	"strings"

	"encore/api"
)

// random is a source of numbers that are the same in each run.
type random uint64

// below is a number from 0 to n - 1.
func (r *random) below(n int) int {
	*r = *r*6364136223846793005 + 1442695040888963407
	return int(uint64(*r>>33) % uint64(n))
}

// number is an int, often one where something ends.
func (r *random) number() int {
	ends := []int{0, 1, 2, -1, 63, 64, 65, 255, 256, 258, -256, 1<<63 - 1, -1 << 63}
	if r.below(2) == 0 {
		return ends[r.below(len(ends))]
	}
	return (r.below(1<<31)<<33 ^ r.below(1<<31)<<11) >> r.below(64)
}

// text is a string of less than n bytes.
func (r *random) text(n int) string {
	s := make([]byte, r.below(n))
	for i := range s {
		s[i] = "ab\"\\\x00\x1f ~\x7f\xff"[r.below(10)]
	}
	return string(s)
}

// names are so many that rise.
func (r *random) names(n int) []string {
	s := []string{"a", "a0", "a_", "aa", "ab", "b", "b_0z", "int", "z", "z9", "zzzzzzzzzzzzzzzz"}
	for len(s) > n {
		at := r.below(len(s))
		s = slices.Delete(s, at, at+1)
	}
	return s
}

// wild is a value of at most so many levels that has the fields of its kind.
func (r *random) wild(levels int) api.Value {
	kind := r.below(api.KindFuture + 1)
	if levels == 1 && (kind == api.KindList || kind == api.KindRec) {
		kind = api.KindInt
	}
	v := api.Value{Kind: kind}
	switch kind {
	case api.KindInt:
		v.N = r.number()
	case api.KindBool:
		v.N = r.below(2)
	case api.KindText:
		v.S = r.text(10)
	case api.KindList:
		v.L = r.elements(levels, r.below(5))
	case api.KindRec:
		v.Names = r.names(r.below(5))
		v.L = r.elements(levels, len(v.Names))
	case api.KindFuture:
		v.N = 1 + r.below(api.MaxStarts)
	}
	return v
}

func (r *random) elements(levels, n int) []api.Value {
	var l []api.Value
	for range n {
		l = append(l, r.wild(levels-1))
	}
	return l
}

// valid is a value that is.
func (r *random) valid() api.Value {
	for {
		if v := r.wild(1 + r.below(api.MaxDeep)); isValid(v) {
			return v
		}
	}
}

// valids are so many, of which some are the same or nearly so.
func (r *random) valids(n int) []api.Value {
	var l []api.Value
	for len(l) < n {
		v := r.valid()
		l = append(l, v, cloned(v))
		for range 3 {
			if w := r.changed(v); isValid(w) {
				l = append(l, w)
			}
		}
	}
	return l
}

// changed is v with one field of one of its parts made another one, so that it is often not valid.
func (r *random) changed(v api.Value) api.Value {
	v = cloned(v)
	if len(v.L) > 0 && r.below(3) > 0 {
		at := r.below(len(v.L))
		v.L[at] = r.changed(v.L[at])
		return v
	}
	switch r.below(7) {
	case 0:
		v.Kind = r.below(9) - 1
	case 1:
		v.N = r.number()
	case 2:
		v.S = r.text(4)
	case 3:
		v.L = append(v.L, r.wild(2))
	case 4:
		v.L = v.L[:len(v.L)/2]
	case 5:
		v.Names = append(v.Names, []string{"", "a", "zzzz", "zzzzzzzzzzzzzzzzz", "A", "0a"}[r.below(6)])
	case 6:
		v.Names = v.Names[:len(v.Names)/2]
	}
	return v
}

// cloned is v in memory of its own.
func cloned(v api.Value) api.Value {
	v.S = strings.Clone(v.S)
	v.Names = slices.Clone(v.Names)
	v.L = slices.Clone(v.L)
	for i := range v.L {
		v.L[i] = cloned(v.L[i])
	}
	return v
}

// parts are v and all that is in it, each with the level it is on.
func parts(v api.Value) (l []api.Value, levels []int) {
	l, levels = []api.Value{v}, []int{1}
	for at := 0; at < len(l); at++ {
		for _, w := range l[at].L {
			l, levels = append(l, w), append(levels, levels[at]+1)
		}
	}
	return l, levels
}

// sizeOf and depthOf are the size and the depth by their definition.
func sizeOf(v api.Value) int {
	n := 0
	l, _ := parts(v)
	for _, w := range l {
		n += 1 + len(w.S) + len(strings.Join(w.Names, ""))
	}
	return n
}

func depthOf(v api.Value) int {
	_, levels := parts(v)
	return slices.Max(levels)
}

var aName = regexp.MustCompile(`^[a-z][a-z0-9_]{0,15}$`)

// isValid is whether v is valid, by its definition.
func isValid(v api.Value) bool {
	l, _ := parts(v)
	return sizeOf(v) <= 256 && depthOf(v) <= 8 && !slices.ContainsFunc(l, func(w api.Value) bool { return !isFormed(w) })
}

// isFormed holds what is left of v without the fields of its kind against a value of zeros.
func isFormed(v api.Value) bool {
	inside := true
	switch v.Kind {
	case 0:
	case 1:
		v.N = 0
	case 2:
		inside = v.N == 0 || v.N == 1
		v.N = 0
	case 3:
		inside = len(v.S) <= 64
		v.S = ""
	case 4:
		inside = len(v.L) <= 32
		v.L = nil
	case 5:
		inside = len(v.Names) <= 8 && len(v.L) == len(v.Names) && areRising(v.Names)
		v.L, v.Names = nil, nil
	case 6:
		inside = v.N >= 1 && v.N <= 64
		v.N = 0
	default:
		return false
	}
	return inside && v.N == 0 && v.S == "" && len(v.L) == 0 && len(v.Names) == 0
}

// areRising is whether these are names that increase strictly.
func areRising(names []string) bool {
	rising := slices.Compact(slices.Sorted(slices.Values(names)))
	return slices.Equal(rising, names) && !slices.ContainsFunc(names, func(s string) bool { return !aName.MatchString(s) })
}

// rank is a string for v: the order of values is the order of their ranks, bytewise.
func rank(v api.Value) string {
	b := fmt.Sprintf("%016x%016x", uint64(v.Kind)^1<<63, uint64(v.N)^1<<63) + rankOfText(v.S)
	for _, s := range v.Names {
		b += "+" + rankOfText(s)
	}
	b += "!" // less than the mark of one more
	for _, w := range v.L {
		b += "+" + rank(w)
	}
	return b + "!"
}

func rankOfText(s string) string {
	return fmt.Sprintf("%x", s) + "!" // less than each digit
}

// encodedAs is the encoding of v, which is valid, by its definition, in hexadecimal digits.
func encodedAs(v api.Value) string {
	text := func(s string) string { return fmt.Sprintf("%02x%x", len(s), s) }
	b := fmt.Sprintf("%02x", v.Kind)
	switch v.Kind {
	case 1:
		b += fmt.Sprintf("%016x", uint64(v.N))
	case 2, 6:
		b += fmt.Sprintf("%02x", v.N)
	case 3:
		b += text(v.S)
	case 4, 5:
		b += fmt.Sprintf("%02x", len(v.L))
	}
	for i, w := range v.L {
		if v.Kind == 5 {
			b += text(v.Names[i])
		}
		b += encodedAs(w)
	}
	return b
}

// taken is what Take returns by its definition: it reads a byte at a time and leaves with the first error.
func taken(b []byte) (v api.Value, rest []byte, e api.Errno) {
	defer func() {
		if x := recover(); x != nil {
			v, rest, e = api.Value{}, nil, x.(api.Errno)
		}
	}()
	next := func() int {
		if len(b) == 0 {
			panic(api.ErrTrunc)
		}
		c := b[0]
		b = b[1:]
		return int(c)
	}
	count := func(most int) int {
		n := next()
		if n > most {
			panic(api.ErrLimit)
		}
		return n
	}
	text := func(most int) string {
		s := ""
		for range count(most) {
			s += string([]byte{byte(next())})
		}
		return s
	}
	var read func(others int) api.Value
	read = func(others int) api.Value {
		if len(b) > 0 && others == 8 {
			panic(api.ErrLimit)
		}
		v := api.Value{Kind: next()}
		switch {
		case v.Kind > 6:
			panic(api.ErrSyntax)
		case v.Kind == 1:
			for range 8 {
				v.N = v.N*256 + next()
			}
		case v.Kind == 2:
			if v.N = next(); v.N > 1 {
				panic(api.ErrSyntax)
			}
		case v.Kind == 3:
			v.S = text(64)
		case v.Kind == 4:
			for range count(32) {
				v.L = append(v.L, read(others+1))
			}
		case v.Kind == 5:
			for range count(8) {
				v.Names = append(v.Names, text(16))
				v.L = append(v.L, read(others+1))
			}
		case v.Kind == 6:
			v.N = next()
		}
		return v
	}
	v = read(0)
	if !isValid(v) {
		panic(api.ErrArg)
	}
	return v, b, api.OK
}

var (
	// an innermost type: a list of something simple, or a record of that.
	aList   = regexp.MustCompile(`\[(none|int|bool|text|future|!)\]`)
	aRecord = regexp.MustCompile(`\{(([a-z][a-z0-9_]{0,15}:(none|int|bool|text|future|!),)*[a-z][a-z0-9_]{0,15}:(none|int|bool|text|future|!))?\}`)
	aSimple = regexp.MustCompile(`^(none|int|bool|text|future|!)$`)
)

// isType is whether t is a type expression, by its definition: its innermost parts are replaced by a mark for as long as that is possible.
func isType(t string) bool {
	if len(t) > 64 || strings.Contains(t, "!") {
		return false
	}
	for {
		u := aRecord.ReplaceAllStringFunc(aList.ReplaceAllString(t, "!"), func(s string) string {
			names, _ := fieldsOf(s)
			if !areRising(names) {
				return "?"
			}
			return "!"
		})
		if u == t {
			return aSimple.MatchString(t)
		}
		t = u
	}
}

// fieldsOf are the names and the types of the fields of a record's type expression.
func fieldsOf(t string) (names, types []string) {
	inside, level := "", 0
	for _, c := range t[1 : len(t)-1] {
		switch c {
		case '[', '{':
			level++
		case ']', '}':
			level--
		case ',':
			if level == 0 {
				c = '\n'
			}
		}
		inside += string(c)
	}
	for _, field := range strings.FieldsFunc(inside, func(c rune) bool { return c == '\n' }) {
		name, of, _ := strings.Cut(field, ":")
		names, types = append(names, name), append(types, of)
	}
	return names, types
}

// isOf is whether v, which is valid, is of the type that t expresses, by its definition.
func isOf(v api.Value, t string) bool {
	switch t[0] {
	case '[':
		return v.Kind == 4 && !slices.ContainsFunc(v.L, func(w api.Value) bool { return !isOf(w, t[1:len(t)-1]) })
	case '{':
		names, types := fieldsOf(t)
		if v.Kind != 5 || !slices.Equal(names, v.Names) {
			return false
		}
		for i, w := range v.L {
			if !isOf(w, types[i]) {
				return false
			}
		}
		return true
	}
	return t == []string{"none", "int", "bool", "text", "?", "?", "future"}[v.Kind]
}

// typeOf is a type expression that v, which is valid, is of, if the elements of its lists are of one type.
func typeOf(v api.Value) string {
	switch v.Kind {
	case 4:
		if len(v.L) == 0 {
			return "[text]"
		}
		return "[" + typeOf(v.L[0]) + "]"
	case 5:
		var fields []string
		for i, w := range v.L {
			fields = append(fields, v.Names[i]+":"+typeOf(w))
		}
		return "{" + strings.Join(fields, ",") + "}"
	}
	return []string{"none", "int", "bool", "text", "?", "?", "future"}[v.Kind]
}

// shownAs is the textual form of v, which is valid, by its definition.
func shownAs(v api.Value) string {
	var elements []string
	for i, w := range v.L {
		name := ""
		if v.Kind == 5 {
			name = v.Names[i] + ":"
		}
		elements = append(elements, name+shownAs(w))
	}
	inside := strings.Join(elements, ",")
	text := ""
	for _, c := range []byte(v.S) {
		if c >= 32 && c <= 126 && c != 34 && c != 92 {
			text += string(rune(c))
		} else {
			text += fmt.Sprintf(`\%02x`, c)
		}
	}
	return []string{"none", fmt.Sprint(v.N), fmt.Sprint(v.N == 1), `"` + text + `"`, "[" + inside + "]", "{" + inside + "}", fmt.Sprintf("#%d", v.N)}[v.Kind]
}
