package value

import (
	"slices"
	"strings"

	"encore/api"
)

// mostType is how many bytes a type expression has at most.
const mostType = 64

// words are the type expressions of one word, by their kinds.
var words = [...]string{
	api.TypeNone:   "none",
	api.TypeInt:    "int",
	api.TypeBool:   "bool",
	api.TypeText:   "text",
	api.TypeFuture: "future",
}

// Fits tells whether t is a type expression.
func Fits(t string) bool {
	_, ok := parse(t)
	return ok
}

// Is tells whether t is a type expression and v is of that type.
func Is(v api.Value, t string) bool {
	expressed, ok := parse(t)
	return ok && Check(v) == api.OK && of(v, expressed)
}

// of tells whether v, which is valid, is of the type t; a type has the number of the kind of its values.
func of(v api.Value, t api.Type) bool {
	if v.Kind != t.Kind || !slices.Equal(v.Names, t.Names) {
		return false
	}
	for i := range len(v.L) {
		element := 0 // a list's type has one for all elements
		if v.Kind == api.KindRec {
			element = i
		}
		if !of(v.L[i], t.L[element]) {
			return false
		}
	}
	return true
}

// parse is the type that t expresses, if it does.
func parse(t string) (api.Type, bool) {
	if len(t) > mostType {
		return api.Type{}, false
	}
	expressed, rest, ok := takeType(t)
	return expressed, ok && rest == ""
}

// takeType takes a type off what t starts with.
func takeType(t string) (taken api.Type, rest string, ok bool) {
	if rest, ok = strings.CutPrefix(t, "["); ok {
		return takeList(rest)
	}
	if rest, ok = strings.CutPrefix(t, "{"); ok {
		return takeRecord(rest)
	}
	for kind, word := range words {
		if rest, ok = strings.CutPrefix(t, word); ok && word != "" {
			return api.Type{Kind: kind}, rest, true
		}
	}
	return api.Type{}, "", false
}

// takeList takes the rest of a list's type, behind its bracket.
func takeList(t string) (taken api.Type, rest string, ok bool) {
	element, rest, ok := takeType(t)
	if !ok {
		return api.Type{}, "", false
	}
	rest, ok = strings.CutPrefix(rest, "]")
	return api.Type{Kind: api.TypeList, L: []api.Type{element}}, rest, ok
}

// takeRecord takes the rest of a record's type, behind its brace.
func takeRecord(t string) (taken api.Type, rest string, ok bool) {
	taken.Kind = api.TypeRec
	if rest, ok = strings.CutPrefix(t, "}"); ok {
		return taken, rest, true
	}
	for more := true; more; {
		name, behind, _ := strings.Cut(t, ":")
		field, rest, ok := takeType(behind)
		if !ok {
			return api.Type{}, "", false
		}
		taken.Names = append(taken.Names, name)
		taken.L = append(taken.L, field)
		t, more = strings.CutPrefix(rest, ",")
	}
	rest, ok = strings.CutPrefix(t, "}")
	return taken, rest, ok && fieldNames(taken.Names)
}
