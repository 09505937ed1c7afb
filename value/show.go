package value

import (
	"strconv"
	"strings"

	"encore/api"
)

// digits are those of a byte that a text doesn't show itself.
const digits = "0123456789abcdef"

// Show is the textual form of v, or nothing unless v is valid.
func Show(v api.Value) string {
	if Check(v) != api.OK {
		return ""
	}
	return shown(v)
}

// shown is the textual form of v, which is valid.
func shown(v api.Value) string {
	switch v.Kind {
	case api.KindInt:
		return strconv.Itoa(v.N)
	case api.KindBool:
		return strconv.FormatBool(v.N == 1)
	case api.KindText:
		return `"` + escaped(v.S) + `"`
	case api.KindList:
		return "[" + strings.Join(shownElements(v), ",") + "]"
	case api.KindRec:
		return "{" + strings.Join(shownElements(v), ",") + "}"
	case api.KindFuture:
		return "#" + strconv.Itoa(v.N)
	}
	return "none"
}

// shownElements are the textual forms of the elements of v, each behind its name if it has one.
func shownElements(v api.Value) []string {
	forms := make([]string, len(v.L))
	for i := range len(v.L) {
		forms[i] = shown(v.L[i])
		if v.Kind == api.KindRec {
			forms[i] = v.Names[i] + ":" + forms[i]
		}
	}
	return forms
}

// escaped is s as it stands between quotation marks.
func escaped(s string) string {
	var b strings.Builder
	for i := range len(s) {
		c := s[i]
		if c >= ' ' && c <= '~' && c != '"' && c != '\\' {
			b.WriteByte(c)
		} else {
			b.WriteByte('\\')
			b.WriteByte(digits[c>>4])
			b.WriteByte(digits[c&15])
		}
	}
	return b.String()
}
