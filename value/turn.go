package value

import (
	"slices"
	"strconv"
	"strings"

	"espalier/api"
	"espalier/chars"
)

// blanks is what may stand around a number.
const blanks = "\t\n\r "

// notNumber is the text of what is no number.
const notNumber = "NaN"

// number is a number; the zero one is no number.
type number struct {
	n  int64
	is bool
}

func truth(is bool) api.Value { return api.Value{Kind: api.VBool, Bool: is} }

func integer(n int64) api.Value { return api.Value{Kind: api.VNumber, Num: n} }

func words(s string) api.Value { return api.Value{Kind: api.VText, Text: s} }

// nodes is nodes by texts, in a list of its own.
func nodes(texts ...string) api.Value {
	return api.Value{Kind: api.VNodes, Texts: append([]string(nil), texts...)}
}

// value is a number as a value.
func (x number) value() api.Value {
	return api.Value{Kind: api.VNumber, Num: x.n, None: !x.is}
}

// canBe tells whether there can be such a value; what its kind does not name plays no part.
func canBe(v api.Value) bool {
	switch v.Kind {
	case api.VBool, api.VNumber:
		return true
	case api.VText:
		return !wrongText(v.Text)
	case api.VNodes:
		return len(v.Texts) <= api.MaxNodes && !slices.ContainsFunc(v.Texts, wrongText)
	}
	return false
}

func wrongText(s string) bool {
	_, e := chars.Text(s)
	return e != api.OK
}

func asTruth(v api.Value) bool {
	switch v.Kind {
	case api.VBool:
		return v.Bool
	case api.VNumber:
		return !v.None && v.Num != 0
	case api.VText:
		return v.Text != ""
	}
	return len(v.Texts) > 0
}

func asNumber(v api.Value) number {
	switch v.Kind {
	case api.VBool:
		return bit(v.Bool)
	case api.VNumber:
		if v.None {
			return number{}
		}
		return number{v.Num, true}
	}
	return read(asText(v))
}

func asText(v api.Value) string {
	switch v.Kind {
	case api.VBool:
		return strconv.FormatBool(v.Bool)
	case api.VNumber:
		if v.None {
			return notNumber
		}
		return strconv.FormatInt(v.Num, 10)
	case api.VText:
		return v.Text
	}
	if len(v.Texts) == 0 {
		return ""
	}
	return v.Texts[0]
}

// bit is a truth as a number.
func bit(is bool) number {
	if is {
		return number{1, true}
	}
	return number{0, true}
}

// read is the number of which a text tells. A + ahead, which the library would take, makes it none.
func read(text string) number {
	digits := strings.Trim(text, blanks)
	n, err := strconv.ParseInt(digits, 10, 64)
	if err != nil || digits[0] == '+' {
		return number{}
	}
	return number{n, true}
}
