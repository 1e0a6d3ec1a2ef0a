package value_test

import (
	"fmt"
	"math/big"
	"math/rand/v2"
	"reflect"
	"regexp"
	"slices"
	"strings"
	"testing"
	"unsafe"

	"espalier/api"
)

const (
	least    = -1 << 63
	greatest = 1<<63 - 1
)

func dice(seed uint64) *rand.Rand { return rand.New(rand.NewPCG(seed, 14)) }

func pick[T any](r *rand.Rand, l []T) T { return l[r.IntN(len(l))] }

func truth(b bool) api.Value      { return api.Value{Kind: api.VBool, Bool: b} }
func number(n int64) api.Value    { return api.Value{Kind: api.VNumber, Num: n} }
func text(s string) api.Value     { return api.Value{Kind: api.VText, Text: s} }
func nodes(l ...string) api.Value { return api.Value{Kind: api.VNodes, Texts: l} }
func none() api.Value             { return api.Value{Kind: api.VNumber, None: true} }

// same holds two values against each other, all fields; nil and empty lists are alike.
func same(a, b api.Value) bool {
	return a.Kind == b.Kind && a.Bool == b.Bool && a.Num == b.Num && a.None == b.None && a.Text == b.Text && slices.Equal(a.Texts, b.Texts)
}

// show is a value for people.
func show(x any) string { return fmt.Sprintf("%.300s", fmt.Sprintf("%+v", x)) }

var badTexts = slices.Repeat([]string{"\xff"}, api.MaxNodes+1)

// junk is a value with something in all that its kind does not name.
func junk(v api.Value) api.Value {
	x := api.Value{Kind: v.Kind, Bool: true, Num: 77, None: true, Text: "\x00", Texts: badTexts}
	switch v.Kind {
	case api.VBool:
		x.Bool = v.Bool
	case api.VNumber:
		x.None = v.None
		if !v.None {
			x.Num = v.Num
		}
	case api.VText:
		x.Text = v.Text
	case api.VNodes:
		x.Texts = v.Texts
	}
	return x
}

// values is values of all kinds: those that matter, and all lists of at most three of few texts.
func values() []api.Value {
	l := []api.Value{truth(false), truth(true), none()}
	for _, n := range []int64{0, 1, -1, 2, 9, 10, -3, least, greatest} {
		l = append(l, number(n))
	}
	for _, s := range []string{"", " ", "0", "-0", "1", "01", " 1\n", "-1", "9", "10", "x", "true", "false", "NaN", "é", "1x", "9223372036854775807", "9223372036854775808", "-9223372036854775808"} {
		l = append(l, text(s))
	}
	few := []string{"", "1", "01", "2", "-3", "x"}
	lists := [][]string{nil}
	for len(lists[0]) < 3 {
		for _, list := range lists {
			l = append(l, nodes(list...))
		}
		var longer [][]string
		for _, list := range lists {
			for _, s := range few {
				longer = append(longer, append(slices.Clone(list), s))
			}
		}
		lists = longer
	}
	for _, list := range lists {
		l = append(l, nodes(list...))
	}
	return append(l, nodes("9223372036854775807", "1", "-9223372036854775808"))
}

// wrong is values that can't be.
func wrong() []api.Value {
	long := strings.Repeat("x", api.MaxText+1)
	many := slices.Repeat([]string{"1"}, api.MaxNodes+1)
	last := append(slices.Repeat([]string{"1"}, api.MaxNodes-1), "\x01")
	return []api.Value{
		{}, {Kind: -1}, {Kind: 5}, {Kind: 5, Bool: true, Num: 1, Text: "1", Texts: []string{"1"}}, {Kind: 1 << 32},
		text(long), text("a\x00"), text("\xc3"), text("\xed\xa0\x80"), text("\uffff"), text("1\x0b"),
		nodes(long), nodes("\x00"), nodes("1", "\xff"), nodes("", "", "\ufffe"), nodes(many...), nodes(last...),
	}
}

// full is values at the limits.
func full() []api.Value {
	long := strings.Repeat("é", api.MaxText/2)
	return []api.Value{text(long), nodes(long), nodes(slices.Repeat([]string{"1"}, api.MaxNodes)...), nodes("\U0010ffff", "\t\n\r \ufffd\ue000\ud7ff")}
}

// The chapter's words once more, by patterns and by numbers without bounds.

var form = regexp.MustCompile("\\A[\t\n\r ]*(-?[0-9]+)[\t\n\r ]*\\z")

// read is the numbers that were read: tests read the same ones again and again.
var read = map[string]*big.Int{}

// readNumber is the number of a text; nil, if it is none.
func readNumber(s string) *big.Int {
	n, ok := read[s]
	if !ok {
		n = matchNumber(s)
		read[s] = n
	}
	return n
}

func matchNumber(s string) *big.Int {
	m := form.FindStringSubmatch(s)
	if m == nil {
		return nil
	}
	n, _ := new(big.Int).SetString(m[1], 10)
	if !n.IsInt64() {
		return nil
	}
	return n
}

func isTrue(v api.Value) bool {
	switch v.Kind {
	case api.VBool:
		return v.Bool
	case api.VNumber:
		return !v.None && v.Num != 0
	case api.VText:
		return len(v.Text) > 0
	}
	return len(v.Texts) > 0
}

func numberOf(v api.Value) *big.Int {
	switch {
	case v.Kind == api.VBool && v.Bool:
		return big.NewInt(1)
	case v.Kind == api.VBool:
		return big.NewInt(0)
	case v.Kind == api.VNumber && v.None:
		return nil
	case v.Kind == api.VNumber:
		return big.NewInt(v.Num)
	}
	return readNumber(textOf(v))
}

func textOf(v api.Value) string {
	switch v.Kind {
	case api.VBool:
		return fmt.Sprint(v.Bool)
	case api.VNumber:
		if v.None {
			return "NaN"
		}
		return fmt.Sprint(v.Num)
	case api.VNodes:
		return strings.Join(v.Texts[:min(1, len(v.Texts))], "")
	}
	return v.Text
}

// numeral is a number as a value.
func numeral(n *big.Int) api.Value {
	if n == nil || !n.IsInt64() {
		return none()
	}
	return number(n.Int64())
}

var signs = []string{"=", "!=", "<", "<=", ">", ">="}

// against holds two values against each other, each text against each.
func against(op string, a, b api.Value) bool {
	switch {
	case a.Kind == api.VNodes && b.Kind == api.VBool:
		return against(op, truth(isTrue(a)), b)
	case a.Kind == api.VBool && b.Kind == api.VNodes:
		return against(op, a, truth(isTrue(b)))
	case a.Kind == api.VNodes:
		return slices.ContainsFunc(a.Texts, func(s string) bool { return against(op, text(s), b) })
	case b.Kind == api.VNodes:
		return slices.ContainsFunc(b.Texts, func(s string) bool { return against(op, a, text(s)) })
	}
	x, y := numberOf(a), numberOf(b)
	if op != "=" && op != "!=" {
		if x == nil || y == nil {
			return false
		}
		return x.Cmp(y) < 0 && op[0] == '<' || x.Cmp(y) > 0 && op[0] == '>' || x.Cmp(y) == 0 && len(op) == 2
	}
	equal := a.Text == b.Text
	if a.Kind == api.VNumber || b.Kind == api.VNumber {
		equal = x != nil && y != nil && x.Cmp(y) == 0
	}
	if a.Kind == api.VBool || b.Kind == api.VBool {
		equal = isTrue(a) == isTrue(b)
	}
	return equal == (op == "=")
}

var functions = map[string]int{"true": 0, "false": 0, "position": 0, "last": 0, "name": 0, "not": 1, "string": 1, "number": 1, "count": 1, "sum": 1, "length": 1, "contains": 2, "starts": 2}

// answers is what a function answers.
func answers(name string, here api.Here, args []api.Value) api.Value {
	switch name {
	case "true":
		return truth(true)
	case "false":
		return truth(false)
	case "position":
		return number(int64(here.Position))
	case "last":
		return number(int64(here.Last))
	case "name":
		return text(here.Name)
	case "not":
		return truth(!isTrue(args[0]))
	case "string":
		return text(textOf(args[0]))
	case "number":
		return numeral(numberOf(args[0]))
	case "length":
		return number(int64(len([]rune(textOf(args[0])))))
	case "contains":
		return truth(strings.Index(textOf(args[0]), textOf(args[1])) >= 0)
	case "starts":
		return truth(strings.Index(textOf(args[0]), textOf(args[1])) == 0)
	}
	if args[0].Kind != api.VNodes {
		return none()
	}
	if name == "count" {
		return number(int64(len(args[0].Texts)))
	}
	sum := new(big.Int)
	for _, s := range args[0].Texts {
		n := readNumber(s)
		if n == nil || !sum.Add(sum, n).IsInt64() {
			return none()
		}
	}
	return numeral(sum)
}

// room is where a list lies, its spare room too.
type room struct{ from, to uintptr }

func roomOf[T any](l []T) room {
	var one T
	from := uintptr(unsafe.Pointer(unsafe.SliceData(l)))
	return room{from, from + uintptr(cap(l))*unsafe.Sizeof(one)}
}

// apart: no two of these places share memory.
func apart(t *testing.T, all ...room) {
	t.Helper()
	for i, a := range all {
		for _, b := range all[:i] {
			if a.from < b.to && b.from < a.to {
				t.Fatal("two lists share memory")
			}
		}
	}
}

// rooms is where all lists lie that hang on something.
func rooms(x any) []room {
	var all []room
	var look func(v reflect.Value)
	look = func(v reflect.Value) {
		switch v.Kind() {
		case reflect.Struct:
			for i := range v.NumField() {
				look(v.Field(i))
			}
		case reflect.Slice:
			from := v.Pointer()
			all = append(all, room{from, from + uintptr(v.Cap())*v.Type().Elem().Size()})
			for i := range v.Len() {
				look(v.Index(i))
			}
		}
	}
	look(reflect.ValueOf(x))
	return all
}
