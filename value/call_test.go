package value_test

import (
	"slices"
	"strings"
	"testing"

	"espalier/api"
	"espalier/value"
)

// tells: a function answers so.
func tells(t *testing.T, want api.Value, name string, here api.Here, args ...api.Value) {
	t.Helper()
	if v, e := value.Call(name, here, args); !same(v, want) || e != api.OK {
		t.Errorf("%s(%s): %s, %d; want %s", name, show(args), show(v), e, show(want))
	}
}

// P14.3: what is no function, and another number of arguments, also if these can't be.
func TestCallNone(t *testing.T) {
	refuses := func(name string, args []api.Value, why api.Errno) {
		t.Helper()
		if v, e := value.Call(name, api.Here{Position: 1, Name: "n"}, args); !same(v, api.Value{}) || e != why {
			t.Errorf("%q of %d: %s, %d; want %d", name, len(args), show(v), e, why)
		}
	}
	for n := range 5 {
		args := slices.Repeat([]api.Value{nodes("1")}, n)
		for _, name := range []string{"", "True", "true ", " true", "true()", "text", "node", "or", "and", "attr", "call", "query", "concat", "TRUE", "starts-with", "string-length", "=", "lengt", "names", "\x00"} {
			refuses(name, args, api.ErrFunc)
		}
		for name, parts := range functions {
			for _, v := range []api.Value{number(1), text("x"), {}, text("\x00")} {
				args := slices.Repeat([]api.Value{v}, n)
				if n != parts {
					refuses(name, args, api.ErrFunc)
				}
			}
		}
	}
}

// P14.3: arguments that can't be.
func TestCallWrong(t *testing.T) {
	for name, parts := range functions {
		for i := range parts {
			for _, v := range wrong() {
				args := slices.Repeat([]api.Value{nodes("1")}, parts)
				args[i] = v
				if x, e := value.Call(name, api.Here{}, args); !same(x, api.Value{}) || e != api.ErrValue {
					t.Errorf("%s of %s: %s, %d", name, show(v), show(x), e)
				}
			}
		}
	}
}

// P14.3: whatever here holds is told as it is.
func TestCallHere(t *testing.T) {
	for _, n := range []int{0, 1, 2, -1, least, greatest} {
		tells(t, number(int64(n)), "position", api.Here{Position: n, Last: 7, Name: "x"})
		tells(t, number(int64(n)), "last", api.Here{Position: 7, Last: n, Text: "x"})
	}
	long := strings.Repeat("x", api.MaxText+1)
	for _, s := range []string{"", "a", "é", "\x00", "\xff", long} {
		tells(t, text(s), "name", api.Here{Name: s, Text: "other", Attrs: []api.Attr{{Name: "a", Value: "b"}}})
		bad := api.Here{Name: s, Text: "\xff", Attrs: []api.Attr{{Name: "\x00", Value: "\x00"}}}
		tells(t, truth(true), "true", bad)
		tells(t, truth(false), "false", bad)
		tells(t, truth(true), "not", bad, truth(false))
		tells(t, number(2), "length", bad, text("xx"))
	}
}

// P14.3: what each function answers.
func TestCallPlain(t *testing.T) {
	var here api.Here
	tells(t, truth(true), "true", here)
	tells(t, truth(false), "false", here)
	tells(t, truth(false), "not", here, text("0"))
	tells(t, truth(true), "not", here, none())
	tells(t, text("NaN"), "string", here, none())
	tells(t, text("true"), "string", here, truth(true))
	tells(t, text("a"), "string", here, nodes("a", "b"))
	tells(t, number(1), "number", here, truth(true))
	tells(t, none(), "number", here, api.Value{Kind: api.VNumber, None: true, Num: 3})
	tells(t, none(), "number", here, text("x"))
	tells(t, number(12), "number", here, nodes(" 12 ", "x"))
	tells(t, number(0), "count", here, nodes())
	tells(t, number(3), "count", here, nodes("", "x", "x"))
	tells(t, none(), "count", here, text("x"))
	tells(t, none(), "count", here, number(4))
	tells(t, none(), "count", here, truth(false))
	tells(t, number(1), "length", here, text("é"))
	tells(t, number(3), "length", here, none())
	tells(t, number(5), "length", here, truth(false))
	tells(t, number(2), "length", here, number(-4))
	tells(t, number(0), "length", here, nodes())
	tells(t, number(api.MaxText/2), "length", here, full()[0])
	tells(t, truth(true), "contains", here, text("abc"), text("bc"))
	tells(t, truth(false), "contains", here, text("bc"), text("abc"))
	tells(t, truth(true), "contains", here, text(""), text(""))
	tells(t, truth(true), "contains", here, number(1234), number(23))
	tells(t, truth(true), "contains", here, none(), text("aN"))
	tells(t, truth(false), "contains", here, nodes("a", "b"), text("b"))
	tells(t, truth(true), "starts", here, text("abc"), text("ab"))
	tells(t, truth(false), "starts", here, text("abc"), text("bc"))
	tells(t, truth(true), "starts", here, nodes(), nodes())
	tells(t, truth(true), "starts", here, text("true!"), truth(true))
}

// P14.3: sums, and where they are none.
func TestCallSum(t *testing.T) {
	var here api.Here
	const top, bottom = "9223372036854775807", "-9223372036854775808"
	tells(t, number(0), "sum", here, nodes())
	tells(t, number(3), "sum", here, nodes("1", "2"))
	tells(t, number(-5), "sum", here, nodes(" -7", "2 "))
	tells(t, none(), "sum", here, nodes("1", "a"))
	tells(t, none(), "sum", here, nodes("a", "1"))
	tells(t, none(), "sum", here, nodes(""))
	tells(t, number(greatest), "sum", here, nodes(top))
	tells(t, number(greatest), "sum", here, nodes("-1", top, "1"))
	tells(t, number(greatest), "sum", here, nodes(top, "0"))
	tells(t, number(least), "sum", here, nodes(bottom, "0"))
	tells(t, number(-1), "sum", here, nodes(top, bottom))
	tells(t, number(least), "sum", here, nodes("1", bottom, "-1"))
	tells(t, none(), "sum", here, nodes(top, "1"))
	tells(t, none(), "sum", here, nodes(top, "1", "-1"))
	tells(t, none(), "sum", here, nodes(top, top, bottom, bottom))
	tells(t, none(), "sum", here, nodes(bottom, "-1"))
	tells(t, none(), "sum", here, nodes(bottom, "-1", "1"))
	tells(t, none(), "sum", here, nodes(bottom, bottom))
	tells(t, none(), "sum", here, nodes("0", bottom, bottom, "5"))
	tells(t, none(), "sum", here, nodes(top, "1", top, top, "3"))
	for _, v := range []api.Value{truth(true), number(3), none(), text("3"), text("")} {
		tells(t, none(), "sum", here, v)
	}
}

// P14.3: all functions of all values.
func TestCallAll(t *testing.T) {
	here := api.Here{Position: 3, Last: 4, Name: "n", Text: "t"}
	l := append(append(values(), full()...), anyNodes(8, 50)...)
	for name, parts := range functions {
		switch parts {
		case 0:
			tells(t, answers(name, here, nil), name, here)
			tells(t, answers(name, here, nil), name, here, []api.Value{}...)
		case 1:
			for _, v := range l {
				tells(t, answers(name, here, []api.Value{v}), name, here, v)
				tells(t, answers(name, here, []api.Value{v}), name, here, junk(v))
			}
		case 2:
			for _, a := range l {
				for _, b := range l {
					tells(t, answers(name, here, []api.Value{a, b}), name, here, a, b)
				}
			}
		}
	}
}

// P14.8: count is the sum of what it is of each alone.
func TestCountAlone(t *testing.T) {
	for _, v := range append(values(), anyNodes(9, 50)...) {
		if v.Kind != api.VNodes {
			continue
		}
		var n int64
		for _, s := range v.Texts {
			one, _ := value.Call("count", api.Here{}, []api.Value{nodes(s)})
			n += one.Num
		}
		tells(t, number(n), "count", api.Here{}, v)
	}
}

// Neither arguments nor their spare room are changed.
func TestCallLeaves(t *testing.T) {
	list := append(make([]string, 0, 8), "1", "2")
	rest := list[:8]
	rest[5] = "spare"
	args := append(make([]api.Value, 0, 3), nodes(list...), text("1"))
	for name, parts := range functions {
		if _, e := value.Call(name, api.Here{}, args[:parts:parts]); e != api.OK {
			t.Error(name, e)
		}
	}
	value.Compare("<", args[0], args[1])
	if !slices.Equal(rest, []string{"1", "2", "", "", "", "spare", "", ""}) || !same(args[1], text("1")) || !same(args[:3][2], api.Value{}) {
		t.Error("changed:", rest, args)
	}
}
