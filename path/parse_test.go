package path_test

import (
	"strings"
	"testing"

	"espalier/api"
)

// P13.1: paths and their steps, with their places.
func TestParsePaths(t *testing.T) {
	for _, x := range []struct {
		s    string
		want api.Query
	}{
		{"a", query(rel(0, child(0, "a")))},
		{"/", query(abs(0))},
		{" \t\r\n/ \t\r\n", query(abs(4))},
		{"/a", query(abs(0, child(1, "a")))},
		{" / a ", query(abs(1, child(3, "a")))},
		{"//a", query(abs(0, anywhere(0), child(2, "a")))},
		{" // a", query(abs(1, anywhere(1), child(4, "a")))},
		{"a/b", query(rel(0, child(0, "a"), child(2, "b")))},
		{"a//b", query(rel(0, child(0, "a"), anywhere(1), child(3, "b")))},
		{" a / b // c ", query(rel(1, child(1, "a"), child(5, "b"), anywhere(7), child(10, "c")))},
		{"/a//b", query(abs(0, child(1, "a"), anywhere(2), child(4, "b")))},
		{".", query(rel(0, step(0, api.SelfAxis, api.TestNode)))},
		{"..", query(rel(0, step(0, api.ParentAxis, api.TestNode)))},
		{"/.", query(abs(0, step(1, api.SelfAxis, api.TestNode)))},
		{"/..", query(abs(0, step(1, api.ParentAxis, api.TestNode)))},
		{"//.", query(abs(0, anywhere(0), step(2, api.SelfAxis, api.TestNode)))},
		{".//..", query(rel(0, step(0, api.SelfAxis, api.TestNode), anywhere(1), step(3, api.ParentAxis, api.TestNode)))},
		{"../..", query(rel(0, step(0, api.ParentAxis, api.TestNode), step(3, api.ParentAxis, api.TestNode)))},
		{"*", query(rel(0, step(0, api.ChildAxis, api.TestAny)))},
		{"/*", query(abs(0, step(1, api.ChildAxis, api.TestAny)))},
		{"text()", query(rel(0, step(0, api.ChildAxis, api.TestText)))},
		{"node()", query(rel(0, step(0, api.ChildAxis, api.TestNode)))},
		{" text\n(\t) ", query(rel(1, step(1, api.ChildAxis, api.TestText)))},
		{"node ( )//text ( )", query(rel(0, step(0, api.ChildAxis, api.TestNode), anywhere(8), step(10, api.ChildAxis, api.TestText)))},
		{"text", query(rel(0, child(0, "text")))},
		{"node/text", query(rel(0, child(0, "node"), child(5, "text")))},
		{"a | b", query(rel(0, child(0, "a")), rel(4, child(4, "b")))},
		{"a|/|//b|..", query(rel(0, child(0, "a")), abs(2), abs(4, anywhere(4), child(6, "b")), rel(8, step(8, api.ParentAxis, api.TestNode)))},
		{"/|/", query(abs(0), abs(2))},
		{"or", query(rel(0, child(0, "or")))},
		{"and/or", query(rel(0, child(0, "and"), child(4, "or")))},
		{"not", query(rel(0, child(0, "not")))},
		{"child", query(rel(0, child(0, "child")))},
		{"_.-9", query(rel(0, child(0, "_.-9")))},
		{"a..", query(rel(0, child(0, "a..")))},
		{"Z-", query(rel(0, child(0, "Z-")))},
		{long(api.MaxName), query(rel(0, child(0, long(api.MaxName))))},
		{"/descendant-or-self::node()/a", query(abs(0, anywhere(1), child(28, "a")))},
	} {
		reads(t, x.s, x.want)
	}
}

// P13.1: every axis by its word, with every test.
func TestParseAxes(t *testing.T) {
	for axis := api.ChildAxis; axis <= api.SelfAxis; axis++ {
		n := len(axes[axis]) + 2
		named := child(0, "child")
		named.Axis = axis
		reads(t, axes[axis]+"::child", query(rel(0, named)))
		reads(t, axes[axis]+"::*", query(rel(0, step(0, axis, api.TestAny))))
		reads(t, axes[axis]+"::text()", query(rel(0, step(0, axis, api.TestText))))
		reads(t, axes[axis]+"::node()", query(rel(0, step(0, axis, api.TestNode))))
		reads(t, "/"+axes[axis]+" :: * [ 1 ]", query(abs(0, step(1, axis, api.TestAny, number(n+7, 1)))))
		reads(t, axes[axis], query(rel(0, child(0, axes[axis]))))
	}
	for _, word := range []string{"attribute", "Child", "childs", "chil", "descendant-or", "or", "text", "node", "a", "self-", long(api.MaxName + 1)} {
		refuses(t, word+"::a", 0, api.ErrStep)
		refuses(t, "a/"+word+" :: ", 2, api.ErrStep)
		refuses(t, "a["+word+"::", 2, api.ErrStep)
	}
}

// P13.1: expressions, with their places.
func TestParseExprs(t *testing.T) {
	for _, x := range []struct {
		s    string
		want api.Expr // of a[s], which begins at 2
	}{
		{"1", number(2, 1)},
		{"0", number(2, 0)},
		{"10", number(2, 10)},
		{"999999999", number(2, 999999999)},
		{`"x"`, text(2, "x")},
		{`'x'`, text(2, "x")},
		{`""`, text(2, "")},
		{`"it's"`, text(2, "it's")},
		{`'"'`, text(2, `"`)},
		{`" é ]"`, text(2, " é ]")},
		{"'\t\r\n\U0010ffff'", text(2, "\t\r\n\U0010ffff")},
		{"@b", attr(2, "b")},
		{" @ b ", attr(3, "b")},
		{"@or", attr(2, "or")},
		{"@text", attr(2, "text")},
		{"@" + long(api.MaxName), attr(2, long(api.MaxName))},
		{"b", named(2, "b")},
		{"/", asks(2, abs(2))},
		{"//b", asks(2, abs(2, anywhere(2), child(4, "b")))},
		{" b | c ", asks(3, rel(3, child(3, "b")), rel(7, child(7, "c")))},
		{"..", asks(2, rel(2, step(2, api.ParentAxis, api.TestNode)))},
		{"text()", asks(2, rel(2, step(2, api.ChildAxis, api.TestText)))},
		{"node ()", asks(2, rel(2, step(2, api.ChildAxis, api.TestNode)))},
		{"self::b", asks(2, rel(2, api.Step{Axis: api.SelfAxis, Test: api.TestName, Name: "b", At: 2}))},
		{"b[c]", asks(2, rel(2, child(2, "b", named(4, "c"))))},
		{"(1)", number(3, 1)},
		{"((( b )))", named(6, "b")},
		{"true()", call(2, "true")},
		{" last ( ) ", call(3, "last")},
		{"not(b)", call(2, "not", named(6, "b"))},
		{"contains(., 'x')", call(2, "contains", asks(11, rel(11, step(11, api.SelfAxis, api.TestNode))), text(14, "x"))},
		{"starts ( 1 , 2 )", call(2, "starts", number(11, 1), number(15, 2))},
		{"count(b | c)", call(2, "count", asks(8, rel(8, child(8, "b")), rel(12, child(12, "c"))))},
		{"not(b or c)", call(2, "not", both(8, "or", named(6, "b"), named(11, "c")))},
		{"count", named(2, "count")},
		{"1 = 2", both(4, "=", number(2, 1), number(6, 2))},
		{"1=2", both(3, "=", number(2, 1), number(4, 2))},
		{"1!=2", both(3, "!=", number(2, 1), number(5, 2))},
		{"1<2", both(3, "<", number(2, 1), number(4, 2))},
		{"1<=2", both(3, "<=", number(2, 1), number(5, 2))},
		{"1>2", both(3, ">", number(2, 1), number(4, 2))},
		{"1>=2", both(3, ">=", number(2, 1), number(5, 2))},
		{"/=/", both(3, "=", asks(2, abs(2)), asks(4, abs(4)))},
		{"b|c=d", both(5, "=", asks(2, rel(2, child(2, "b")), rel(4, child(4, "c"))), named(6, "d"))},
		{"1 or 2", both(4, "or", number(2, 1), number(7, 2))},
		{"1or 2", both(3, "or", number(2, 1), number(6, 2))},
		{"1 and 2", both(4, "and", number(2, 1), number(8, 2))},
		{"1 or 2 or 3", both(9, "or", both(4, "or", number(2, 1), number(7, 2)), number(12, 3))},
		{"1 and 2 and 3", both(10, "and", both(4, "and", number(2, 1), number(8, 2)), number(14, 3))},
		{"1 or (2 or 3)", both(4, "or", number(2, 1), both(10, "or", number(8, 2), number(13, 3)))},
		{"1 or 2 and 3", both(4, "or", number(2, 1), both(9, "and", number(7, 2), number(13, 3)))},
		{"1 and 2 or 3", both(10, "or", both(4, "and", number(2, 1), number(8, 2)), number(13, 3))},
		{"1 and (2 or 3)", both(4, "and", number(2, 1), both(11, "or", number(9, 2), number(14, 3)))},
		{"1 = 2 or 3 < 4", both(8, "or", both(4, "=", number(2, 1), number(6, 2)), both(13, "<", number(11, 3), number(15, 4)))},
		{"(1 = 2) = 3", both(10, "=", both(5, "=", number(3, 1), number(7, 2)), number(12, 3))},
		{"or or or", both(5, "or", named(2, "or"), named(8, "or"))},
		{"1 or or", both(4, "or", number(2, 1), named(7, "or"))},
		{"and and or", both(6, "and", named(2, "and"), named(10, "or"))},
		{"/or or /and", both(6, "or", asks(2, abs(2, child(3, "or"))), asks(9, abs(9, child(10, "and"))))},
		{"b[1]or c", both(6, "or", asks(2, rel(2, child(2, "b", number(4, 1)))), named(9, "c"))},
		{"..or .", both(4, "or", asks(2, rel(2, step(2, api.ParentAxis, api.TestNode))), asks(7, rel(7, step(7, api.SelfAxis, api.TestNode))))},
	} {
		reads(t, "a["+x.s+"]", holding(x.want))
	}
	reads(t, "a[1][b] [ 'x' ]", query(rel(0, child(0, "a", number(2, 1), named(5, "b"), text(10, "x")))))
	reads(t, "/a//b[2]", query(abs(0, child(1, "a"), anywhere(2), child(4, "b", number(6, 2)))))
	reads(t, "text()[1]/*[2]", query(rel(0, step(0, api.ChildAxis, api.TestText, number(7, 1)), step(10, api.ChildAxis, api.TestAny, number(12, 2)))))
	reads(t, "self::node()[1]", query(rel(0, step(0, api.SelfAxis, api.TestNode, number(13, 1)))))
}

// P13.1: each function has so many parts, and is one only where a bracket stands behind it.
func TestParseFunctions(t *testing.T) {
	for _, f := range functions {
		for n := range 5 {
			s := "a[" + f.name + "(" + strings.Join(strings.Split(strings.Repeat("1", n), ""), ", ") + ")]"
			var parts []api.Expr
			for i := range n {
				parts = append(parts, number(3+len(f.name)+3*i, 1))
			}
			if n == f.parts {
				reads(t, s, holding(call(2, f.name, parts...)))
			} else {
				refuses(t, s, 2, api.ErrStep)
			}
		}
		reads(t, "a["+f.name+"]", holding(named(2, f.name)))
		refuses(t, f.name+"()", 0, api.ErrStep)
		refuses(t, "a[b/"+f.name+" ()]", 4, api.ErrStep)
		refuses(t, "a[child::"+f.name+"()]", 9, api.ErrStep)
		refuses(t, "a[/"+f.name+"()]", 3, api.ErrStep)
		// What is wrong within, or with the bracket, goes ahead of how many there are.
		refuses(t, "a["+f.name+"(1, 2, 3", 2+len(f.name), api.ErrOpen)
		refuses(t, "a["+f.name+"(1, 2, 3]", 10+len(f.name), api.ErrForm)
		refuses(t, "a["+f.name+"(1, 2, 03)]", 9+len(f.name), api.ErrForm)
	}
	for _, word := range []string{"True", "count-", "child", "or", "id", "string-length", long(api.MaxName + 1)} {
		refuses(t, "a["+word+"()]", 2, api.ErrStep)
		refuses(t, "a["+word+"(1)]", 2, api.ErrStep)
		refuses(t, word+"()", 0, api.ErrStep)
	}
}

// P13.1: what is wrong, and where.
func TestParseWrong(t *testing.T) {
	longer := long(api.MaxName + 1)
	for _, x := range []struct {
		s  string
		at int
		e  api.Errno
	}{
		// something must come
		{"", 0, api.ErrShort}, {"  ", 2, api.ErrShort}, {"//", 2, api.ErrShort}, {"a/", 2, api.ErrShort}, {"a/ ", 3, api.ErrShort}, {"a//", 3, api.ErrShort}, {"a|", 2, api.ErrShort}, {"a | ", 4, api.ErrShort}, {"/ |", 3, api.ErrShort},
		{"child::", 7, api.ErrShort}, {"child:: ", 8, api.ErrShort}, {"a[", 2, api.ErrShort}, {"a[ ", 3, api.ErrShort}, {"a[b/", 4, api.ErrShort}, {"a[//", 4, api.ErrShort}, {"a[b|", 4, api.ErrShort}, {"a[self::", 8, api.ErrShort},
		{"a[1 or", 6, api.ErrShort}, {"a[1 and ", 8, api.ErrShort}, {"a[1 =", 5, api.ErrShort}, {"a[1 <= ", 7, api.ErrShort}, {"a[(", 3, api.ErrShort}, {"a[((", 4, api.ErrShort}, {"a[@", 3, api.ErrShort}, {"a[@ ", 4, api.ErrShort},
		{"a[not(", 6, api.ErrShort}, {"a[true( ", 8, api.ErrShort}, {"a[contains(1,", 13, api.ErrShort}, {"a[b[", 4, api.ErrShort},
		// what begins nothing that may stand there
		{"@id", 0, api.ErrForm}, {"|a", 0, api.ErrForm}, {"1", 0, api.ErrForm}, {"'a'", 0, api.ErrForm}, {"[1]", 0, api.ErrForm}, {"(a)", 0, api.ErrForm}, {"]", 0, api.ErrForm}, {"-a", 0, api.ErrForm}, {"é", 0, api.ErrForm}, {"\x00", 0, api.ErrForm}, {"\xff", 0, api.ErrForm}, {"=", 0, api.ErrForm}, {"::a", 0, api.ErrForm}, {" \v", 1, api.ErrForm}, {"$a", 0, api.ErrForm},
		{"a||b", 2, api.ErrForm}, {"a/ /b", 3, api.ErrForm}, {"a/ //b", 3, api.ErrForm}, {"a///b", 3, api.ErrForm}, {"///a", 2, api.ErrForm}, {"// /a", 3, api.ErrForm}, {"a/@b", 2, api.ErrForm}, {"a/1", 2, api.ErrForm}, {"a/[1]", 2, api.ErrForm}, {"a/(b)", 2, api.ErrForm}, {"//@a", 2, api.ErrForm}, {"a/|b", 2, api.ErrForm}, {"a//\x00", 3, api.ErrForm}, {"//text()[contains(., \"x\")] | ../@id", 32, api.ErrForm},
		{"child::.", 7, api.ErrForm}, {"child::..", 7, api.ErrForm}, {"child::@a", 7, api.ErrForm}, {"child::1", 7, api.ErrForm}, {"child::/a", 7, api.ErrForm}, {"child::::a", 7, api.ErrForm}, {"child::[1]", 7, api.ErrForm}, {"child::é", 7, api.ErrForm},
		{"text(1)", 5, api.ErrForm}, {"text(a)", 5, api.ErrForm}, {"node(]", 5, api.ErrForm}, {"node(()", 5, api.ErrForm}, {"text( \x00)", 6, api.ErrForm},
		{"a[]", 2, api.ErrForm}, {"a[ ]", 3, api.ErrForm}, {"a[)", 2, api.ErrForm}, {"a[,", 2, api.ErrForm}, {"a[|", 2, api.ErrForm}, {"a[=1]", 2, api.ErrForm}, {"a[-1]", 2, api.ErrForm}, {"a[!b]", 2, api.ErrForm}, {"a[[", 2, api.ErrForm}, {"a[é]", 2, api.ErrForm}, {"a[:b]", 2, api.ErrForm}, {"a[\xc3]", 2, api.ErrForm},
		{"a[1 2]", 4, api.ErrForm}, {"a[b c]", 4, api.ErrForm}, {"a[b orc]", 4, api.ErrForm}, {"a[b or-c]", 4, api.ErrForm}, {"a[b OR c]", 4, api.ErrForm}, {"a[1 and2]", 4, api.ErrForm}, {"a[/ or b]", 7, api.ErrForm}, {"a[/ and b]", 8, api.ErrForm}, {"a[b = / or c]", 11, api.ErrForm}, {"a[1a]", 3, api.ErrForm}, {"a[1.5]", 3, api.ErrForm}, {"a[.5]", 3, api.ErrForm}, {"a[5.]", 3, api.ErrForm},
		{"a[1)", 3, api.ErrForm}, {"a[(1]", 4, api.ErrForm}, {"a[(1 2)]", 5, api.ErrForm}, {"a[(b, c)]", 4, api.ErrForm}, {"a[b, c]", 3, api.ErrForm}, {"a[()]", 3, api.ErrForm}, {"a[(b)/c]", 5, api.ErrForm}, {"a[(b)|c]", 5, api.ErrForm}, {"a[(b)[1]]", 5, api.ErrForm}, {"a[1/b]", 3, api.ErrForm}, {"a['x'/b]", 5, api.ErrForm}, {"a[@b/c]", 4, api.ErrForm}, {"a[@b|c]", 4, api.ErrForm}, {"a[1|b]", 3, api.ErrForm}, {"a[b|1]", 4, api.ErrForm}, {"a[b|@c]", 4, api.ErrForm}, {"a[not(b)/c]", 8, api.ErrForm}, {"a[not(b)[1]]", 8, api.ErrForm}, {"a[1[1]]", 3, api.ErrForm},
		{"a[/ /b]", 4, api.ErrForm}, {"a[/[1]]", 3, api.ErrForm}, {"a[/@b]", 3, api.ErrForm}, {"a[.[1]]", 3, api.ErrForm}, {"a[..[1]]", 4, api.ErrForm}, {"a[. .]", 4, api.ErrForm}, {"a[...]", 4, api.ErrForm}, {"a[.b]", 3, api.ErrForm}, {"a[* *]", 4, api.ErrForm},
		{"a[1 = 2 = 3]", 8, api.ErrForm}, {"a[1 = 2 < 3]", 8, api.ErrForm}, {"a[1 == 2]", 5, api.ErrForm}, {"a[1 < = 2]", 6, api.ErrForm}, {"a[1 ! = 2]", 4, api.ErrForm}, {"a[1 !2]", 4, api.ErrForm}, {"a[1 !", 4, api.ErrForm}, {"a[1 =!2]", 5, api.ErrForm}, {"a[1 <> 2]", 5, api.ErrForm}, {"a[1 => 2]", 5, api.ErrForm}, {"a[1 or = 2", 7, api.ErrForm}, {"a[1 or )", 7, api.ErrForm}, {"a[1 and ]", 8, api.ErrForm}, {"a[1 = ]", 6, api.ErrForm},
		{"a[not(,1)]", 6, api.ErrForm}, {"a[not(1,)]", 8, api.ErrForm}, {"a[not(1 2)]", 8, api.ErrForm}, {"a[not(1]", 7, api.ErrForm}, {"a[not(]", 6, api.ErrForm}, {"a[not(1,,2)]", 8, api.ErrForm}, {"a[not(1;2)]", 7, api.ErrForm},
		{"a[@1]", 3, api.ErrForm}, {"a[@@b]", 3, api.ErrForm}, {"a[@*]", 3, api.ErrForm}, {"a[@'b']", 3, api.ErrForm}, {"a[@]", 3, api.ErrForm}, {"a[@text()]", 7, api.ErrForm}, {"a[@b::c]", 4, api.ErrForm}, {"a[@/b]", 3, api.ErrForm}, {"a[@-b]", 3, api.ErrForm},
		{"a[b:c]", 3, api.ErrForm}, {"a[child: :b]", 7, api.ErrForm}, {"a[child::b::c]", 10, api.ErrForm}, {"a[child::child::c]", 14, api.ErrForm}, {"a[*::b]", 3, api.ErrForm},
		// numbers
		{"a[01]", 2, api.ErrForm}, {"a[00]", 2, api.ErrForm}, {"a[1000000000]", 2, api.ErrForm}, {"a[ 0999999999 ]", 3, api.ErrForm}, {"a[" + strings.Repeat("9", 40) + "]", 2, api.ErrForm}, {"a[1 = 007]", 6, api.ErrForm}, {"a[01", 2, api.ErrForm}, {"a[00000000000000000000000000001]", 2, api.ErrForm},
		// steps that can't be
		{"foo::a", 0, api.ErrStep}, {"a/foo :: a", 2, api.ErrStep}, {"foo::", 0, api.ErrStep}, {"foo()", 0, api.ErrStep}, {"a | foo (", 4, api.ErrStep}, {"child::foo()", 7, api.ErrStep}, {"child :: foo(", 9, api.ErrStep}, {"a[b or or(c)]", 7, api.ErrStep}, {"a[or (b)]", 2, api.ErrStep}, {"a[Text()]", 2, api.ErrStep}, {"a[.//text2()]", 5, api.ErrStep}, {longer + "::a", 0, api.ErrStep}, {longer + "()", 0, api.ErrStep},
		{"a[count()]", 2, api.ErrStep}, {"a[count(b, c)]", 2, api.ErrStep}, {"a[ true(1)]", 3, api.ErrStep}, {"a[not(true(1), 2, 3)]", 6, api.ErrStep}, {"a[count(b, c)", 2, api.ErrStep}, {"a[count(b, c)\x00", 2, api.ErrStep},
		// names
		{longer, 0, api.ErrName}, {" a/" + longer, 3, api.ErrName}, {"child::" + longer, 7, api.ErrName}, {"a[@" + longer + "]", 3, api.ErrName}, {"a[@ " + longer, 4, api.ErrName}, {"a[" + longer + "]", 2, api.ErrName}, {longer + "\x00", 0, api.ErrName}, {"a|" + long(4000), 2, api.ErrName},
		// quotes
		{"a['", 2, api.ErrOpen}, {"a[\"x]", 2, api.ErrOpen}, {"a['x\"]", 2, api.ErrOpen}, {"a[1 = 'x]", 6, api.ErrOpen}, {"a[not(\"\x00", 6, api.ErrOpen}, {"a[''']", 4, api.ErrForm},
		{"a['\x00']", 2, api.ErrText}, {"a[\"x\xff\"]", 2, api.ErrText}, {"a[1 = 'x\x1f'", 6, api.ErrText}, {"a['\xc0\x80']", 2, api.ErrText}, {"a['\xed\xa0\x80']", 2, api.ErrText}, {"a['\uffff'", 2, api.ErrText}, {"a['é\xc3']", 2, api.ErrText},
		{"a['x' 'y']", 6, api.ErrForm}, {"a['x'y]", 5, api.ErrForm},
		// brackets
		{"text(", 4, api.ErrOpen}, {"node ( ", 5, api.ErrOpen}, {"a[1", 1, api.ErrOpen}, {"a[1 ", 1, api.ErrOpen}, {"a [b", 2, api.ErrOpen}, {"a[text()", 1, api.ErrOpen}, {"a[text(", 6, api.ErrOpen}, {"a[(1", 2, api.ErrOpen}, {"a[(1)", 1, api.ErrOpen}, {"a[not(1", 5, api.ErrOpen}, {"a[not (1, 2 ", 6, api.ErrOpen}, {"a[not(1)", 1, api.ErrOpen}, {"a[b[c", 3, api.ErrOpen}, {"a[b[c]", 1, api.ErrOpen}, {"a[1][2", 4, api.ErrOpen}, {"a[/", 1, api.ErrOpen}, {"a[.", 1, api.ErrOpen}, {"a[b/c", 1, api.ErrOpen}, {"a[b | c", 1, api.ErrOpen}, {"a[1 = 2", 1, api.ErrOpen}, {"a[1 or 2", 1, api.ErrOpen}, {"a[@b", 1, api.ErrOpen}, {"a['x'", 1, api.ErrOpen}, {"a[not", 1, api.ErrOpen}, {"a[((1) and (2)", 2, api.ErrOpen}, {"a[or", 1, api.ErrOpen},
		// behind the whole
		{"a = b", 2, api.ErrMore}, {"a b", 2, api.ErrMore}, {"a]", 1, api.ErrMore}, {"a)", 1, api.ErrMore}, {"a ,", 2, api.ErrMore}, {"a or b", 2, api.ErrMore}, {"a[1] [2] 3", 9, api.ErrMore}, {"a[1]]", 4, api.ErrMore}, {"/ /a", 2, api.ErrMore}, {"/ //a", 2, api.ErrMore}, {"/[1]", 1, api.ErrMore}, {"/@a", 1, api.ErrMore}, {"/1", 1, api.ErrMore}, {".[1]", 1, api.ErrMore}, {"..[1]", 2, api.ErrMore}, {"...", 2, api.ErrMore}, {". .", 2, api.ErrMore}, {".a", 1, api.ErrMore}, {"..a", 2, api.ErrMore}, {".text()", 1, api.ErrMore}, {"a:b", 1, api.ErrMore}, {"child: :a", 5, api.ErrMore}, {"child::a::b", 8, api.ErrMore}, {"child::child::a", 12, api.ErrMore}, {"*a", 1, api.ErrMore}, {"**", 1, api.ErrMore}, {"*::a", 1, api.ErrMore}, {"text()()", 6, api.ErrMore}, {"text()a", 6, api.ErrMore}, {"a é", 2, api.ErrMore}, {"aé", 1, api.ErrMore}, {"a\x00", 1, api.ErrMore}, {"a \xff", 2, api.ErrMore}, {"a'x'", 1, api.ErrMore}, {"a\v", 1, api.ErrMore}, {"a\u00a0", 1, api.ErrMore}, {"a@b", 1, api.ErrMore}, {"a\"", 1, api.ErrMore},
	} {
		refuses(t, x.s, x.at, x.e)
		if q, at, e := wantParse(x.s); len(q.Paths) > 0 || at != x.at || e != x.e {
			t.Errorf("by the words %q: %d, %d; want %d, %d", x.s, at, e, x.at, x.e)
		}
		if strings.HasPrefix(x.s, "a[") {
			// What stands ahead moves the place, and changes nothing else.
			refuses(t, "//b/ "+x.s, x.at+5, x.e)
			refuses(t, "c|d['é'] | "+x.s, x.at+12, x.e)
		}
		if x.e != api.ErrShort && x.e != api.ErrOpen {
			refuses(t, x.s+" ", x.at, x.e)
		}
	}
}
