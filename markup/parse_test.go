package markup_test

import (
	"slices"
	"strings"
	"testing"

	"espalier/api"
	"espalier/markup"
)

// P4.1: what can be read.
func TestParseReads(t *testing.T) {
	for _, x := range []struct {
		s    string
		want []api.Tree
	}{
		{"", nil},
		{"<a b='1'>x<!-- y -->z<c/></a>", forest(with(el("a", text("xz"), el("c")), at("b", "1")))},
		{"x", forest(text("x"))},
		{" \t\r\n", forest(text(" \t\r\n"))},
		{"é€\U0001f333\u007f\u0080\ud7ff\ue000\ufffd\U0010ffff", forest(text("é€\U0001f333\u007f\u0080\ud7ff\ue000\ufffd\U0010ffff"))},
		{"a>b\"c'd;e]]>f-->g?>h/>i", forest(text("a>b\"c'd;e]]>f-->g?>h/>i"))},
		{"&amp;&lt;&gt;&quot;&apos;", forest(text("&<>\"'"))},
		{"&#65;&#x42;&#0000067;&#x00044;&#1114111;&#x10ffff;&#x10FFFF;", forest(text("ABCD\U0010ffff\U0010ffff\U0010ffff"))},
		{"&#13;&#10;&#9;&#32;", forest(text("\r\n\t "))},
		{"&amp;amp;&amp;#65;", forest(text("&amp;&#65;"))},
		{"<a/>", forest(el("a"))},
		{"<a></a>", forest(el("a"))},
		{"<a/><b/>", forest(el("a"), el("b"))},
		{"x<a/>y<b/>z", forest(text("x"), el("a"), text("y"), el("b"), text("z"))},
		{"<a><b><c>x</c></b></a>", forest(el("a", el("b", el("c", text("x")))))},
		{"<a><a><a/></a><a/></a>", forest(el("a", el("a", el("a")), el("a")))},
		{"<a \t\r\n></a \t\r\n>", forest(el("a"))},
		{"<a />", forest(el("a"))},
		{"<a\n/>", forest(el("a"))},
		{"<a b=''/>", forest(with(el("a"), at("b", "")))},
		{"<a b='\"' c=\"'\"/>", forest(with(el("a"), at("b", "\""), at("c", "'")))},
		{"<a \t\r\n b='1'  c=\"2\" ></a>", forest(with(el("a"), at("b", "1"), at("c", "2")))},
		{"<a c='1' B='2' _='3' b='4' aa='5' a='6'/>", forest(with(el("a"), at("B", "2"), at("_", "3"), at("a", "6"), at("aa", "5"), at("b", "4"), at("c", "1")))},
		{"<a b='&lt;&amp;&apos;&#39;&#x27;>/>' c='\n\t\r '/>", forest(with(el("a"), at("b", "<&'''>/>"), at("c", "\n\t\r ")))},
		{"<a b='é\U0001f333'/>", forest(with(el("a"), at("b", "é\U0001f333")))},
		{"<" + long(api.MaxName) + "/>", forest(el(long(api.MaxName)))},
		{"<a " + long(api.MaxName) + "='v'/>", forest(with(el("a"), at(long(api.MaxName), "v")))},
		{"<_-.9/><Z/>", forest(el("_-.9"), el("Z"))},
		{"<xml/>", forest(el("xml"))},
	} {
		reads(t, x.s, x.want)
	}
}

// P4.1: remarks are nothing, whatever stands in them; what is around them is one text.
func TestParseRemarks(t *testing.T) {
	for _, x := range []struct {
		s    string
		want []api.Tree
	}{
		{"<!---->", nil},
		{"<!-- -->", nil},
		{"<!-- \x00\xff & < <a> </b> -- --->", nil},
		{"<!----->x", forest(text("x"))},
		{"<!--x-->-->", forest(text("-->"))},
		{"<!--><a/>-->y", forest(text("y"))},
		{"<!---><a/>-->y", forest(text("y"))},
		{"<!--<!---->-->", forest(text("-->"))},
		{"<??>", nil},
		{"<?>?>y", forest(text("y"))},
		{"<?xml version='1.0'?>", nil},
		{"<? \x00\xff & < <a> </b> --> ? >?>x", forest(text("x"))},
		{"<?a?b?>?>", forest(text("?>"))},
		{"a<!---->b<??>c", forest(text("abc"))},
		{"<!---->a<??>", forest(text("a"))},
		{"a<!-- <b/> --><b/><?c?>d", forest(text("a"), el("b"), text("d"))},
		{"<a><!-- --></a>", forest(el("a"))},
		{"<a><?b?><!--c--><?d?></a>", forest(el("a"))},
	} {
		reads(t, x.s, x.want)
	}
}

// P4.1: raw text is text as it stands.
func TestParseRaw(t *testing.T) {
	for _, x := range []struct {
		s    string
		want []api.Tree
	}{
		{"<![CDATA[]]>", nil},
		{"<![CDATA[x]]>", forest(text("x"))},
		{"<![CDATA[<a>&amp;&</b><!-- --><?x?>]]>", forest(text("<a>&amp;&</b><!-- --><?x?>"))},
		{"<![CDATA[]]]>", forest(text("]"))},
		{"<![CDATA[]]]]>", forest(text("]]"))},
		{"<![CDATA[]] >]>]]>", forest(text("]] >]>"))},
		{"<![CDATA[<![CDATA[]]>]]>", forest(text("<![CDATA[]]>"))},
		{"<![CDATA[é\U0001f333\r\n]]>", forest(text("é\U0001f333\r\n"))},
		{"a<![CDATA[b]]>c&lt;<![CDATA[<]]>", forest(text("abc<<"))},
		{"a<![CDATA[]]>b", forest(text("ab"))},
		{"<![CDATA[a]]><![CDATA[b]]>", forest(text("ab"))},
		{"<![CDATA[a]]><!--x--><![CDATA[b]]>", forest(text("ab"))},
		{"<a><![CDATA[]]></a>", forest(el("a"))},
		{"<a><![CDATA[]]><b/><![CDATA[]]></a><![CDATA[]]>", forest(el("a", el("b")))},
		{"<![CDATA[a]]><b/><![CDATA[c]]>", forest(text("a"), el("b"), text("c"))},
	} {
		reads(t, x.s, x.want)
	}
}

// P4.1: what is wrong in texts.
func TestParseWrongText(t *testing.T) {
	for _, x := range []struct {
		s  string
		at int
		e  api.Errno
	}{
		{"\x00", 0, api.ErrText}, {"a\x1f", 1, api.ErrText}, {"é\xff", 2, api.ErrText}, {"a\xc3", 1, api.ErrText}, {"a\xc3<b/>", 1, api.ErrText},
		{"\xc0\x80", 0, api.ErrText}, {"\xed\xa0\x80", 0, api.ErrText}, {"\xef\xbf\xbe", 0, api.ErrText}, {"\xf4\x90\x80\x80", 0, api.ErrText}, {"\x80", 0, api.ErrText},
		{"<a>\x0b</a>", 3, api.ErrText}, {"<a/>\x0c", 4, api.ErrText},
		{"a&b", 1, api.ErrRef}, {"&;", 0, api.ErrRef}, {"&#;", 0, api.ErrRef}, {"&#x;", 0, api.ErrRef}, {"&AMP;", 0, api.ErrRef}, {"&amp", 0, api.ErrShort}, {"&ampx", 0, api.ErrRef}, {"& ", 0, api.ErrRef},
		{"x&", 1, api.ErrShort}, {"x&a", 1, api.ErrShort}, {"x&ap", 1, api.ErrShort}, {"x&apo", 1, api.ErrShort}, {"x&quo", 1, api.ErrShort}, {"x&#", 1, api.ErrShort}, {"x&#x", 1, api.ErrShort},
		{"&#1234567", 0, api.ErrShort}, {"&#12345678", 0, api.ErrRef}, {"&#12345678;", 0, api.ErrRef}, {"&#x123456", 0, api.ErrShort}, {"&#x1234567", 0, api.ErrRef}, {"&#X41;", 0, api.ErrRef}, {"&#x4g;", 0, api.ErrRef}, {"&#4a;", 0, api.ErrRef},
		{"&#0;", 0, api.ErrText}, {"a&#x0;", 1, api.ErrText}, {"&#55296;", 0, api.ErrText}, {"&#xFFFE;", 0, api.ErrText}, {"&#9999999;", 0, api.ErrText}, {"&#1114112;", 0, api.ErrText}, {"&#xffffff;", 0, api.ErrText}, {"&#11;", 0, api.ErrText},
		{"&am<b/>", 0, api.ErrRef}, {"<a>&am</a>", 3, api.ErrRef}, {"<a>&lt", 3, api.ErrShort}, {"&lt;&gt;&x;", 8, api.ErrRef}, {"&&amp;", 0, api.ErrRef}, {"&am<!-- -->p;", 0, api.ErrRef}, {"&#6<![CDATA[5]]>;", 0, api.ErrRef},
		{"<![CDATA[\x00]]>", 9, api.ErrText}, {"<![CDATA[aé\xff]]>", 12, api.ErrText}, {"x<![CDATA[\xc3]]>", 10, api.ErrText}, {"<![CDATA[\xe2\x82]]>", 9, api.ErrText},
		{"<![CDATA[", 0, api.ErrShort}, {"a<![CDATA[b", 1, api.ErrShort}, {"<![CDATA[b]]", 0, api.ErrShort}, {"<![CDATA[\x00", 0, api.ErrShort}, {"<![CDATA[]>", 0, api.ErrShort}, {"<![CDATA[]] >", 0, api.ErrShort},
		{"<a><![CDATA[</a>", 3, api.ErrShort}, {"<![CDATA[x]]><![CDATA[", 13, api.ErrShort},
		{"<!--", 0, api.ErrShort}, {"a<!-- ", 1, api.ErrShort}, {"<!-->", 0, api.ErrShort}, {"<!--->", 0, api.ErrShort}, {"<!-- --", 0, api.ErrShort}, {"<!-- -- >", 0, api.ErrShort}, {"<!-- ->", 0, api.ErrShort}, {"<a><!--</a>", 3, api.ErrShort},
		{"<?", 0, api.ErrShort}, {"a<?b", 1, api.ErrShort}, {"<?>", 0, api.ErrShort}, {"<? ?", 0, api.ErrShort}, {"<? ? >", 0, api.ErrShort}, {"<? >", 0, api.ErrShort},
	} {
		refuses(t, x.s, x.at, x.e)
	}
}

// P4.1: what is wrong in tags.
func TestParseWrongTags(t *testing.T) {
	longer := long(api.MaxName + 1)
	for _, x := range []struct {
		s  string
		at int
		e  api.Errno
	}{
		// behind <
		{"<", 0, api.ErrShort}, {"a<", 1, api.ErrShort}, {"<!", 0, api.ErrShort}, {"<!-", 0, api.ErrShort}, {"<![", 0, api.ErrShort}, {"<![C", 0, api.ErrShort}, {"<![CDATA", 0, api.ErrShort}, {"<a><![CDAT", 3, api.ErrShort},
		{"<1>", 0, api.ErrForm}, {"< a>", 0, api.ErrForm}, {"<>", 0, api.ErrForm}, {"<<a>", 0, api.ErrForm}, {"<-a>", 0, api.ErrForm}, {"<.a>", 0, api.ErrForm}, {"<é>", 0, api.ErrForm}, {"<\x00", 0, api.ErrForm}, {"x<=", 1, api.ErrForm}, {"<&", 0, api.ErrForm},
		{"<!x", 0, api.ErrForm}, {"<!-x", 0, api.ErrForm}, {"<!a>", 0, api.ErrForm}, {"<!DOCTYPE a>", 0, api.ErrForm}, {"<![cdata[x]]>", 0, api.ErrForm}, {"<![CDATA x", 0, api.ErrForm}, {"<![x", 0, api.ErrForm}, {"<! --", 0, api.ErrForm},
		// names
		{"<" + longer + "/>", 1, api.ErrName}, {"x<" + longer, 2, api.ErrName}, {"<a " + longer + "='v'/>", 3, api.ErrName}, {"<a " + longer, 3, api.ErrName}, {"<a></" + longer + ">", 5, api.ErrName}, {"</" + longer, 2, api.ErrName},
		{"<" + long(1000) + "\x00", 1, api.ErrName},
		// behind an element's name
		{"<a", 2, api.ErrShort}, {"<a ", 3, api.ErrShort}, {"<a \n", 4, api.ErrShort}, {"<a/", 3, api.ErrShort}, {"<a /", 4, api.ErrShort}, {"<a b='1'", 8, api.ErrShort}, {"<a b='1' ", 9, api.ErrShort}, {"<a b='1'/", 9, api.ErrShort},
		{"<a/ >", 3, api.ErrForm}, {"<a//>", 3, api.ErrForm}, {"<a/b>", 3, api.ErrForm}, {"<a /b>", 4, api.ErrForm}, {"<a b='1'/c", 9, api.ErrForm}, {"<a/\x00", 3, api.ErrForm},
		{"<a=", 2, api.ErrForm}, {"<a:b/>", 2, api.ErrForm}, {"<aé/>", 2, api.ErrForm}, {"<a\x00/>", 2, api.ErrForm}, {"<a<b/>", 2, api.ErrForm}, {"<a&amp;", 2, api.ErrForm}, {"<a\"", 2, api.ErrForm}, {"<a\u00a0/>", 2, api.ErrForm}, {"<a\x0b/>", 2, api.ErrForm},
		{"<a =", 3, api.ErrForm}, {"<a 1='x'>", 3, api.ErrForm}, {"<a -b='x'>", 3, api.ErrForm}, {"<a <b/>", 3, api.ErrForm}, {"<a 'x'>", 3, api.ErrForm}, {"<a é='x'>", 3, api.ErrForm}, {"<a \x00", 3, api.ErrForm}, {"<a &", 3, api.ErrForm},
		{"<a x='1'y='2'/>", 8, api.ErrForm}, {"<a x=\"1\"y", 8, api.ErrForm}, {"<a x='1'1", 8, api.ErrForm}, {"<a x='1''", 8, api.ErrForm}, {"<a x='1'=", 8, api.ErrForm}, {"<a x='1'<", 8, api.ErrForm}, {"<a x='1' 2='3'>", 9, api.ErrForm},
		// attributes
		{"<a b", 4, api.ErrShort}, {"<a b>", 4, api.ErrForm}, {"<a b/>", 4, api.ErrForm}, {"<a b ='1'>", 4, api.ErrForm}, {"<a b c='1'>", 4, api.ErrForm}, {"<a b:c='1'>", 4, api.ErrForm}, {"<a b\x00", 4, api.ErrForm}, {"<a b'1'>", 4, api.ErrForm},
		{"<a b=", 5, api.ErrShort}, {"<a b=1>", 5, api.ErrForm}, {"<a b= '1'>", 5, api.ErrForm}, {"<a b=>", 5, api.ErrForm}, {"<a b=/>", 5, api.ErrForm}, {"<a b==''>", 5, api.ErrForm}, {"<a b=&quot;", 5, api.ErrForm}, {"<a b=<", 5, api.ErrForm}, {"<a b=`x`>", 5, api.ErrForm},
		{"<a b='", 6, api.ErrShort}, {"<a b=\"", 6, api.ErrShort}, {"<a b='x", 7, api.ErrShort}, {"<a b='x\">", 9, api.ErrShort}, {"<a b=\"x'>", 9, api.ErrShort}, {"<a b='é", 8, api.ErrShort}, {"<a b='&amp;", 11, api.ErrShort},
		{"<a b='<'>", 6, api.ErrForm}, {"<a b='x<!-- -->'>", 7, api.ErrForm}, {"<a b='<", 6, api.ErrForm}, {"<a b='<![CDATA[x]]>'/>", 6, api.ErrForm}, {"<a b='&lt;<", 10, api.ErrForm},
		{"<a b='\x00'>", 6, api.ErrText}, {"<a b='x\xff", 7, api.ErrText}, {"<a b='\xc3'>", 6, api.ErrText}, {"<a b='&#0;'>", 6, api.ErrText}, {"<a b='x&#xd800;'>", 7, api.ErrText},
		{"<a b='&'>", 6, api.ErrRef}, {"<a b='&am'>", 6, api.ErrRef}, {"<a b='x&amp'", 7, api.ErrRef}, {"<a b='&x;'>", 6, api.ErrRef}, {"<a b='&am", 6, api.ErrShort}, {"<a b='x&", 7, api.ErrShort}, {"<a b='&#x4", 6, api.ErrShort},
		{"<a b='1' b='2'>", 9, api.ErrAttr}, {"<a b='1' c='2' b='3'>", 15, api.ErrAttr}, {"<a b='1' b", 9, api.ErrAttr}, {"<a b='1' b=2", 9, api.ErrAttr}, {"<a b='1' c='2' c>", 15, api.ErrAttr}, {"<a b='1' B='2' b='\x00'", 15, api.ErrAttr},
		// ends
		{"</", 2, api.ErrShort}, {"<a></", 5, api.ErrShort}, {"x</", 3, api.ErrShort}, {"</>", 2, api.ErrForm}, {"<a></>", 5, api.ErrForm}, {"<a></ a>", 5, api.ErrForm}, {"</1", 2, api.ErrForm}, {"</\x00", 2, api.ErrForm}, {"</é>", 2, api.ErrForm}, {"<a><//a>", 5, api.ErrForm}, {"<a></-", 5, api.ErrForm},
		{"</a>", 0, api.ErrClose}, {"</a", 0, api.ErrClose}, {"x</a>", 1, api.ErrClose}, {"<a/></a>", 4, api.ErrClose}, {"<a></b>", 3, api.ErrClose}, {"<a></b", 3, api.ErrClose}, {"<a></b x", 3, api.ErrClose}, {"<a></A>", 3, api.ErrClose}, {"<a></aa>", 3, api.ErrClose}, {"<aa></a>", 4, api.ErrClose},
		{"<a><b></a></b>", 6, api.ErrClose}, {"<a></a></a>", 7, api.ErrClose}, {"<a>xy</b>", 5, api.ErrClose}, {"<a><b/></b>", 7, api.ErrClose},
		{"<a></a", 6, api.ErrShort}, {"<a></a ", 7, api.ErrShort}, {"<a></a\n\t", 8, api.ErrShort}, {"<a></a/>", 6, api.ErrForm}, {"<a></a x>", 7, api.ErrForm}, {"<a></a b='1'>", 7, api.ErrForm}, {"<a></a<", 6, api.ErrForm}, {"<a></a\x00", 6, api.ErrForm}, {"<a></aé>", 6, api.ErrForm},
		{"<a>", 3, api.ErrShort}, {"<a>x", 4, api.ErrShort}, {"<a><b>", 6, api.ErrShort}, {"<a><b></b>", 10, api.ErrShort}, {"<a><!-- -->", 11, api.ErrShort}, {"<a></a><b>é", 12, api.ErrShort},
	} {
		refuses(t, x.s, x.at, x.e)
		// What stands ahead moves the place, and changes nothing else.
		refuses(t, "<z>é</z>"+x.s, x.at+9, x.e)
		if x.e != api.ErrShort && x.e != api.ErrClose {
			refuses(t, "<z>"+x.s, x.at+3, x.e)
			refuses(t, x.s+"\x00", x.at, x.e)
		}
	}
}

// P4.1: where nothing is open, no name is the right one.
func TestParseNothingToEnd(t *testing.T) {
	for b := range 256 {
		c := string([]byte{byte(b)})
		why, place := api.ErrForm, 2
		if strings.Contains("abcdefghijklmnopqrstuvwxyzABCDEFGHIJKLMNOPQRSTUVWXYZ_", c) {
			why, place = api.ErrClose, 0
		}
		refuses(t, "</"+c+">", place, why)
		refuses(t, "<a></a></"+c, 7+place, why)
	}
	for _, n := range names() {
		refuses(t, "</"+n+">", 0, api.ErrClose)
	}
}

// P4.1: the first thing from the left tells.
func TestParseFirst(t *testing.T) {
	faults := []struct {
		s string
		e api.Errno
	}{{"\x00", api.ErrText}, {"&x", api.ErrRef}, {"<1", api.ErrForm}, {"</a>", api.ErrClose}, {"<a b='' c=' ' b=''>", api.ErrAttr}}
	for _, x := range faults {
		_, place, e := markup.Parse(x.s + " ")
		if e != x.e {
			t.Errorf("%q: %d, %d", x.s, place, e)
		}
		for _, y := range faults {
			refuses(t, x.s+y.s, place, x.e)
			refuses(t, "x<a/>"+x.s+"<b>"+y.s+"</c>", place+5, x.e)
		}
	}
}

// P4.1: how many bytes.
func TestParseBytes(t *testing.T) {
	remark := "<!--" + long(api.MaxBytes-7) + "-->"
	reads(t, remark, nil)
	refuses(t, remark+" ", 0, api.ErrLong)
	refuses(t, "\x00"+remark, 0, api.ErrLong)
	refuses(t, strings.Repeat("<", api.MaxBytes+1), 0, api.ErrLong)
	refuses(t, strings.Repeat("<", api.MaxBytes), 0, api.ErrForm)
	refuses(t, strings.Repeat("<", 10*api.MaxBytes), 0, api.ErrLong)
	reads(t, "<a/>"+remark[:len(remark)-7]+"-->", forest(el("a")))
}

// P4.1: how long a text may become, whatever it is made of.
func TestParseTextLength(t *testing.T) {
	most := long(api.MaxText)
	less := long(api.MaxText - 1)
	raw := func(s string) string { return "<![CDATA[" + s + "]]>" }
	reads(t, most, forest(text(most)))
	reads(t, raw(most), forest(text(most)))
	reads(t, strings.Repeat("&#x10ffff;", api.MaxText/4), forest(text(strings.Repeat("\U0010ffff", api.MaxText/4))))
	reads(t, less+"<!-- -->"+raw("x")+"<!-- -->", forest(text(most)))
	reads(t, most+"<a/>"+most, forest(text(most), el("a"), text(most)))
	reads(t, most+raw(""), forest(text(most)))
	for _, x := range []struct {
		s  string
		at int
	}{
		{most + "x", api.MaxText},
		{most + "&lt;", api.MaxText},
		{most + "é", api.MaxText},
		{less + "é", api.MaxText - 1},
		{less + "&#233;", api.MaxText - 1},
		{most + "<!-- --><??>y", api.MaxText + 12},
		{most + raw("y"), api.MaxText + 9},
		{less + raw("y") + "z", api.MaxText - 1 + 13},
		{raw(most + "y"), 9 + api.MaxText},
		{raw(most) + "y", 12 + api.MaxText},
		{raw(most) + raw("") + raw("y"), 12 + api.MaxText + 12 + 9},
		// of raw text it is the byte
		{raw(less + "é"), 9 + api.MaxText},
		{raw(less + "\U0001f333"), 9 + api.MaxText},
		{raw(less[2:] + "\U0001f333"), 9 + api.MaxText},
		{less + raw("\U0001f333"), api.MaxText - 1 + 10},
		{strings.Repeat("&amp;", api.MaxText+1), 5 * api.MaxText},
		{"<a>" + most + "x</a>", 3 + api.MaxText},
		{most + "<a/>" + most + "x", api.MaxText + 4 + api.MaxText},
	} {
		refuses(t, x.s, x.at, api.ErrLong)
	}
	// What can't be is told ahead of what is too long.
	refuses(t, most+"\x00", api.MaxText, api.ErrText)
	refuses(t, most+"&x", api.MaxText, api.ErrRef)
	refuses(t, most+"&#0;", api.MaxText, api.ErrText)
	refuses(t, most+"&am", api.MaxText, api.ErrShort)
	refuses(t, raw(most+"\x00"), 9+api.MaxText, api.ErrText)
	refuses(t, raw(less+"\xc3"), 9+api.MaxText-1, api.ErrText)
	refuses(t, most+"<![CDATA[x", api.MaxText, api.ErrShort)
	refuses(t, raw(most+"x\x00"), 9+api.MaxText, api.ErrLong)
	refuses(t, most+"x\x00", api.MaxText, api.ErrLong)
}

// P4.1: how long a value may become, how many attributes there may be.
func TestParseAttrLimits(t *testing.T) {
	most := long(api.MaxText)
	reads(t, "<a b='"+most+"' c=\""+most+"\"/>", forest(with(el("a"), at("b", most), at("c", most))))
	refuses(t, "<a b='"+most+"x'/>", 6+api.MaxText, api.ErrLong)
	refuses(t, "<a b='"+most+"&lt;'/>", 6+api.MaxText, api.ErrLong)
	refuses(t, "<a b='"+most[1:]+"é'/>", 6+api.MaxText-1, api.ErrLong)
	refuses(t, "<a b='"+most[1:]+"&#233;'/>", 6+api.MaxText-1, api.ErrLong)
	refuses(t, "<a b='"+most+"<'/>", 6+api.MaxText, api.ErrForm)
	refuses(t, "<a b='"+most+"\x00'/>", 6+api.MaxText, api.ErrText)
	refuses(t, "<a b='"+most+"&#0;'/>", 6+api.MaxText, api.ErrText)
	refuses(t, "<a b='"+most, 6+api.MaxText, api.ErrShort)
	all := ""
	for _, a := range attrs(api.MaxAttrs) {
		all = " " + a.Name + "='" + a.Value + "'" + all
	}
	reads(t, "<a"+all+"/>", forest(with(el("a"), attrs(api.MaxAttrs)...)))
	reads(t, "<a"+all+"><b"+all+"/></a>", forest(with(el("a", with(el("b"), attrs(api.MaxAttrs)...)), attrs(api.MaxAttrs)...)))
	place := len("<a" + all + " ")
	refuses(t, "<a"+all+" z='1'/>", place, api.ErrLong)
	refuses(t, "<a"+all+" z", place, api.ErrLong)
	refuses(t, "<a"+all+" "+attrName(3)+"='v'/>", place, api.ErrLong)
	refuses(t, "<a"+all+" "+long(api.MaxName+1)+"='v'/>", place, api.ErrName)
	refuses(t, "<a"+all+" 1", place, api.ErrForm)
	refuses(t, "<a"+all+"z='1'", place-1, api.ErrForm)
	refuses(t, "<a"+all+" ", place, api.ErrShort)
}

// P4.1: how many nodes there may be: of a text that is one too many the first byte that it has tells.
func TestParseNodes(t *testing.T) {
	const ahead = 4 * api.MaxNodes
	full := strings.Repeat("<a/>", api.MaxNodes)
	reads(t, full, many(api.MaxNodes, el("a")))
	reads(t, full+"<!-- --><??><![CDATA[]]>", many(api.MaxNodes, el("a")))
	reads(t, strings.Repeat("x<a/>", api.MaxNodes/2), slices.Repeat(forest(text("x"), el("a")), api.MaxNodes/2))
	reads(t, full[4:]+"x<!-- -->y<![CDATA[z]]>", append(many(api.MaxNodes-1, el("a")), text("xyz")))
	reads(t, "<b>"+full[4:]+"</b >", forest(el("b", many(api.MaxNodes-1, el("a"))...)))
	for _, x := range []struct {
		s  string
		at int
	}{
		{"<a/>", 0}, {"<a", 0}, {"<" + long(api.MaxName+1), 0}, {"<a b='1' b='2'", 0}, {"x", 0}, {"é", 0}, {"&lt;", 0}, {"<!-- -->x", 8}, {"<![CDATA[x]]>", 9}, {"<![CDATA[]]><![CDATA[é]]>", 21}, {"<![CDATA[]]>x", 12}, {"<??>&#65;", 4}, {"<??><a>", 4}, {"x\x00", 0},
	} {
		refuses(t, full+x.s, ahead+x.at, api.ErrLong)
		refuses(t, strings.Repeat("<b>", 9)+full[:len(full)-36]+x.s, 27+ahead-36+x.at, api.ErrLong)
	}
	for _, x := range []struct {
		s  string
		at int
		e  api.Errno
	}{
		{"\x00", 0, api.ErrText}, {"&x", 0, api.ErrRef}, {"&", 0, api.ErrShort}, {"&#0;", 0, api.ErrText}, {"<", 0, api.ErrShort}, {"<1", 0, api.ErrForm}, {"<!--", 0, api.ErrShort}, {"<![CDATA[", 0, api.ErrShort}, {"<![CDATA[\xff]]>", 9, api.ErrText},
		{"</a>", 0, api.ErrClose}, {"</", 2, api.ErrShort}, {"<!-- -->\x00", 8, api.ErrText},
	} {
		refuses(t, full+x.s, ahead+x.at, x.e)
	}
}

// P4.1: how deep they may lie.
func TestParseDepth(t *testing.T) {
	const ahead = 3 * api.MaxDepth
	down, up := strings.Repeat("<c>", api.MaxDepth), strings.Repeat("</c>", api.MaxDepth)
	reads(t, down+up, forest(chain(api.MaxDepth, el("c"))))
	reads(t, down[3:]+"x"+up[4:], forest(chain(api.MaxDepth, text("x"))))
	reads(t, down+"<!-- --><??><![CDATA[]]>"+up, forest(chain(api.MaxDepth, el("c"))))
	reads(t, down+up+down+up+"x", forest(chain(api.MaxDepth, el("c")), chain(api.MaxDepth, el("c")), text("x")))
	reads(t, down[3:]+"<a/><b/>"+up[4:], forest(chain(api.MaxDepth-1, el("c", el("a"), el("b")))))
	for _, x := range []struct {
		s  string
		at int
		e  api.Errno
	}{
		{"<a/>", 0, api.ErrLong}, {"<a", 0, api.ErrLong}, {"<" + long(api.MaxName+1), 0, api.ErrLong}, {"x", 0, api.ErrLong}, {"&lt;", 0, api.ErrLong}, {"<!-- -->x", 8, api.ErrLong}, {"<![CDATA[x]]>", 9, api.ErrLong}, {"<??><a>", 4, api.ErrLong},
		{"\x00", 0, api.ErrText}, {"&x", 0, api.ErrRef}, {"<1", 0, api.ErrForm}, {"<", 0, api.ErrShort}, {"</b>", 0, api.ErrClose}, {"", 0, api.ErrShort},
	} {
		refuses(t, down+x.s, ahead+x.at, x.e)
		refuses(t, "x<a>y<b/></a>"+down+x.s, 13+ahead+x.at, x.e)
	}
	// P6: a text of starts alone is no deeper forest, but an error.
	refuses(t, strings.Repeat("<a>", api.MaxBytes/3), 3*api.MaxDepth, api.ErrLong)
}

// heldAgainstWords: Parse answers as the chapter's words do.
func heldAgainstWords(t *testing.T, s string) ([]api.Tree, api.Errno) {
	t.Helper()
	got, place, e := markup.Parse(s)
	want, wantPlace, wantE := wantParse(s)
	if place != wantPlace || e != wantE || !alike(got, want) {
		t.Fatalf("Parse(%q): %.300v, %d, %d; want %.300v, %d, %d", brief(s), got, place, e, want, wantPlace, wantE)
	}
	return got, e
}

// P4.1, P6: all short texts of parts of markup are read, or refused with the place, by the chapter's words.
func TestParseAllShort(t *testing.T) {
	parts := []string{"<", ">", "/", "a", "b", " ", "=", "'", "\"", "!", "-", "?", "&", ";", "#", "1", "é", "\x00", "</", "<a>", "</a>", "<a", "<!--", "-->", "<![CDATA[", "]]>", "<?", "?>", "&lt;", " b='1'", "\xc3"}
	var all func(s string, k int)
	all = func(s string, k int) {
		heldAgainstWords(t, s)
		if k > 0 {
			for _, p := range parts {
				all(s+p, k-1)
			}
		}
	}
	all("", 3)
	parts = []string{"<a", "b", "/", ">", " ", "=", "'", "<", "<!--", "-->"}
	all("", 5)
}

// P4.1: every byte, at every place of a markup that has all that there is.
func TestParseEveryByte(t *testing.T) {
	const all = "x<a b='1&lt;' c=\"é\" >y<!-- z --><b/>&#65;<![CDATA[é]]><?r?></a >"
	if _, e := heldAgainstWords(t, all); e != api.OK {
		t.Fatal(e)
	}
	for i := range len(all) + 1 {
		heldAgainstWords(t, all[:i])
		heldAgainstWords(t, all[i:])
		for b := range 256 {
			c := string([]byte{byte(b)})
			heldAgainstWords(t, all[:i]+c+all[i:])
			heldAgainstWords(t, all[:i]+c)
			if i < len(all) {
				heldAgainstWords(t, all[:i]+c+all[i+1:])
				heldAgainstWords(t, all[:i]+all[i+1:])
			}
		}
	}
}

// P4.1: markup in many forms, whole and spoiled.
func TestParseSpoiled(t *testing.T) {
	m := newMaker(4)
	fine := 0
	for range 6000 {
		s := m.write(m.forest(4))
		for range m.Intn(3) {
			s = m.spoil(s)
		}
		if _, e := heldAgainstWords(t, s); e == api.OK {
			fine++
		}
	}
	if fine < 1500 || fine > 4500 {
		t.Errorf("%d were fine", fine)
	}
}

// P4.1: near the limits, whole and spoiled.
func TestParseSpoiledAtLimits(t *testing.T) {
	m := newMaker(5)
	for range 150 {
		s := m.write(m.forest(3))
		switch m.Intn(4) {
		case 0:
			s += strings.Repeat("<a/>", api.MaxNodes-m.Intn(12)) + s
		case 1:
			s += strings.Repeat("<c>", api.MaxDepth-m.Intn(4)) + s
		case 2:
			s += long(api.MaxText-m.Intn(6)) + m.write(m.forest(3))
		default:
			s += "<![CDATA[" + strings.Repeat("é", (api.MaxText-m.Intn(6))/2) + m.one(words()) + "]]>" + m.write(m.forest(2))
		}
		heldAgainstWords(t, s)
		heldAgainstWords(t, m.spoil(s))
	}
}

// spoil changes, takes away or puts in a piece somewhere.
func (m maker) spoil(s string) string {
	parts := []string{"<", ">", "/", "</", "<a", "<a>", "</a>", "'", "\"", "=", " ", "&", "&amp;", ";", "<!--", "-->", "<![CDATA[", "]]>", "<?", "?>", "\x00", "\xc3", "é", "b='1' ", "x"}
	from := m.Intn(len(s) + 1)
	to := min(len(s), from+m.Intn(4))
	switch m.Intn(3) {
	case 0:
		return s[:from] + s[to:]
	case 1:
		return s[:from] + m.one(parts) + s[from:]
	}
	return s[:from] + m.one(parts) + s[to:]
}

// What Parse answers shares no memory, neither within nor with another answer, and of an error nothing is left.
func TestParseMemory(t *testing.T) {
	m := newMaker(6)
	for range 300 {
		s := m.write(m.forest(4))
		f, _, e := markup.Parse(s)
		g, _, _ := markup.Parse(s)
		if e == api.OK {
			apart(t, f, g)
		}
	}
}

// One call knows nothing of another one.
func TestParseAgain(t *testing.T) {
	reads(t, "<a>x</a>", forest(el("a", text("x"))))
	refuses(t, "<a>x", 4, api.ErrShort)
	reads(t, "<a>x</a>", forest(el("a", text("x"))))
}
