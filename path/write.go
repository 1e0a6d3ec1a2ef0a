package path

import (
	"strconv"
	"strings"

	"espalier/api"
)

// writer writes queries that can be.
type writer struct{ out strings.Builder }

func (w *writer) put(parts ...string) {
	for _, s := range parts {
		w.out.WriteString(s)
	}
}

func (w *writer) query(q api.Query) {
	for i, p := range q.Paths {
		if i > 0 {
			w.put(" | ")
		}
		w.path(p)
	}
}

// path writes a path. What is to stand ahead of the next step waits: a step that // stands for makes it longer instead of being written, but only where it is one slash.
func (w *writer) path(p api.Path) {
	ahead := ""
	if p.Abs {
		ahead = "/"
	}
	if len(p.Steps) == 0 {
		w.put(ahead)
	}
	for i, s := range p.Steps {
		if ahead == "/" && anywhere(s) && i < len(p.Steps)-1 {
			ahead = "//"
			continue
		}
		w.put(ahead)
		w.step(s)
		ahead = "/"
	}
}

func (w *writer) step(s api.Step) {
	plain := s.Test == api.TestNode && len(s.Preds) == 0
	switch {
	case plain && s.Axis == api.SelfAxis:
		w.put(".")
		return
	case plain && s.Axis == api.ParentAxis:
		w.put("..")
		return
	case s.Axis != api.ChildAxis:
		w.put(axisWord(s.Axis), "::")
	}
	w.test(s)
	for _, e := range s.Preds {
		w.put("[")
		w.expr(e, false)
		w.put("]")
	}
}

func (w *writer) test(s api.Step) {
	switch s.Test {
	case api.TestName:
		w.put(s.Name)
	case api.TestAny:
		w.put("*")
	case api.TestText:
		w.put(wordText, "()")
	case api.TestNode:
		w.put(wordNode, "()")
	}
}

// expr writes an expression; behind: whether the word of or, or of and, comes right behind it.
func (w *writer) expr(e api.Expr, behind bool) {
	switch e.Op {
	case opNumber:
		w.put(strconv.FormatInt(e.Number, 10))
	case opText:
		w.quoted(e.Text)
	case opAttr:
		w.put("@", e.Text)
	case opQuery:
		w.query(e.Query)
	case opCall:
		w.call(e)
	default:
		w.part(e, 0, behind)
		w.put(" ", e.Op, " ")
		w.part(e, 1, behind)
	}
}

// part writes a part of or, of and or of a sign. A path without steps stands in brackets in all parts of or and and, but in a part of a sign only where a word behind it would be read as its step.
func (w *writer) part(e api.Expr, i int, behind bool) {
	part, right := e.Parts[i], i > 0
	behind = wordBehind(e.Op, right, behind)
	if wraps(e.Op, right, part) || slashEnds(part) && (behind || hold(e.Op) < holdsSign) {
		w.put("(")
		w.expr(part, false)
		w.put(")")
		return
	}
	w.expr(part, behind)
}

func (w *writer) call(e api.Expr) {
	w.put(e.Text, "(")
	for i, part := range e.Parts {
		if i > 0 {
			w.put(", ")
		}
		w.expr(part, false)
	}
	w.put(")")
}

// quoted writes a text between quotes that it does not hold.
func (w *writer) quoted(s string) {
	quote := `"`
	if strings.Contains(s, quote) {
		quote = "'"
	}
	w.put(quote, s, quote)
}
