package path

import (
	"strconv"
	"strings"

	"espalier/api"
	"espalier/chars"
)

// expr reads an expression, and ands a part of or: each level goes by the one below.
func (r *reader) expr() api.Expr { return r.chain(opOr, r.ands) }

func (r *reader) ands() api.Expr { return r.chain(opAnd, r.held) }

// chain reads expressions of the level below with a word between them; they go together from the left.
func (r *reader) chain(word string, below func() api.Expr) api.Expr {
	e := below()
	for r.word() == word {
		e = r.both(word, e, below)
	}
	return e
}

// held reads an operand, or two with a sign between them.
func (r *reader) held() api.Expr {
	e := r.operand()
	if sign := r.sign(); sign != "" {
		return r.both(sign, e, r.operand)
	}
	return e
}

// both reads the word or sign that is next, and what stands on its right.
func (r *reader) both(op string, left api.Expr, read func() api.Expr) api.Expr {
	at := r.at
	r.begin(at)
	r.at += len(op)
	return api.Expr{Op: op, At: at, Parts: []api.Expr{left, read()}}
}

// sign is the sign that is next; the empty text, if none is. Where one begins with another one, it is the longer one.
func (r *reader) sign() string {
	rest := r.rest()
	for n := min(2, len(rest)); n > 0; n-- {
		if hold(rest[:n]) == holdsSign {
			return rest[:n]
		}
	}
	return ""
}

// operand reads what stands at a side of a sign.
func (r *reader) operand() api.Expr {
	switch b := r.need(); b {
	case '0', '1', '2', '3', '4', '5', '6', '7', '8', '9':
		return r.number()
	case '"', '\'':
		return r.quoted(string([]byte{b}))
	case '@':
		return r.attr()
	case '(':
		return r.group()
	}
	word := r.word()
	if parts, ok := partsOf(word); ok && r.follows(word, "(") {
		return r.call(word, parts)
	}
	return r.asked()
}

func (r *reader) number() api.Expr {
	at := r.at
	r.begin(at)
	rest := r.rest()
	digits := rest[:len(rest)-len(strings.TrimLeft(rest, "0123456789"))]
	if len(digits) > maxDigits || len(digits) > 1 && digits[0] == '0' {
		r.fail(at, api.ErrForm)
	}
	r.at += len(digits)
	n, _ := strconv.ParseInt(digits, 10, 64)
	return api.Expr{Op: opNumber, At: at, Number: n}
}

// quoted reads a text between such quotes.
func (r *reader) quoted(quote string) api.Expr {
	at := r.at
	r.begin(at)
	text, _, closed := strings.Cut(r.text[at+1:], quote)
	if !closed {
		r.fail(at, api.ErrOpen)
	}
	if _, e := chars.Text(text); e != api.OK {
		r.fail(at, api.ErrText)
	}
	r.at = at + 1 + len(text) + 1
	return api.Expr{Op: opText, At: at, Text: strings.Clone(text)}
}

func (r *reader) attr() api.Expr {
	at := r.at
	r.begin(at)
	r.at++
	r.need()
	if r.word() == "" {
		r.fail(r.at, api.ErrForm)
	}
	return api.Expr{Op: opAttr, At: at, Text: r.name()}
}

// group reads an expression in brackets.
func (r *reader) group() api.Expr {
	at := r.enter()
	e := r.expr()
	r.leave(at, ")")
	return e
}

// call reads a function, which must have so many parts.
func (r *reader) call(word string, parts int) api.Expr {
	e := api.Expr{Op: opCall, At: r.at, Text: strings.Clone(word)}
	r.begin(e.At)
	r.at += len(word)
	open := r.enter()
	if !r.sees(")") {
		e.Parts = r.list()
	}
	r.leave(open, ")")
	if len(e.Parts) != parts {
		r.fail(e.At, api.ErrStep)
	}
	return e
}

// list reads expressions with commas between them.
func (r *reader) list() []api.Expr {
	list := []api.Expr{r.expr()}
	for r.takes(",") {
		list = append(list, r.expr())
	}
	return list
}

// asked reads a query, which is counted ahead of its first path.
func (r *reader) asked() api.Expr {
	at := r.pathPlace()
	r.begin(at)
	return api.Expr{Op: opQuery, At: at, Query: r.query()}
}
