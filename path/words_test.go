package path_test

import (
	"regexp"
	"slices"
	"strconv"
	"strings"
	"unicode/utf8"

	"espalier/api"
)

// The chapter's words once more, piece by piece with a stack of what is open, and with stacks of operands and signs, instead of level by level: what Parse must answer.

var (
	aPiece = regexp.MustCompile(`^([A-Za-z_][A-Za-z0-9_.-]*|[0-9]+|//|\.\.|::|<=|>=|!=|(?s:.))`)
	aName  = regexp.MustCompile(`^[A-Za-z_][A-Za-z0-9_.-]{0,31}$`)
	aNum   = regexp.MustCompile(`^(0|[1-9][0-9]{0,8})$`)
)

// wrong is the answer of a text in which something is.
type wrong struct {
	at  int
	why api.Errno
}

// frame is something that is open: a query (q), or a bracket that waits for what closes it.
type frame struct {
	kind  byte // q, [, (, or f: that of a function
	open  int  // where the bracket is
	query api.Query
	vals  []api.Expr // operands, and between them
	ops   []api.Expr // signs
	call  api.Expr
}

// byWords reads a text as the chapter says.
type byWords struct {
	s      string
	i      int
	begun  int
	frames []*frame
	state  string
}

func wantParse(s string) (q api.Query, at int, why api.Errno) {
	if len(s) > 4096 {
		return api.Query{}, 0, 2
	}
	defer func() {
		if x, ok := recover().(wrong); ok {
			q, at, why = api.Query{}, x.at, x.why
		}
	}()
	w := &byWords{s: s, frames: []*frame{{kind: 'q'}}, state: "path"}
	for w.state != "done" {
		w.turn()
	}
	return w.frames[0].query, 0, 0
}

func (w *byWords) give(at int, why api.Errno) { panic(wrong{at, why}) }

// piece is the next piece; the empty one at the end.
func (w *byWords) piece() string {
	for w.i < len(w.s) && strings.Contains("\t\n\r ", w.s[w.i:w.i+1]) {
		w.i++
	}
	// A byte of its own, where it is not one of a character.
	if r, n := utf8.DecodeRuneInString(w.s[w.i:]); r == utf8.RuneError && n == 1 {
		return w.s[w.i : w.i+1]
	}
	return aPiece.FindString(w.s[w.i:])
}

// behind is the piece behind the next one.
func (w *byWords) behind() string {
	p := w.piece()
	x := byWords{s: w.s, i: w.i + len(p)}
	return x.piece()
}

// eat reads the next piece: its place.
func (w *byWords) eat() int {
	p := w.piece()
	w.i += len(p)
	return w.i - len(p)
}

func (w *byWords) count(at int) {
	if w.begun++; w.begun > 256 {
		w.give(at, 2)
	}
}

func (w *byWords) top() *frame { return w.frames[len(w.frames)-1] }

func (w *byWords) lastPath() *api.Path {
	l := w.top().query.Paths
	return &l[len(l)-1]
}

func isWord(p string) bool { return p != "" && strings.Contains(letters, p[:1]) }

func stepBegins(p string) bool { return p == "." || p == ".." || p == "*" || isWord(p) }

// must: a piece of these kinds must come.
func (w *byWords) must(fits bool) {
	if w.piece() == "" {
		w.give(len(w.s), 4)
	}
	if !fits {
		w.give(w.i, 3)
	}
}

// turn goes on by a piece, or to another state.
func (w *byWords) turn() {
	p := w.piece()
	switch w.state {
	case "path":
		w.must(p == "/" || p == "//" || stepBegins(p))
		w.count(w.i)
		f := w.top()
		f.query.Paths = append(f.query.Paths, api.Path{At: w.i, Abs: p[0] == '/'})
		switch p {
		case "/":
			w.eat()
			w.state = "root"
		case "//":
			w.state = "between"
		default:
			w.state = "step"
		}
	case "root":
		w.state = "end"
		if stepBegins(p) {
			w.state = "step"
		}
	case "step", "test":
		w.step(p)
	case "preds":
		w.state = "between"
		if p == "[" {
			w.enter(&frame{kind: '['})
			w.state = "operand"
		}
	case "between":
		w.state = "end"
		if p == "//" {
			w.count(w.i)
			l := w.lastPath()
			l.Steps = append(l.Steps, api.Step{Axis: 3, Test: 4, At: w.i})
		}
		if p == "//" || p == "/" {
			w.eat()
			w.state = "step"
		}
	case "end":
		w.endOfPath(p)
	case "operand":
		w.operand(p)
	case "first":
		w.state = "operand"
		if p == ")" {
			w.state = "close"
		}
	case "sign":
		w.sign(p)
	case "close":
		w.close(p)
	}
}

// enter: a bracket opens.
func (w *byWords) enter(f *frame) {
	lies := 0
	for _, x := range w.frames {
		if x.kind != 'q' {
			lies++
		}
	}
	f.open = w.eat()
	if lies == 16 {
		w.give(f.open, 2)
	}
	w.frames = append(w.frames, f)
}

func (w *byWords) step(p string) {
	l := w.lastPath()
	if w.state == "step" {
		w.must(stepBegins(p))
		w.count(w.i)
		l.Steps = append(l.Steps, api.Step{Axis: 1, Test: 4, At: w.i})
	}
	s := &l.Steps[len(l.Steps)-1]
	switch {
	case w.state == "step" && (p == "." || p == ".."):
		s.Axis = map[string]int{".": 11, "..": 4}[p]
		w.eat()
		w.state = "between"
		return
	case w.state == "step" && isWord(p) && w.behind() == "::":
		s.Axis = slices.Index(axes, p)
		if s.Axis < 0 {
			w.give(w.i, 130)
		}
		w.eat()
		w.eat()
		w.state = "test"
		return
	}
	w.must(p == "*" || isWord(p))
	switch {
	case p == "*":
		s.Test = 2
		w.eat()
	case w.behind() != "(":
		w.name(p)
		s.Test, s.Name = 1, p
	case p != "text" && p != "node":
		w.give(w.i, 130)
	default:
		s.Test = map[string]int{"text": 3, "node": 4}[p]
		w.eat()
		open := w.eat()
		w.shut(open, ")")
	}
	w.state = "preds"
}

func (w *byWords) name(p string) {
	if !aName.MatchString(p) {
		w.give(w.i, 6)
	}
	w.eat()
}

func (w *byWords) shut(open int, s string) {
	switch w.piece() {
	case "":
		w.give(open, 131)
	case s:
		w.eat()
	default:
		w.give(w.i, 3)
	}
}

// endOfPath: another one, or the query ends, which is an operand, or the whole.
func (w *byWords) endOfPath(p string) {
	switch {
	case p == "|":
		w.eat()
		w.state = "path"
	case len(w.frames) > 1:
		q := w.top().query
		w.frames = w.frames[:len(w.frames)-1]
		w.told(api.Expr{Op: "query", At: q.Paths[0].At, Query: q})
	case p == "":
		w.state = "done"
	default:
		w.give(w.i, 5)
	}
}

// told: an operand is whole.
func (w *byWords) told(e api.Expr) {
	w.top().vals = append(w.top().vals, e)
	w.state = "sign"
}

func (w *byWords) operand(p string) {
	at := w.i
	switch {
	case p == "":
		w.give(at, 4)
	case '0' <= p[0] && p[0] <= '9':
		w.count(at)
		if !aNum.MatchString(p) {
			w.give(at, 3)
		}
		n, _ := strconv.Atoi(p)
		w.eat()
		w.told(api.Expr{Op: "number", At: at, Number: int64(n)})
	case p == `"` || p == "'":
		w.count(at)
		n := strings.Index(w.s[at+1:], p)
		if n < 0 {
			w.give(at, 131)
		}
		s := w.s[at+1 : at+1+n]
		if !textCan(s) {
			w.give(at, 7)
		}
		w.i += n + 2
		w.told(api.Expr{Op: "text", At: at, Text: s})
	case p == "@":
		w.count(at)
		w.eat()
		name := w.piece()
		w.must(isWord(name))
		w.name(name)
		w.told(api.Expr{Op: "attr", At: at, Text: name})
	case p == "(":
		w.enter(&frame{kind: '('})
	case functionParts(p) >= 0 && w.behind() == "(":
		w.count(at)
		w.eat()
		w.enter(&frame{kind: 'f', call: api.Expr{Op: "call", At: at, Text: p}})
		w.state = "first"
	default:
		w.must(p == "/" || p == "//" || stepBegins(p))
		w.count(at)
		w.frames = append(w.frames, &frame{kind: 'q'})
		w.state = "path"
	}
}

func functionParts(p string) int {
	for _, f := range functions {
		if f.name == p {
			return f.parts
		}
	}
	return -1
}

func textCan(s string) bool {
	return utf8.ValidString(s) && !strings.ContainsFunc(s, func(r rune) bool {
		return r < 32 && r != 9 && r != 10 && r != 13 || r == 0xfffe || r == 0xffff
	})
}

// reduce makes one of all operands on the top whose sign holds at least so tightly.
func (f *frame) reduce(tight int) {
	for len(f.ops) > 0 && rank(f.ops[len(f.ops)-1].Op) >= tight {
		op, n := f.ops[len(f.ops)-1], len(f.vals)
		op.Parts = []api.Expr{f.vals[n-2], f.vals[n-1]}
		f.ops, f.vals = f.ops[:len(f.ops)-1], append(f.vals[:n-2], op)
	}
}

func (w *byWords) sign(p string) {
	f := w.top()
	twice := len(f.ops) > 0 && isSign(f.ops[len(f.ops)-1].Op)
	switch {
	case p == "or" || p == "and" || isSign(p) && !twice:
		f.reduce(rank(p))
		w.count(w.i)
		f.ops = append(f.ops, api.Expr{Op: p, At: w.eat()})
		w.state = "operand"
	case p == "," && f.kind == 'f':
		f.part()
		w.eat()
		w.state = "operand"
	default:
		w.state = "close"
	}
}

// part: what stood in the frame is whole; of a function it is a part.
func (f *frame) part() {
	f.reduce(0)
	if f.kind == 'f' {
		f.call.Parts = append(f.call.Parts, f.vals...)
		f.vals = nil
	}
}

func (w *byWords) close(string) {
	f := w.top()
	f.part()
	w.shut(f.open, map[byte]string{'[': "]", '(': ")", 'f': ")"}[f.kind])
	w.frames = w.frames[:len(w.frames)-1]
	switch f.kind {
	case '[':
		l := w.lastPath()
		s := &l.Steps[len(l.Steps)-1]
		s.Preds = append(s.Preds, f.vals[0])
		w.state = "preds"
	case '(':
		w.told(f.vals[0])
	case 'f':
		if len(f.call.Parts) != functionParts(f.call.Text) {
			w.give(f.call.At, 130)
		}
		w.told(f.call)
	}
}
