package path

import (
	"strings"

	"espalier/api"
	"espalier/chars"
)

// blanks is the bytes that may stand between pieces.
const blanks = "\t\n\r "

// reader goes through a text from the left, and gives up by a panic with the first fault.
type reader struct {
	text  string
	at    int // what is ahead of it is read
	begun int // how many paths, steps and expressions have begun
	open  int // how many brackets are around
}

// fault is what is wrong first.
type fault struct {
	at  int
	why api.Errno
}

func (r *reader) fail(at int, why api.Errno) { panic(fault{at, why}) }

// begin counts a path, a step or an expression that begins at a place.
func (r *reader) begin(at int) {
	if r.begun == api.MaxExprs {
		r.fail(at, api.ErrLong)
	}
	r.begun++
}

// rest is what is left, from the next piece on.
func (r *reader) rest() string {
	rest := strings.TrimLeft(r.text[r.at:], blanks)
	r.at = len(r.text) - len(rest)
	return rest
}

// sees tells whether this is next.
func (r *reader) sees(s string) bool { return strings.HasPrefix(r.rest(), s) }

// takes reads this, if it is next.
func (r *reader) takes(s string) bool {
	if !r.sees(s) {
		return false
	}
	r.at += len(s)
	return true
}

// need is the byte that is next, where something must come.
func (r *reader) need() byte {
	rest := r.rest()
	if rest == "" {
		r.fail(r.at, api.ErrShort)
	}
	return rest[0]
}

// word is the word that is next; the empty one, if none is.
func (r *reader) word() string {
	rest := r.rest()
	if rest == "" || !chars.Name(rest[:1]) {
		return ""
	}
	n := 1
	for n < len(rest) && inWord(rest[n]) {
		n++
	}
	return rest[:n]
}

// inWord tells whether a byte can be in words: behind a first one.
func inWord(b byte) bool { return chars.Name(string([]byte{'_', b})) }

// follows tells whether this stands behind a word that is next.
func (r *reader) follows(word, s string) bool {
	return strings.HasPrefix(strings.TrimLeft(r.rest()[len(word):], blanks), s)
}

// enter reads a bracket: its place.
func (r *reader) enter() int {
	r.need()
	at := r.at
	if r.open == api.MaxNest {
		r.fail(at, api.ErrLong)
	}
	r.open++
	r.at++
	return at
}

// leave reads what closes the bracket of a place.
func (r *reader) leave(at int, s string) {
	r.shut(at, s)
	r.open--
}

// shut reads what closes the bracket of a place, which is not counted.
func (r *reader) shut(at int, s string) {
	switch {
	case r.takes(s):
	case r.at == len(r.text):
		r.fail(at, api.ErrOpen)
	default:
		r.fail(r.at, api.ErrForm)
	}
}

// whole reads a query behind which nothing stands.
func (r *reader) whole() api.Query {
	q := r.query()
	if r.rest() != "" {
		r.fail(r.at, api.ErrMore)
	}
	return q
}

func (r *reader) query() api.Query {
	paths := []api.Path{r.path()}
	for r.takes("|") {
		paths = append(paths, r.path())
	}
	return api.Query{Paths: paths}
}

func (r *reader) path() api.Path {
	p := api.Path{At: r.pathPlace()}
	r.begin(p.At)
	if r.sees("/") {
		p.Abs = true
		p.Steps = r.slash(p.Steps)
		if len(p.Steps) == 0 && !r.seesStep() {
			return p
		}
	}
	p.Steps = append(p.Steps, r.step())
	for r.sees("/") {
		p.Steps = r.slash(p.Steps)
		p.Steps = append(p.Steps, r.step())
	}
	return p
}

// pathPlace is where a path begins, which must come.
func (r *reader) pathPlace() int {
	if r.need() != '/' {
		r.stepPlace()
	}
	return r.at
}

// stepPlace is where a step begins, which must come.
func (r *reader) stepPlace() int {
	r.need()
	if !r.seesStep() {
		r.fail(r.at, api.ErrForm)
	}
	return r.at
}

// seesStep tells whether a step begins here.
func (r *reader) seesStep() bool { return r.sees(".") || r.sees("*") || r.word() != "" }

// slash reads the / or // that is next; what // stands for is put behind the steps.
func (r *reader) slash(steps []api.Step) []api.Step {
	at := r.at
	if !r.takes("//") {
		r.at++
		return steps
	}
	r.begin(at)
	return append(steps, api.Step{Axis: api.DescendantOrSelfAxis, Test: api.TestNode, At: at})
}

func (r *reader) step() api.Step {
	s := api.Step{Test: api.TestNode, At: r.stepPlace()}
	r.begin(s.At)
	switch {
	case r.takes(".."):
		s.Axis = api.ParentAxis
		return s
	case r.takes("."):
		s.Axis = api.SelfAxis
		return s
	}
	s.Axis = r.axis()
	s.Test, s.Name = r.test()
	s.Preds = r.preds()
	return s
}

// axis reads an axis and the sign behind it, if they stand ahead of the test.
func (r *reader) axis() int {
	const sign = "::"
	word := r.word()
	if !r.follows(word, sign) {
		return api.ChildAxis
	}
	axis, ok := axisOf(word)
	if !ok {
		r.fail(r.at, api.ErrStep)
	}
	r.at += len(word)
	r.takes(sign)
	return axis
}

// test reads what a step tests, and the name.
func (r *reader) test() (int, string) {
	r.need()
	if r.takes("*") {
		return api.TestAny, ""
	}
	word := r.word()
	switch {
	case word == "":
		r.fail(r.at, api.ErrForm)
	case !r.follows(word, "("):
		return api.TestName, r.name()
	case word != wordText && word != wordNode:
		r.fail(r.at, api.ErrStep)
	}
	r.hollow(word)
	if word == wordText {
		return api.TestText, ""
	}
	return api.TestNode, ""
}

// name reads a word that must be a name. It is copied, so that it does not keep the whole text alive.
func (r *reader) name() string {
	word := r.word()
	if !chars.Name(word) {
		r.fail(r.at, api.ErrName)
	}
	r.at += len(word)
	return strings.Clone(word)
}

// hollow reads a word and the brackets behind it, in which nothing stands: they play no part in how deep brackets lie.
func (r *reader) hollow(word string) {
	r.at += len(word)
	r.need()
	at := r.at
	r.at++
	r.shut(at, ")")
}

func (r *reader) preds() []api.Expr {
	var list []api.Expr
	for r.sees("[") {
		at := r.enter()
		list = append(list, r.expr())
		r.leave(at, "]")
	}
	return list
}
