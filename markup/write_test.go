package markup_test

import (
	"strconv"
	"strings"

	"espalier/api"
)

// write is markup of a forest in any of its forms: characters, references or raw text, either quote, attributes in any order, blanks and remarks where they change nothing.
func (m maker) write(f []api.Tree) string {
	var b strings.Builder
	m.siblings(&b, f)
	return b.String()
}

func (m maker) siblings(b *strings.Builder, f []api.Tree) {
	b.WriteString(m.remark())
	for _, x := range f {
		if x.Kind == api.Text {
			b.WriteString(m.words(x.Text))
		} else {
			m.element(b, x)
		}
		b.WriteString(m.remark())
	}
}

func (m maker) element(b *strings.Builder, x api.Tree) {
	b.WriteString("<" + x.Name)
	for _, i := range m.Perm(len(x.Attrs)) {
		a := x.Attrs[i]
		quote := m.one([]string{`"`, "'"})
		b.WriteString(m.blanks(1) + a.Name + "=" + quote)
		for _, r := range a.Value {
			b.WriteString(m.char(r, r == '<' || r == '&' || string(r) == quote))
		}
		b.WriteString(quote)
	}
	b.WriteString(m.blanks(0))
	if len(x.Kids) == 0 && m.Intn(2) == 0 {
		b.WriteString("/>")
		return
	}
	b.WriteString(">")
	m.siblings(b, x.Kids)
	b.WriteString("</" + x.Name + m.blanks(0) + ">")
}

func (m maker) words(s string) string {
	if m.Intn(3) == 0 && !strings.Contains(s, "]]>") {
		return "<![CDATA[" + s + "]]>"
	}
	out := ""
	for _, r := range s {
		out += m.char(r, r == '<' || r == '&')
		if m.Intn(10) == 0 {
			out += m.remark()
		}
	}
	return out
}

// char is a character, as a reference where it must, and now and then where not.
func (m maker) char(r rune, must bool) string {
	named := map[rune]string{'&': "&amp;", '<': "&lt;", '>': "&gt;", '"': "&quot;", '\'': "&apos;"}
	switch {
	case !must && m.Intn(4) > 0:
		return string(r)
	case named[r] != "" && m.Intn(2) == 0:
		return named[r]
	case m.Intn(2) == 0:
		return "&#" + strconv.Itoa(int(r)) + ";"
	}
	return "&#x" + strings.Repeat("0", m.Intn(2)) + strconv.FormatInt(int64(r), 16) + ";"
}

func (m maker) blanks(least int) string {
	s := ""
	for range least + max(0, m.Intn(6)-3) {
		s += m.one([]string{" ", "\t", "\r", "\n"})
	}
	return s
}

func (m maker) remark() string {
	if m.Intn(5) > 0 {
		return ""
	}
	return m.one([]string{"<!---->", "<!-- x -->", "<!-- <a> & \x00 -- -->", "<??>", "<?x <b/> & ?>", "<?-->?>", "<!--?>-->", "<!----><??>"})
}
