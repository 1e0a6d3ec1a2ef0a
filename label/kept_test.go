package label

import (
	"testing"

	"espalier/api"
)

// Nothing is kept of nodes that are no more: no answer tells it, so this test looks inside.
func TestNothingKept(t *testing.T) {
	var d Doc
	for range 100 {
		a, _ := d.Insert(api.Last, 0, api.Tree{Kind: api.Element, Name: "a", Kids: []api.Tree{{Kind: api.Text}}})
		b, _ := d.Insert(api.First, a, api.Tree{Kind: api.Text})
		d.Move(b, api.First, 0)
		d.Delete(a)
		if len(d.ends) != d.nodes.Len() || d.order.Len() != 2*d.nodes.Len() {
			t.Fatal(len(d.ends), d.order.Len(), d.nodes.Len())
		}
	}
}
