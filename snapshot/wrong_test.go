package snapshot_test

import (
	"math"
	"slices"
	"testing"

	"espalier/api"
)

// P20.2: ErrShort of a beginning of the header, and ErrBytes of what does not begin with it, however long.
func TestHeader(t *testing.T) {
	t.Parallel()
	head := "espalier\x01"
	refused(t, "nil", nil, api.ErrShort)
	for n := range len(head) + 1 {
		refused(t, "a beginning", []byte(head[:n]), api.ErrShort)
		refused(t, "a beginning and another byte", []byte(head[:n]+"?"), beside(n, len(head)))
	}
	for i := range len(head) {
		b := []byte(head)
		b[i]++
		refused(t, "another header", b, api.ErrBytes)
		refused(t, "a beginning of another header", b[:i+1], api.ErrBytes)
		refused(t, "another header, and more", summed(append(b, 0, 0)), api.ErrBytes)
		refused(t, "another header, and nothing right", append(b, 0xff), api.ErrBytes)
		// What is one but for the header.
		b = snap([]byte{0, 0})
		b[i] ^= 0x20
		refused(t, "a snapshot's other header", b, api.ErrBytes)
	}
	refused(t, "the second form", summed([]byte("espalier\x02\x00\x00")), api.ErrBytes)
	refused(t, "one behind the beginning", append([]byte("x"), snap([]byte{0, 0})...), api.ErrBytes)
}

// beside is what is wrong with n bytes of a header of so many, and another byte.
func beside(n, all int) api.Errno {
	if n == all {
		return api.ErrShort
	}
	return api.ErrBytes
}

// P20.2: ErrShort, if there is no room for a sum, or nothing ahead of it.
func TestNoRoom(t *testing.T) {
	t.Parallel()
	for _, more := range []string{"", "\x00", "\x00\x00", "\xff\xff\xff", "\xff\xff\xff\xff", "\x80\x00\x00\x00"} {
		refused(t, "no body", []byte("espalier\x01"+more), api.ErrShort)
	}
	refused(t, "a sum alone", summed([]byte("espalier\x01")), api.ErrShort)
}

// what may stand ahead of numbers and texts, of a snapshot of three slots.
var (
	inElement = join(num(3, 1), []byte{1})             // its name comes
	inAttrs   = join(inElement, str("a"))              // how many attributes
	inValue   = join(inAttrs, num(1), str("k"))        // the value
	inParent  = join(inAttrs, num(0))                  // the parent
	inKids    = join(inParent, num(0))                 // how many children
	inKid     = join(inKids, num(2, 2))                // the second child
	inText    = join(num(3, 1), []byte{2})             // the text
	inPlace   = join(inText, str(""))                  // the text's parent
	inRoots   = join(num(3, 1, 0, 1, 0, 1, 0))         // how many roots
	inRoot    = join(inRoots, num(3, 1))               // the second root
	inSlot    = join(num(3, 1, 0))                     // the second generation
	inKind    = join(inSlot, num(math.MaxUint32))      // the second kind
	inName    = join(inAttrs, num(2), str(""), num(0)) // the second attribute's name
)

// limits is where numbers stand: what is ahead of it, the greatest one that may be there, and the least.
var limits = []struct {
	what        string
	ahead       []byte
	least, most uint64
}{
	{"slots", nil, 0, api.MaxNodes},
	{"a generation", num(3), 1, math.MaxUint32},
	{"another generation", inSlot, 1, math.MaxUint32},
	{"a name", inElement, 0, api.MaxText},
	{"attributes", inAttrs, 0, api.MaxAttrs},
	{"an attribute's name", inName, 0, api.MaxText},
	{"a value", inValue, 0, api.MaxText},
	{"an element's parent", inParent, 0, 3},
	{"children", inKids, 0, 3},
	{"a child", inKid, 1, 3},
	{"a text", inText, 0, api.MaxText},
	{"a text's parent", inPlace, 0, 3},
	{"roots", inRoots, 0, 3},
	{"a root", inRoot, 1, 3},
}

// P20.2: the limits of each number, told ahead of what it holds: with nothing behind it.
func TestLimits(t *testing.T) {
	t.Parallel()
	for _, l := range limits {
		refused(t, l.what+": nothing", snap(l.ahead), api.ErrShort)
		for _, n := range []uint64{l.least, l.least + 1, l.most - 1, l.most} {
			if body := join(l.ahead, num(n)); l.what != "roots" || n > 0 {
				refused(t, l.what+" that may be", snap(body), api.ErrShort)
				refused(t, l.what+" that may be", otherSum(snap(body)), api.ErrShort)
			}
		}
		wrong := []uint64{l.most + 1, l.most + 2, l.most * 2, 1<<32 - 1, 1 << 32, 1<<32 + l.least, 1<<32 + l.most, 1 << 63, 1<<64 - 1}
		if l.least > 0 {
			wrong = append(wrong, l.least-1)
		}
		for _, n := range wrong {
			if n < l.least || n > l.most {
				refused(t, l.what+" that may not be", snap(join(l.ahead, num(n))), api.ErrBytes)
				refused(t, l.what+" that may not be", otherSum(snap(join(l.ahead, num(n), []byte{1, 2, 3}))), api.ErrBytes)
			}
		}
	}
}

// P20.2: numbers that are none: not in as few bytes as can be, or not below 2^64.
func TestNumbers(t *testing.T) {
	t.Parallel()
	nines := slices.Repeat([]byte{0x80}, 9)
	ones := slices.Repeat([]byte{0xff}, 9)
	for _, l := range limits {
		for _, b := range [][]byte{
			{0x80, 0}, {0x81, 0}, {0x82, 0}, {0x80, 0x80, 0}, {0x81, 0x80, 0}, {0xff, 0xff, 0},
			append(nines[:9:9], 0), append(nines[:9:9], 2), append(nines[:9:9], 0x7f), append(ones[:9:9], 2), append(ones[:9:9], 0xff),
			append(nines[:9:9], 0x80), append(nines[:9:9], 0x81), append(ones[:9:9], 0xff, 1), append(nines[:9:9], 0x80, 0x80, 0),
			append(nines[:8:8], 0), append(nines[:4:4], 0),
			// What is less than 2^64 and what is more by the lower bits.
			append(ones[:9:9], 1), append(nines[:9:9], 1),
		} {
			refused(t, l.what+": no number", snap(join(l.ahead, b)), api.ErrBytes)
			refused(t, l.what+": no number", otherSum(snap(join(l.ahead, b))), api.ErrBytes)
		}
		for n := 1; n <= 9; n++ {
			refused(t, l.what+": a number that goes on", snap(join(l.ahead, nines[:n])), api.ErrShort)
			refused(t, l.what+": a number that goes on", snap(join(l.ahead, ones[:n])), api.ErrShort)
		}
	}
}

// P20.2: the byte of a slot: 0, 1 or 2, and no other one.
func TestKinds(t *testing.T) {
	t.Parallel()
	refused(t, "no kind", snap(inKind), api.ErrShort)
	for x := range 256 {
		want := api.ErrBytes
		if x < 3 {
			want = api.ErrShort
		}
		refused(t, "a kind", snap(append(slices.Clip(inKind), byte(x))), want)
	}
}

// P20.2: ErrShort, if a text reaches into the sum, or behind it.
func TestTextsShort(t *testing.T) {
	t.Parallel()
	for _, ahead := range [][]byte{inElement, inValue, inName, inText} {
		for n := range 12 {
			refused(t, "a text of 12", snap(join(ahead, num(12), make([]byte, n))), api.ErrShort)
		}
		refused(t, "the longest text", snap(join(ahead, num(api.MaxText), make([]byte, api.MaxText-1))), api.ErrShort)
		// Whole it is read, and what comes then is what is wrong.
		refused(t, "a text, then nothing", snap(join(ahead, str(long(12)))), api.ErrShort)
		refused(t, "a text, then no number", snap(join(ahead, str(long(api.MaxText)), []byte{0x80, 0})), api.ErrBytes)
	}
}

// P20.2: ErrMore, if something stands between the end and the sum, ahead of ErrSum and of ErrImage.
func TestMore(t *testing.T) {
	t.Parallel()
	for _, s := range shapes {
		body := bodyOf(s.x)
		for _, more := range [][]byte{{0}, {0xff}, {0, 0}, snap(body), slices.Repeat([]byte{0x80}, 11)} {
			b := snap(join(body, more))
			refused(t, s.what+" and more", b, api.ErrMore)
			refused(t, s.what+" and more", otherSum(b), api.ErrMore)
		}
		for _, more := range [][]byte{{0}, {1, 2}, {0, 0, 0, 0}, snap(body)} {
			refused(t, s.what+" and more behind the sum", join(snap(body), more), api.ErrMore)
		}
	}
	for _, w := range wrongImages() {
		if x := wrongBase(t); w.bytes {
			w.spoil(&x)
			refused(t, w.what+", and more", snap(join(bodyOf(x), []byte{0})), api.ErrMore)
		}
	}
}

// P20.2: ErrSum, if it is another one, ahead of ErrImage; ErrImage, if the image can't be.
func TestSumAndImage(t *testing.T) {
	t.Parallel()
	for _, s := range shapes {
		b := snap(bodyOf(s.x))
		for i := len(b) - 4; i < len(b); i++ {
			for x := 1; x < 256; x++ {
				b[i] ^= byte(x)
				refused(t, s.what+", another sum", b, api.ErrSum)
				b[i] ^= byte(x)
			}
		}
		decodes(t, b, s.x)
		// The sum of something less, and one in another order.
		refused(t, s.what+", the body's sum", join([]byte("espalier\x01"), summed(bodyOf(s.x))), api.ErrSum)
		slices.Reverse(b[len(b)-4:])
		refused(t, s.what+", the lowest first", b, api.ErrSum)
	}
	for _, w := range wrongImages() {
		if x := wrongBase(t); w.bytes {
			w.spoil(&x)
			refused(t, w.what, snap(bodyOf(x)), api.ErrImage)
			refused(t, w.what+", another sum", otherSum(snap(bodyOf(x))), api.ErrSum)
		}
	}
	decodes(t, snap(bodyOf(deep(api.MaxDepth))), deep(api.MaxDepth))
	refused(t, "too deep", snap(bodyOf(deep(api.MaxDepth+1))), api.ErrImage)
	refused(t, "much too deep", snap(bodyOf(deep(api.MaxNodes))), api.ErrImage)
	refused(t, "too deep, another sum", otherSum(snap(bodyOf(deep(api.MaxDepth+1)))), api.ErrSum)
}

// P20.2: the first that is wrong, from the left, is told: with other things behind it.
func TestFirst(t *testing.T) {
	t.Parallel()
	bad := []byte{0x80, 0}
	for _, c := range []struct {
		what string
		body []byte
		want api.Errno
	}{
		{"a text that is cut off, a number that is none in it", join(inText, num(5), bad), api.ErrShort},
		{"a text that is whole, a number that is none behind it", join(inText, num(2), bad, bad), api.ErrBytes},
		{"too many kids, and a kid 0", join(inKids, num(4, 0)), api.ErrBytes},
		{"kids enough, and a kid 0", join(inKids, num(3, 1, 2, 0)), api.ErrBytes},
		{"kids that are cut off", join(inKids, num(3, 1, 2)), api.ErrShort},
		{"a wrong name, and a cut", join(num(3, 1), []byte{1}, str("1"), num(0, 0)), api.ErrShort},
		{"a wrong name, and too many attributes", join(num(3, 1), []byte{1}, str("\xff"), num(33)), api.ErrBytes},
		{"a root that is dead, and one that is none", join(inRoots, num(2, 1, 4)), api.ErrBytes},
		{"roots that are dead", join(inRoots, num(2, 1, 2)), api.ErrImage},
		{"the same root twice", join(inRoots, num(2, 1, 1)), api.ErrImage},
		{"slots too few", join(num(4, 1, 0, 1, 0, 1, 0)), api.ErrShort},
		{"slots too many", join(num(2, 1, 0, 1, 0, 1, 0)), api.ErrBytes},
		{"no slots, and a root", num(0, 1), api.ErrBytes},
		{"no slots, no roots, and more", num(0, 0, 0), api.ErrMore},
	} {
		refused(t, c.what, snap(c.body), c.want)
		want := c.want
		if want == api.ErrImage {
			want = api.ErrSum
		}
		refused(t, c.what+", another sum", otherSum(snap(c.body)), want)
	}
}
