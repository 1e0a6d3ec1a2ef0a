package tags

import "espalier/api"

// Where a gap has closed, the tags of a window around it are spread evenly. Window k has 2^(windowBits + k*windowGrowth) labels, begins at a multiple of that, and has room for 2^k tags; the smallest window that is not too full is taken. The last one (k = 13) has all labels and room for MaxTags tags: so there is always one.
//
// Why labels are not written too often: windows grow 16 times with k, their room but 2 times. Right behind a spread of window k each window k-1 within is at most about 1/16 * 2^k full; it takes some 7/16 * 2^k further tags in one of them until window k is spread again, which writes 2^k labels: fewer than 3 a tag and k (4 where k is small), and fewer than 40 a tag in all, far below what P1.7 allows.
const (
	windowBits   = 10
	windowGrowth = 4

	// stride is how far behind its neighbour a tag comes at most: tags that come each behind the last one would else halve what is left each time. MaxTags strides are half of all labels.
	stride = api.MaxLabel / (2 * api.MaxTags)
)

// number gives a tag that was just linked in its first label.
func (l *List) number(p *place) {
	gap := labelBehind(p) - p.prev.label
	if gap < 2 {
		l.spread(p)
		return
	}
	l.write(p, p.prev.label+min(gap/2, stride))
}

// labelBehind is the label up to which there is room behind a place.
func labelBehind(p *place) uint64 {
	if p.next == nil {
		return api.MaxLabel
	}
	return p.next.label
}

// spread makes room for a tag that has no label yet: it and the tags of a window around it get labels anew.
func (l *List) spread(p *place) {
	at := p.prev.label
	first, last, count := p, p, 1
	for k := 0; ; k++ {
		size := uint64(1) << (windowBits + k*windowGrowth)
		base := at - at%size
		for first.prev.tag != 0 && first.prev.label >= base {
			first = first.prev
			count++
		}
		for last.next != nil && last.next.label-base < size {
			last = last.next
			count++
		}
		if count <= 1<<k {
			l.respace(first, count, base, size/uint64(count+1))
			return
		}
	}
}

// respace writes the labels of count places from first on, each a step behind the one ahead; the base itself stays free, as it may be that of 0.
func (l *List) respace(first *place, count int, base, step uint64) {
	p := first
	for range count {
		base += step
		l.write(p, base)
		p = p.next
	}
}

// write gives a place a label; one that it has already is not written again. (No label of a tag is 0: a first one is always written.)
func (l *List) write(p *place, label uint64) {
	if p.label == label {
		return
	}
	p.label = label
	l.writes++
}
