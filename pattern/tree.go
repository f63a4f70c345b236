package pattern

import "textindex/api"

// The kinds of parts.
const (
	nothing = iota // takes the empty text alone
	single         // one byte out of bytes
	both           // left, and right behind it
	either         // left or right
	repeat         // left, low to high times; or, if endless, low times or more
)

// part: of a pattern. Its parts stand ahead of it in the tree, so that what is known of them is known when it is added.
type part struct {
	kind    int
	bytes   [256]bool
	left    int
	right   int
	low     int
	high    int
	endless bool

	some   bool // takes a text
	empty  bool // takes the empty text
	places int  // as DOC.md counts them; of more than MaxPos it does not matter how many
}

// tree: the parts of a pattern.
type tree struct {
	parts []part
}

// add: lays a part into the tree, with what follows from its parts; answers where it lies.
func (t *tree) add(p part) int {
	switch p.kind {
	case nothing:
		p.some = true
		p.empty = true
	case single:
		for c := range p.bytes {
			p.some = p.some || p.bytes[c]
		}
		p.places = 1
	case both:
		l := t.parts[p.left]
		r := t.parts[p.right]
		p.some = l.some && r.some
		p.empty = l.empty && r.empty
		p.places = l.places + r.places
	case either:
		l := t.parts[p.left]
		r := t.parts[p.right]
		p.some = l.some || r.some
		p.empty = l.empty || r.empty
		p.places = l.places + r.places
	case repeat:
		l := t.parts[p.left]
		copies := p.copies()
		p.some = l.some || p.low == 0
		p.empty = l.empty || p.low == 0
		p.places = l.places * copies
	}
	if !p.some {
		p.places = 0
	}
	if p.places > api.MaxPos {
		p.places = api.MaxPos + 1 // so that no product grows without end
	}
	t.parts = append(t.parts, p)
	return len(t.parts) - 1
}

// copies: how often a repetition writes out what it repeats. The last one of an endless repetition is gone through again and again.
func (p *part) copies() int {
	if p.endless {
		return p.low + 1
	}
	return p.high
}
