// Package pattern: a pattern, read and written out as places, to be gone through from its end to its beginning: see DOC.md.
package pattern

import "textindex/api"

// Set: places of a pattern, each a bit. Bit 0 is the end of the pattern, behind all bytes that it takes.
type Set uint64

// End: where a pattern is gone into.
const End Set = 1

// Pattern: written out as places at each of which one byte is taken. Parts that take no text are left out: so from each place there is a way to the beginning, and what is taken on the way from the end to some place is an end of a text that the pattern takes.
type Pattern struct {
	size   int                 // bits of a set that are in use
	ahead  [api.MaxPos + 1]Set // for each place, those that can stand right ahead of it
	takes  [256]Set            // for each byte, the places that take it
	begins Set                 // the places at which a text can begin
}

// Parse: the pattern that s is. ErrLong; ErrSyntax with its place; ErrRange; ErrLarge.
func Parse(s string) (*Pattern, api.Fault) {
	if len(s) > api.MaxPat {
		return nil, api.Fault{E: api.ErrLong}
	}
	r := reader{pat: s}
	top := r.whole()
	if r.wrong {
		return nil, api.Fault{E: api.ErrSyntax, At: r.at + 1}
	}
	if r.backwards {
		return nil, api.Fault{E: api.ErrRange}
	}
	if r.deepest > api.MaxDepth || r.tree.parts[top].places > api.MaxPos {
		return nil, api.Fault{E: api.ErrLarge}
	}
	return newPattern(&r.tree, top), api.Fault{}
}

// Ahead: the places that take c and can stand right ahead of one of s.
func (p *Pattern) Ahead(s Set, c byte) Set {
	var ahead Set
	for k := 0; k < p.size; k++ {
		if s&bit(k) != 0 {
			ahead |= p.ahead[k]
		}
	}
	return ahead & p.takes[c]
}

// Begins: can a text that the pattern takes begin at one of s?
func (p *Pattern) Begins(s Set) bool {
	return s&p.begins != 0
}

// bit: the set of one place; k is not below 0.
func bit(k int) Set {
	return Set(1) << uint(k)
}
