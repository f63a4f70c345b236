package pattern

// span: what a part has become: the places at which its texts begin and end; and whether the empty text is one of them.
type span struct {
	first Set
	last  Set
	empty bool
}

// newPattern: of a tree with at most MaxPos places.
func newPattern(t *tree, top int) *Pattern {
	p := &Pattern{size: 1} // the end
	all := p.lay(t, top)
	p.begins = all.first
	p.ahead[0] = all.last
	return p
}

// lay: writes out a part. One without places takes at most the empty text; it may repeat something so often that it could not be written out.
func (p *Pattern) lay(t *tree, n int) span {
	this := t.parts[n]
	if this.places == 0 {
		return span{empty: this.empty}
	}
	switch this.kind {
	case both:
		left := p.lay(t, this.left)
		right := p.lay(t, this.right)
		return p.join(left, right)
	case either:
		left := p.lay(t, this.left)
		right := p.lay(t, this.right)
		return span{first: left.first | right.first, last: left.last | right.last, empty: left.empty || right.empty}
	case repeat:
		return p.layCopies(t, this)
	}
	return p.layByte(this)
}

// layByte: a place for one byte.
func (p *Pattern) layByte(this part) span {
	place := bit(p.size)
	p.size++
	for c := range this.bytes {
		if this.bytes[c] {
			p.takes[c] |= place
		}
	}
	return span{first: place, last: place}
}

// layCopies: a repetition: those copies that are not asked for may be left out.
func (p *Pattern) layCopies(t *tree, this part) span {
	copies := this.copies()
	all := span{empty: true}
	for k := 1; k <= copies; k++ {
		one := p.lay(t, this.left)
		if k > this.low {
			one.empty = true
		}
		if this.endless && k == copies {
			p.link(one.last, one.first)
		}
		all = p.join(all, one)
	}
	return all
}

// join: a part, and another behind it.
func (p *Pattern) join(left span, right span) span {
	p.link(left.last, right.first)
	all := span{first: left.first, last: right.last, empty: left.empty && right.empty}
	if left.empty {
		all.first |= right.first
	}
	if right.empty {
		all.last |= left.last
	}
	return all
}

// link: each of from can stand right ahead of each of to.
func (p *Pattern) link(from Set, to Set) {
	for k := 0; k < p.size; k++ {
		if to&bit(k) != 0 {
			p.ahead[k] |= from
		}
	}
}
