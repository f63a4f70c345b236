package pattern

// none: in place of a byte, where there is none to be read.
const none = -1

// reader: reads a pattern from the left on. No byte is read that no pattern could go on with: so where the reader stops, the shortest wrong beginning ends with the next byte, or the end is lacking.
type reader struct {
	pat       string
	at        int  // bytes read
	wrong     bool // the next byte can't be read, or is lacking: none is read any more
	backwards bool // there is a range that runs backwards
	depth     int  // brackets that are open
	deepest   int
	tree      tree
}

// next: the byte to be read.
func (r *reader) next() int {
	if r.wrong || r.at >= len(r.pat) {
		return none
	}
	return int(r.pat[r.at])
}

// take: reads c, if it is next.
func (r *reader) take(c int) bool {
	if r.next() != c {
		return false
	}
	r.at++
	return true
}

// need: reads c; nothing else can stand here.
func (r *reader) need(c int) {
	if !r.take(c) {
		r.wrong = true
	}
}

// anyByte: reads a byte that can be any.
func (r *reader) anyByte() int {
	c := r.next()
	if c == none {
		r.wrong = true
		return 0
	}
	r.at++
	return c
}

// whole: reads all of the pattern.
func (r *reader) whole() int {
	n := r.alternatives()
	if r.at < len(r.pat) {
		r.wrong = true
	}
	return n
}

// alternatives: A of the grammar.
func (r *reader) alternatives() int {
	n := r.sequence()
	for r.take('|') {
		right := r.sequence()
		n = r.tree.add(part{kind: either, left: n, right: right})
	}
	return n
}

// sequence: C of the grammar.
func (r *reader) sequence() int {
	n := r.tree.add(part{kind: nothing})
	for c := r.next(); c != none && c != '|' && c != ')'; c = r.next() {
		right := r.repeated()
		n = r.tree.add(part{kind: both, left: n, right: right})
	}
	return n
}

// repeated: R of the grammar.
func (r *reader) repeated() int {
	n := r.term()
	for c := r.next(); c == '*' || c == '+' || c == '?' || c == '{'; c = r.next() {
		p := part{kind: repeat, left: n}
		r.at++
		switch c {
		case '*':
			p.endless = true
		case '+':
			p.low = 1
			p.endless = true
		case '?':
			p.high = 1
		case '{':
			r.bounds(&p)
		}
		n = r.tree.add(p)
	}
	return n
}

// bounds: how often a part is repeated, with the bracket that closes it.
func (r *reader) bounds(p *part) {
	p.low = r.number()
	p.high = p.low
	if r.take(',') {
		c := r.next()
		if isDigit(c) {
			p.high = r.number()
		} else {
			p.endless = true
		}
	}
	if p.high < p.low {
		r.backwards = true
	}
	r.need('}')
}

// number: N of the grammar.
func (r *reader) number() int {
	c := r.next()
	if !isDigit(c) {
		r.wrong = true
		return 0
	}
	r.at++
	n := c - '0'
	c = r.next()
	if isDigit(c) {
		r.at++
		n = 10*n + c - '0'
	}
	return n
}

func isDigit(c int) bool {
	return c >= '0' && c <= '9'
}

// term: T of the grammar.
func (r *reader) term() int {
	p := part{kind: single}
	c := r.next()
	switch c {
	case none, ')', '|', '*', '+', '?', '{', '}', ']':
		r.wrong = true
	case '(':
		return r.bracketed()
	case '[':
		r.class(&p)
	case '.':
		r.at++
		p.turn()
	case '\\':
		r.at++
		c = r.anyByte()
		p.bytes[c] = true
	default:
		r.at++
		p.bytes[c] = true
	}
	return r.tree.add(p)
}

// bracketed: a pattern in round brackets.
func (r *reader) bracketed() int {
	r.at++
	r.depth++
	if r.depth > r.deepest {
		r.deepest = r.depth
	}
	n := r.alternatives()
	r.depth--
	r.need(')')
	return n
}

// class: a class, of either kind. One member stands in it at least.
func (r *reader) class(p *part) {
	r.at++
	others := r.take('^')
	r.member(p)
	for !r.wrong && !r.take(']') {
		r.member(p)
	}
	if others {
		p.turn()
	}
}

// member: M of the grammar.
func (r *reader) member(p *part) {
	from := r.memberByte()
	to := from
	if r.take('-') {
		to = r.memberByte()
	}
	if to < from {
		r.backwards = true
	}
	for c := from; c <= to; c++ {
		p.bytes[c] = true
	}
}

// memberByte: B of the grammar.
func (r *reader) memberByte() int {
	if r.take('\\') {
		return r.anyByte()
	}
	c := r.next()
	if c == ']' || c == '-' {
		r.wrong = true
	}
	return r.anyByte()
}

// turn: from some bytes to all others.
func (p *part) turn() {
	for c := range p.bytes {
		p.bytes[c] = !p.bytes[c]
	}
}
