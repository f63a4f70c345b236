package index_test

import (
	"strings"

	"textindex/api"
)

// tree: a pattern that was made, not read: so what it takes is known without reading it.
type tree struct {
	kind  byte // 'b' a byte out of set, 'c' kids behind each other, 'a' one of the kids, 'r' the kid, repeated
	set   [256]bool
	bytes string // how a byte is written
	kids  []*tree
	low   int
	high  int // or endless
	often string
}

const endless = -1

// written: the pattern as text; inner: with a Q behind it. Kids behind each other among such, and alternatives among such, get no brackets: nothing that is taken or counted hangs on them.
func (x *tree) written(inner bool) string {
	s := ""
	switch x.kind {
	case 'b':
		return x.bytes
	case 'r':
		return x.kids[0].written(true) + x.often
	case 'c':
		for _, kid := range x.kids {
			if kid.kind == 'a' {
				s += "(" + kid.written(false) + ")"
			} else {
				s += kid.written(false)
			}
		}
	case 'a':
		for k, kid := range x.kids {
			s += strings.Repeat("|", min(k, 1)) + kid.written(false)
		}
	}
	if inner {
		return "(" + s + ")"
	}
	return s
}

// ends: where in t the texts end that x takes and that begin at one of from.
func (x *tree) ends(t string, from []bool) []bool {
	to := make([]bool, len(t)+1)
	switch x.kind {
	case 'b':
		for p := 0; p < len(t); p++ {
			to[p+1] = from[p] && x.set[t[p]]
		}
	case 'c':
		copy(to, from)
		for _, kid := range x.kids {
			to = kid.ends(t, to)
		}
	case 'a':
		for _, kid := range x.kids {
			unite(to, kid.ends(t, from))
		}
	case 'r':
		most := x.high
		if most == endless {
			most = x.low + len(t) + 1 // each time more takes one byte more, or nothing
		}
		for k := 0; k <= most; k++ {
			if k >= x.low {
				unite(to, from)
			}
			from = x.kids[0].ends(t, from)
		}
	}
	return to
}

func unite(to []bool, more []bool) {
	for p := range to {
		to[p] = to[p] || more[p]
	}
}

// some: does x take any text?
func (x *tree) some() bool {
	switch x.kind {
	case 'b':
		return x.set != [256]bool{}
	case 'r':
		return x.low == 0 || x.kids[0].some()
	}
	n := 0
	for _, kid := range x.kids {
		if kid.some() {
			n++
		}
	}
	return n == len(x.kids) || n > 0 && x.kind == 'a'
}

// places: as DOC.md counts them. Trees are small.
func (x *tree) places() int {
	if !x.some() {
		return 0
	}
	if x.kind == 'b' {
		return 1
	}
	n := 0
	for _, kid := range x.kids {
		n += kid.places()
	}
	if x.kind != 'r' {
		return n
	}
	if x.high == endless {
		return n * (x.low + 1)
	}
	return n * x.high
}

// tails: takes the ends of the texts that x takes.
func (x *tree) tails() *tree {
	empty := &tree{kind: 'c'}
	if !x.some() {
		return x
	}
	all := &tree{kind: 'a', kids: []*tree{empty}}
	switch x.kind {
	case 'b':
		all.kids = append(all.kids, x)
	case 'a':
		for _, kid := range x.kids {
			all.kids = append(all.kids, kid.tails())
		}
	case 'c':
		for k, kid := range x.kids {
			all.kids = append(all.kids, &tree{kind: 'c', kids: append([]*tree{kid.tails()}, x.kids[k+1:]...)})
		}
	case 'r':
		rest := &tree{kind: 'r', kids: x.kids, high: max(x.high-1, endless)}
		if x.high != 0 && x.kids[0].some() {
			all.kids = append(all.kids, &tree{kind: 'c', kids: []*tree{x.kids[0].tails(), rest}})
		}
	}
	return all
}

// stretches: all stretches of t, the empty one apart, that x takes: from, to.
func (x *tree) stretches(t string) [][2]int {
	var l [][2]int
	for p := 0; p < len(t); p++ {
		from := make([]bool, len(t)+1)
		from[p] = true
		for q, ok := range x.ends(t, from) {
			if ok && q > p {
				l = append(l, [2]int{p, q})
			}
		}
	}
	return l
}

// found: the places that Search must find in t.
func (x *tree) found(t string) []int {
	l := []int{}
	for _, s := range x.stretches(t) {
		if len(l) == 0 || l[len(l)-1] != s[0] {
			l = append(l, s[0])
		}
	}
	return l
}

// steps: how many steps a search in t wants (P8).
func (x *tree) steps(t string) int {
	texts := map[string]bool{}
	for _, s := range x.tails().stretches(t) {
		texts[t[s[0]:s[1]]] = true
	}
	return 1 + len(texts)
}

// fault: what Search must refuse the pattern for, if it has the steps. Trees are right, so it can only be too long or too large.
func (x *tree) fault() api.Fault {
	s := x.written(false)
	if len(s) > api.MaxPat {
		return api.Fault{E: api.ErrLong}
	}
	if depth(s) > api.MaxDepth || x.places() > api.MaxPos {
		return api.Fault{E: api.ErrLarge}
	}
	return api.Fault{}
}

// depth: of the round brackets of a pattern; a tree writes none into a class.
func depth(s string) int {
	deepest := 0
	for k := 0; k < len(s); k++ {
		before := strings.ReplaceAll(s[:k+1], "\\(", "")
		before = strings.ReplaceAll(before, "\\)", "")
		deepest = max(deepest, strings.Count(before, "(")-strings.Count(before, ")"))
	}
	return deepest
}

// maker: makes trees, in an order that looks like none but is always the same.
type maker struct {
	seed  uint32
	bytes []*tree
	texts []string
}

func (m *maker) pick(n int) int {
	m.seed = m.seed*1664525 + 1013904223
	return int(m.seed>>16) % n
}

// tree: of at most so many layers.
func (m *maker) tree(layers int) *tree {
	kind := m.pick(11)
	if layers == 0 || kind == 0 {
		return m.bytes[m.pick(len(m.bytes))]
	}
	if kind < 5 {
		return m.repeated(m.tree(layers - 1))
	}
	x := &tree{kind: "ca"[kind%2]}
	for k := m.pick(4); k > 0 || x.kind == 'a' && len(x.kids) == 0; k-- {
		x.kids = append(x.kids, m.tree(layers-1))
	}
	return x
}

// repeated: a tree with some Q behind it.
func (m *maker) repeated(kid *tree) *tree {
	all := []tree{
		{often: "*", high: endless}, {often: "+", low: 1, high: endless}, {often: "?", high: 1},
		{often: "{0}"}, {often: "{1}", low: 1, high: 1}, {often: "{2}", low: 2, high: 2}, {often: "{03}", low: 3, high: 3}, {often: "{10}", low: 10, high: 10},
		{often: "{0,}", high: endless}, {often: "{1,}", low: 1, high: endless}, {often: "{2,}", low: 2, high: endless},
		{often: "{0,0}"}, {often: "{0,1}", high: 1}, {often: "{0,2}", high: 2}, {often: "{1,2}", low: 1, high: 2}, {often: "{2,4}", low: 2, high: 4}, {often: "{1,1}", low: 1, high: 1},
	}
	x := all[m.pick(len(all))]
	x.kind = 'r'
	x.kids = []*tree{kid}
	return &x
}

// aByte: a tree of one byte out of taken, written so.
func aByte(written string, taken string) *tree {
	x := &tree{kind: 'b', bytes: written}
	for k := 0; k < len(taken); k++ {
		x.set[taken[k]] = true
	}
	return x
}

// butBytes: a tree of one byte that is none of left, written so.
func butBytes(written string, left string) *tree {
	x := aByte(written, left)
	for c := range x.set {
		x.set[c] = !x.set[c]
	}
	return x
}
