package pattern_test

import (
	"strings"
	"testing"

	"textindex/api"
	"textindex/pattern"
)

// parsed: Parse must answer this fault, and a pattern just if there is none.
func parsed(t *testing.T, pat string, want api.Fault) {
	t.Helper()
	p, f := pattern.Parse(pat)
	if f != want || (p == nil) != (want.E != api.OK) {
		t.Errorf("P7: Parse(%q): nil %v, %+v, want %+v", pat, p == nil, f, want)
	}
}

// machine: how far a pattern has been read: a plain state and the brackets that are open; the states follow from the grammar of DOC.md, byte by byte.
type machine struct {
	state byte
	open  int
}

// The states of a machine, by what has just been read.
const (
	head      = 'h' // nothing, '(' or '|'
	done      = 'd' // what a Q may stand behind
	escape    = 'e' // '\'
	brace     = '{' // '{'
	digit     = '1' // a digit behind '{'
	digits    = '2' // two of them
	comma     = ',' // ',' behind them
	last      = '3' // a digit behind ','
	lasts     = '4' // two of them
	class     = '[' // '['
	caret     = '^' // '[^'
	member    = 'm' // a B that may be the first of a range
	memberEsc = 'E' // '\' ahead of it
	dash      = '-' // '-' behind it
	dashEsc   = 'F' // '\' behind that
	full      = 'f' // a range
)

// step: reads c; false: no pattern goes on so.
func (m *machine) step(c byte) bool {
	number := c >= '0' && c <= '9'
	switch m.state {
	case head, done:
		return m.outside(c)
	case escape:
		return m.to(done, true)
	case brace:
		return m.to(digit, number)
	case digit, digits:
		return m.to(digits, number && m.state == digit) || m.to(comma, c == ',') || m.to(done, c == '}')
	case comma:
		return m.to(last, number) || m.to(done, c == '}')
	case last, lasts:
		return m.to(lasts, number && m.state == last) || m.to(done, c == '}')
	case memberEsc:
		return m.to(member, true)
	case dashEsc:
		return m.to(full, true)
	case dash:
		return m.to(dashEsc, c == '\\') || m.to(full, c != '-' && c != ']')
	}
	return m.inside(c)
}

// inside: a class, where a member may begin.
func (m *machine) inside(c byte) bool {
	switch c {
	case '^':
		if m.state == class {
			return m.to(caret, true)
		}
		return m.to(member, true)
	case '\\':
		return m.to(memberEsc, true)
	case '-':
		return m.to(dash, m.state == member)
	case ']':
		return m.to(done, m.state == member || m.state == full)
	}
	return m.to(member, true)
}

// outside: all classes and braces.
func (m *machine) outside(c byte) bool {
	switch c {
	case '(':
		m.open++
		return m.to(head, true)
	case ')':
		m.open--
		return m.to(done, m.open >= 0)
	case '|':
		return m.to(head, true)
	case '*', '+', '?':
		return m.to(done, m.state == done)
	case '{':
		return m.to(brace, m.state == done)
	case '[':
		return m.to(class, true)
	case '\\':
		return m.to(escape, true)
	case '}', ']':
		return false
	}
	return m.to(done, true)
}

// to: goes to a state, if it can be gone to.
func (m *machine) to(state byte, can bool) bool {
	if can {
		m.state = state
	}
	return can
}

// rest: bytes that make a pattern of what has been read.
func (m *machine) rest() string {
	s := ""
	switch m.state {
	case escape, memberEsc, dashEsc, dash:
		s = "z"
	case brace:
		s = "9"
	case class, caret:
		s = "z"
	}
	switch m.state {
	case brace, digit, digits, comma, last, lasts:
		s += "}"
	case class, caret, member, memberEsc, dash, dashEsc, full:
		s += "]"
	}
	return s + strings.Repeat(")", m.open)
}

// wrongAt: At of a pattern as DOC.md says, or 0, if it is one; with it bytes that make one of all that is right.
func wrongAt(pat string) (int, string) {
	m := machine{state: head}
	for k := 0; k < len(pat); k++ {
		if !m.step(pat[k]) {
			return k + 1, ""
		}
	}
	rest := m.rest()
	if rest != "" {
		return len(pat) + 1, rest
	}
	return 0, ""
}

// checkSyntax: is a pattern refused for its syntax just where it must be?
func checkSyntax(t *testing.T, pat string) {
	t.Helper()
	at, rest := wrongAt(pat)
	p, f := pattern.Parse(pat)
	if (p == nil) != (f.E != api.OK) || (f.E == api.ErrSyntax) != (at > 0) || f.At != at {
		t.Errorf("P7: Parse(%q): %+v, want ErrSyntax at %d (0: not that)", pat, f, at)
	}
	if rest == "" || len(pat+rest) > api.MaxPat {
		return
	}
	_, f = pattern.Parse(pat + rest)
	if f.E == api.ErrSyntax {
		t.Errorf("P7: Parse(%q): %+v, but it is a pattern", pat+rest, f)
	}
}

// checkAll: every pattern of at most most bytes out of letters.
func checkAll(t *testing.T, letters string, most int, pat string) {
	checkSyntax(t, pat)
	for k := 0; k < len(letters) && most > 0; k++ {
		checkAll(t, letters, most-1, pat+letters[k:k+1])
	}
}

func TestSyntaxOfShortPatterns(t *testing.T) {
	checkAll(t, "a1(|)*{,}[^-]\\", 4, "")
	checkAll(t, "a(|)?", 6, "")
	checkAll(t, "a{1,}", 6, "")
	checkAll(t, "1{,}", 5, "a{1")
	checkAll(t, "a[^-]\\", 6, "")
	checkAll(t, "[^-]\\", 4, "([a")
}

// longPattern: has everything that the grammar has.
const longPattern = `(a|[^^\\-\]b]*x){1,23}+\(?.[a\-]{4}{56,}`

func TestSyntaxAtEveryByte(t *testing.T) {
	if len(longPattern) != api.MaxPat {
		t.Fatalf("%d bytes", len(longPattern))
	}
	parsed(t, longPattern, api.Fault{E: api.ErrLarge})
	for k := 0; k < len(longPattern); k++ {
		checkSyntax(t, longPattern[:k])
		for c := 0; c < 256; c++ {
			other := string([]byte{byte(c)})
			checkSyntax(t, longPattern[:k]+other)
			checkSyntax(t, longPattern[:k]+other+longPattern[k+1:])
		}
	}
}

func TestSyntaxFaults(t *testing.T) {
	for _, c := range []struct {
		pat string
		at  int
	}{
		{"*", 1}, {"+", 1}, {"?", 1}, {"{", 1}, {"{1}", 1}, {"}", 1}, {"]", 1}, {")", 1}, {"a)", 2}, {"a|)", 3}, {"()) ", 3},
		{"(*", 2}, {"(+)", 2}, {"|?", 2}, {"a|{2}", 3}, {"(a", 3}, {"(", 2}, {"((a)", 5}, {"(|", 3}, {"(a|b", 5}, {"(a))(", 4},
		{"\\", 2}, {"a\\", 3}, {"[\\", 3}, {"[a-\\", 5}, {"(\\)", 4},
		{"[", 2}, {"[]", 2}, {"[]a]", 2}, {"[^", 3}, {"[^]", 3}, {"[^]a]", 3}, {"[-]", 2}, {"[-a]", 2}, {"[^-a]", 3}, {"[^-^]", 3}, {"[a", 3}, {"[a-", 4}, {"[a-]", 4},
		{"[a--]", 4}, {"[a-b-", 5}, {"[a-b-c]", 5}, {"[a-b", 5}, {"[a\\]", 5}, {"[^^", 4}, {"[a[]]", 5},
		{"a{", 3}, {"a{}", 3}, {"a{x", 3}, {"a{,2}", 3}, {"a{1", 4}, {"a{1x", 4}, {"a{12", 5}, {"a{123}", 5}, {"a{1,", 5}, {"a{1,x", 5}, {"a{1,,}", 5}, {"a{1,2", 6},
		{"a{1,23", 7}, {"a{1,234}", 7}, {"a{-1}", 3}, {"a{ 1}", 3}, {"a{1 }", 4}, {"a{1}}", 5}, {"a{1,2}]", 7},
	} {
		parsed(t, c.pat, api.Fault{E: api.ErrSyntax, At: c.at})
		checkSyntax(t, c.pat)
	}
}

func TestPatternsThatAreRight(t *testing.T) {
	for _, pat := range []string{
		"", "|", "||", "()", "(|)", "()*", "(())", "a", "a|", "|a", "a**+?{2}", "a{2}*", "a{0}", "a{0,}", "a{0,0}", "a{00}", "a{07,08}", "a{1}{1}",
		"^", "$", "-", ",", "0", "/", "\n", "\x00", "\xff", "a^", "a-b", "\\a", "\\\\", "\\(", "\\\x00", "\\\xff", ".", "..", ".*",
		"[a]", "[^a]", "[^^]", "[a^]", "[a-a]", "[\\^a]", "[\\^]", "[^\\^]", "[\\]]", "[\\-]", "[\\--\\]]", "[+-\\-]", "[[]", "[(]", "[)|*+?{}.]", "[,-.]", "[a-bc-d]", "[ab-c]", "[a-bc]",
		"[\x00-\xff]", "[^\x00-\xff]", "[^\x00-\xff]*", "[\xff]", "[\\\x00]", "[\\^-^]", "[a^-b]", "[a-z^-b]",
	} {
		parsed(t, pat, api.Fault{})
		checkSyntax(t, pat)
	}
}

func TestRangesThatRunBackwards(t *testing.T) {
	for _, c := range []struct {
		pat  string
		want api.Errno
	}{
		{"[c-a]", api.ErrRange}, {"[b-a]", api.ErrRange}, {"[a-a]", api.OK}, {"[a-b]", api.OK}, {"[^b-a]", api.ErrRange}, {"[\xff-\x00]", api.ErrRange},
		{"[\x7f-\x80]", api.OK}, {"[\x80-\x7f]", api.ErrRange}, {"[\x00-\xff]", api.OK}, {"[\\b-\\a]", api.ErrRange}, {"[\\]-\\[]", api.ErrRange}, {"[\\[-\\]]", api.OK},
		{"[x^-\\]]", api.ErrRange}, {"[xb-ay]", api.ErrRange}, {"[a-cc-a]", api.ErrRange}, {"[c-aa-c]", api.ErrRange},
		{"a{2,1}", api.ErrRange}, {"a{1,0}", api.ErrRange}, {"a{10,9}", api.ErrRange}, {"a{9,10}", api.OK}, {"a{02,1}", api.ErrRange}, {"a{2,01}", api.ErrRange}, {"a{2,2}", api.OK},
		{"a{0,0}", api.OK}, {"a{99,98}", api.ErrRange}, {"a{2,}", api.OK}, {"a{1,0}{0}", api.ErrRange}, {"a{0}{1,0}", api.ErrRange}, {"()*{3,2}", api.ErrRange},
		{"([c-a]){0}", api.ErrRange}, {"(a{3,2}|b)", api.ErrRange}, {"a|b|[c-a]", api.ErrRange}, {"[^\x00-\xff][c-a]", api.ErrRange}, {"[^\x00-\xff]a{2,1}", api.ErrRange},
		{"((((((([c-a])))))))", api.ErrRange}, {"a{49}[c-a]", api.ErrRange}, {"a{99,98}", api.ErrRange}, {"(((((((a)))))))b{2,1}", api.ErrRange},
		{"\\[c-a", api.OK}, {"a\\{2,1", api.OK}, {"[a{2,1}]", api.OK}, {"[c\\-a]", api.OK}, {"c-a", api.OK},
	} {
		parsed(t, c.pat, api.Fault{E: c.want})
	}
	for _, pat := range []string{"[c-a", "[c-a](", "[c-a]*)", "a{2,1}}", "a{2,1", "(a{2,1}", "[c-a--]"} {
		at, _ := wrongAt(pat)
		parsed(t, pat, api.Fault{E: api.ErrSyntax, At: at})
	}
}

// bracketed: a in so many pairs of brackets.
func bracketed(pairs int, behind string) string {
	return strings.Repeat("(", pairs) + "a" + strings.Repeat(")", pairs) + behind
}

func TestDepth(t *testing.T) {
	for pairs := 0; pairs <= 12; pairs++ {
		want := api.Fault{}
		if pairs > api.MaxDepth {
			want.E = api.ErrLarge
		}
		parsed(t, bracketed(pairs, ""), want)
		parsed(t, bracketed(pairs, "{0}"), want)
		parsed(t, bracketed(pairs, "[^\x00-\xff]"), want)
		parsed(t, "b|"+bracketed(pairs, "|()"), want)
		parsed(t, strings.Repeat("(", pairs)+strings.Repeat(")*", pairs), want)
		parsed(t, strings.Repeat("()", pairs), api.Fault{})
		parsed(t, strings.Repeat("[(]", pairs), api.Fault{})
		parsed(t, strings.Repeat("\\(", pairs)+"a", api.Fault{})
		parsed(t, strings.Repeat("(", pairs), syntaxAt(pairs+1, pairs > 0))
	}
	parsed(t, "((((((a))))))((((((b))))))((((((c))))))", api.Fault{})
	parsed(t, "(((((((a))))))(((((b)))))|((((((c)))))))", api.Fault{E: api.ErrLarge})
	parsed(t, strings.Repeat("(", api.MaxPat), syntaxAt(api.MaxPat+1, true))
}

// syntaxAt: ErrSyntax, if it is one.
func syntaxAt(at int, wrong bool) api.Fault {
	if !wrong {
		return api.Fault{}
	}
	return api.Fault{E: api.ErrSyntax, At: at}
}

func TestPlaces(t *testing.T) {
	no := "[^\x00-\xff]"
	for _, c := range []struct {
		pat  string
		want api.Errno
	}{
		{"a{48}", api.OK}, {"a{49}", api.ErrLarge}, {"a{0,48}", api.OK}, {"a{0,49}", api.ErrLarge}, {"a{48,48}", api.OK}, {"a{48,49}", api.ErrLarge},
		{"a{47,}", api.OK}, {"a{48,}", api.ErrLarge}, {"a{48}*", api.OK}, {"a{49}*", api.ErrLarge}, {"a{48}?", api.OK}, {"a{49}?", api.ErrLarge}, {"a{24}+", api.OK}, {"a{25}+", api.ErrLarge},
		{"a+++++b{16}", api.OK}, {"a+++++b{17}", api.ErrLarge}, {"a+++++", api.OK}, {"a++++++", api.ErrLarge}, {"a{0,}{48}", api.OK}, {"a{0,}{49}", api.ErrLarge},
		{"a{6}{8}", api.OK}, {"a{7}{7}", api.ErrLarge}, {"(ab){24}", api.OK}, {"(ab){25}", api.ErrLarge}, {"a{24}|b{24}", api.OK}, {"a{24}|b{25}", api.ErrLarge}, {"a{24}b{24}", api.OK}, {"a{24}b{25}", api.ErrLarge},
		{"(a{24}b{24})", api.OK}, {"(a{24}b{24})c", api.ErrLarge}, {"(a{24}b{24})()", api.OK}, {"a{48}|", api.OK}, {"a{48}|b", api.ErrLarge},
		{".{48}", api.OK}, {".{49}", api.ErrLarge}, {"\\a{49}", api.ErrLarge}, {"[abc]{48}", api.OK}, {"[abc]{49}", api.ErrLarge}, {"[^a]{48}", api.OK}, {"[^a]{49}", api.ErrLarge}, {"[^\x00-\xfe]{49}", api.ErrLarge}, {"[^\x01-\xff]{48}", api.OK},
		{"a{99}{99}{99}{99}{99}{99}{99}{99}{99}", api.ErrLarge}, {"a{99}{99}{99}{99}{99}{99}{99}{99}{0}", api.OK}, {"a{99}{99}{99}{99}{99}{99}{99}{0}{0}a", api.OK}, {"a{99}{0}{99}", api.OK}, {"a{99}{0,0}", api.OK}, {"a{99}{0,1}", api.ErrLarge}, {"a{0}{99}b{48}", api.OK}, {"a{0}{99}b{49}", api.ErrLarge},
		{"a{99,}{99,}{99,}{99,}{99,}{99,}{99,}", api.ErrLarge}, {"a{99,}{99,}{99,}{99,}{99,}{99,}{0}", api.OK}, {"(a{99}|b{99}|c{99}){0}", api.OK},
		{"(){99}", api.OK}, {"(){99}{99}{99}", api.OK}, {"()*{99}+{99,}{99}", api.OK}, {"((|){99}){99}a{48}", api.OK}, {"((|){99}){99}a{49}", api.ErrLarge},
		{no, api.OK}, {no + "{99}", api.OK}, {no + "{99}a{49}", api.OK}, {"a{49}" + no, api.OK}, {"(a{99}" + no + "|b)", api.OK}, {"a{49}" + no + "|b{48}", api.OK}, {"a{49}" + no + "|b{49}", api.ErrLarge},
		{"a{49}" + no + "{0}", api.ErrLarge}, {"a{49}" + no + "{1}", api.OK}, {"a{49}" + no + "*", api.ErrLarge}, {"a{49}" + no + "?", api.ErrLarge}, {"a{49}" + no + "+", api.OK}, {"a{49}" + no + "{0,1}", api.ErrLarge}, {"a{49}" + no + "{1,}", api.OK}, {"a{49}" + no + "{0,}", api.ErrLarge},
		{"(a{49}" + no + ")*", api.OK}, {"(a{49}" + no + ")*b{48}", api.OK}, {"(a{49}" + no + ")*b{49}", api.ErrLarge}, {"(a{49}" + no + ")+b{49}", api.OK}, {"(a{49}" + no + ")?b", api.OK},
		{"a{49}(" + no + "|b)", api.ErrLarge}, {"a{47}(" + no + "|b)", api.OK}, {"a{49}(" + no + "|)", api.ErrLarge}, {"a{48}(" + no + "|)", api.OK}, {"a{49}(" + no + "|" + no + ")", api.OK}, {"(a{49}|b)" + no, api.OK},
		{"a{48}[^\\\x00-\xff]*", api.OK}, {"a{49}[^\x00-\x7f\x80-\xff]", api.OK}, {"a{49}[^\x00-\x7f\x81-\xff]", api.ErrLarge},
	} {
		parsed(t, c.pat, api.Fault{E: c.want})
	}
}

func TestLength(t *testing.T) {
	parsed(t, strings.Repeat("a", api.MaxPat), api.Fault{})
	parsed(t, strings.Repeat("a", api.MaxPat-1), api.Fault{})
	for _, n := range []int{api.MaxPat + 1, 48, 49, 1000, 1 << 20} {
		for _, s := range []string{"a", "*", "(", "[c-a]", "\\", "a{99}", "\x00"} {
			parsed(t, strings.Repeat(s, n)[:n], api.Fault{E: api.ErrLong})
		}
	}
	parsed(t, strings.Repeat("*", api.MaxPat), api.Fault{E: api.ErrSyntax, At: 1})
	parsed(t, strings.Repeat("a", api.MaxPat-1)+"\\", api.Fault{E: api.ErrSyntax, At: api.MaxPat + 1})
	parsed(t, strings.Repeat("\\", api.MaxPat), api.Fault{})
	parsed(t, strings.Repeat("\\", api.MaxPat-1), api.Fault{E: api.ErrSyntax, At: api.MaxPat})
}
