package index_test

import (
	"math"
	"slices"
	"strings"
	"testing"

	"textindex/api"
	"textindex/index"
)

const enough = api.MaxSteps

// sought: Search must answer this; a list that is the caller's own, or nil.
func sought(t *testing.T, x *index.Index, pat string, budget int, memo bool, want []int, fault api.Fault) {
	t.Helper()
	got, f := x.Search(pat, budget, memo)
	if f != fault || !slices.Equal(got, want) || (got == nil) != (f.E != api.OK) || cap(got) != len(got) {
		t.Errorf("P7: Search(%q, %d, %v) = %v (nil %v, room for %d), %+v, want %v, %+v", pat, budget, memo, got, got == nil, cap(got), f, want, fault)
	}
}

// counted: Count and Exists must say of a pattern what Search with memo answers.
func counted(t *testing.T, x *index.Index, pat string, budget int) {
	t.Helper()
	l, f := x.Search(pat, budget, true)
	n, nf := x.Count(pat, budget)
	any, anyF := x.Exists(pat, budget)
	if n != len(l) || any != (len(l) > 0) || nf != f || anyF != f {
		t.Errorf("P9: of %q, %d: Count %d, %+v, Exists %v, %+v, but Search %v, %+v", pat, budget, n, nf, any, anyF, l, f)
	}
}

// answered: what Search, with steps enough, and Count and Exists must answer.
func answered(t *testing.T, x *index.Index, pat string, want []int, fault api.Fault) {
	t.Helper()
	sought(t, x, pat, enough, false, want, fault)
	sought(t, x, pat, enough, true, want, fault)
	counted(t, x, pat, enough)
}

// refusedAs: what is refused with steps enough is refused with every budget.
func refusedAs(t *testing.T, x *index.Index, pat string, fault api.Fault) {
	t.Helper()
	for _, budget := range []int{0, 1, 2, 1000, api.MaxSteps - 1, api.MaxSteps} {
		sought(t, x, pat, budget, false, nil, fault)
		sought(t, x, pat, budget, true, nil, fault)
		counted(t, x, pat, budget)
	}
}

func TestSearchOfTheExamples(t *testing.T) {
	for _, c := range []struct {
		text, pat string
		want      []int
	}{
		{"", "a*", nil},
		{"abracadabra", "abra", []int{0, 7}}, {"abracadabra", "a", []int{0, 3, 5, 7, 10}}, {"abracadabra", "a.a", []int{3, 5}}, {"abracadabra", "ra", []int{2, 9}},
		{"abracadabra", "(ab|ra)+", []int{0, 2, 7, 9}}, {"abracadabra", "[b-d]a", []int{4, 6}}, {"abracadabra", "[^a-c]a", []int{2, 6, 9}},
		{"mississippi", "s{2}i", []int{2, 5}}, {"mississippi", "(is){1,2}s", []int{1, 4}}, {"mississippi", "i(ss|pp)i", []int{1, 4, 7}},
		{"aaaa", "a{3}", []int{0, 1}}, {"aaaa", "a{2,}", []int{0, 1, 2}}, {"aaaa", "b*", nil}, {"aaaa", "", nil}, {"aaaa", "()*", nil}, {"aaaa", "a*", []int{0, 1, 2, 3}}, {"aaaa", "b", nil},
		{"a.b*", "\\.b", []int{1}}, {"a.b*", "b\\*", []int{2}}, {"a-b]", "[\\]\\-]", []int{1, 3}},
		{"abc", "a**+?", []int{0}}, {"abc", "a{48}", nil}, {"abc", "((((((a))))))", []int{0}},
	} {
		answered(t, build(t, c.text, 3), c.pat, c.want, api.Fault{})
	}
	for _, c := range []struct {
		pat   string
		fault api.Fault
	}{
		{"*", api.Fault{E: api.ErrSyntax, At: 1}}, {"(a", api.Fault{E: api.ErrSyntax, At: 3}}, {"a)", api.Fault{E: api.ErrSyntax, At: 2}},
		{"[]", api.Fault{E: api.ErrSyntax, At: 2}}, {"[a-", api.Fault{E: api.ErrSyntax, At: 4}}, {"[a--]", api.Fault{E: api.ErrSyntax, At: 4}},
		{"a{", api.Fault{E: api.ErrSyntax, At: 3}}, {"a{x", api.Fault{E: api.ErrSyntax, At: 3}}, {"a{123}", api.Fault{E: api.ErrSyntax, At: 5}}, {"a\\", api.Fault{E: api.ErrSyntax, At: 3}},
		{"[c-a]", api.Fault{E: api.ErrRange}}, {"a{2,1}", api.Fault{E: api.ErrRange}},
		{"a{49}", api.Fault{E: api.ErrLarge}}, {"(((((((a)))))))", api.Fault{E: api.ErrLarge}},
	} {
		refusedAs(t, build(t, "abc", 3), c.pat, c.fault)
	}
}

func TestSearchErrorsInTheirOrder(t *testing.T) {
	faults := []struct {
		pat   string
		fault api.Fault
	}{
		{strings.Repeat("a", api.MaxPat+1), api.Fault{E: api.ErrLong}}, {strings.Repeat("*", api.MaxPat+1), api.Fault{E: api.ErrLong}}, {strings.Repeat("*", 1<<20), api.Fault{E: api.ErrLong}}, {strings.Repeat("[c-a]", 9), api.Fault{E: api.ErrLong}},
		{"(((((((a{49}[c-a]", api.Fault{E: api.ErrSyntax, At: 18}}, {"[c-a]a{49}(((((((a))))))))", api.Fault{E: api.ErrSyntax, At: 26}}, {"[c-a*", api.Fault{E: api.ErrSyntax, At: 6}},
		{"(((((((a{49}[c-a])))))))", api.Fault{E: api.ErrRange}}, {"a{49}b{2,1}", api.Fault{E: api.ErrRange}}, {"a{99,98}", api.Fault{E: api.ErrRange}},
		{"(((((((a{49})))))))", api.Fault{E: api.ErrLarge}}, {"a{49}", api.Fault{E: api.ErrLarge}},
	}
	for _, text := range []string{"", "abc", strings.Repeat("ab", 100)} {
		x := build(t, text, 2)
		for _, c := range faults {
			refusedAs(t, x, c.pat, c.fault)
		}
		for _, budget := range []int{-1, -2, math.MinInt, api.MaxSteps + 1, api.MaxSteps + 2, 1 << 32, math.MaxInt} {
			for _, pat := range []string{"a", "", "*", "[c-a]", "a{49}", strings.Repeat("a", api.MaxPat+1), strings.Repeat("(", api.MaxPat+1)} {
				sought(t, x, pat, budget, false, nil, api.Fault{E: api.ErrArg})
				sought(t, x, pat, budget, true, nil, api.Fault{E: api.ErrArg})
				counted(t, x, pat, budget)
			}
		}
	}
}

func TestSearchWithNoSteps(t *testing.T) {
	for _, text := range []string{"", "a", "abracadabra"} {
		x := build(t, text, 1)
		for _, pat := range []string{"", "a", "z", "()*", "[^\x00-\xff]", ".*"} {
			sought(t, x, pat, 0, false, nil, api.Fault{E: api.ErrBudget})
			sought(t, x, pat, 0, true, nil, api.Fault{E: api.ErrBudget})
			counted(t, x, pat, 0)
		}
		for _, pat := range []string{"", "z", "()*", "[^\x00-\xff]", "a{0}"} {
			sought(t, x, pat, 1, false, []int{}, api.Fault{})
			sought(t, x, pat, 1, true, []int{}, api.Fault{})
		}
	}
	x := build(t, "abracadabra", 1)
	sought(t, x, "ra", 2, false, nil, api.Fault{E: api.ErrBudget})
	sought(t, x, "ra", 3, false, []int{2, 9}, api.Fault{})
	sought(t, x, "ra", api.MaxSteps-1, false, []int{2, 9}, api.Fault{})
	sought(t, x, "ra", api.MaxSteps, false, []int{2, 9}, api.Fault{})
}

func TestSearchOfEveryByte(t *testing.T) {
	for _, text := range []string{allBytes(0, 1), allBytes(255, -1), allBytes(0, 1)[:128] + allBytes(255, -1)[:72]} {
		x := build(t, text, 7)
		for c := 0; c < 256; c++ {
			one := string([]byte{byte(c)})
			at := strings.IndexByte(text, byte(c))
			var here []int
			if at >= 0 {
				here = []int{at}
			}
			others := placesBut(len(text), at)
			answered(t, x, "\\"+one, here, api.Fault{})
			answered(t, x, "[\\"+one+"]", here, api.Fault{})
			answered(t, x, "[^\\"+one+"]", others, api.Fault{})
			answered(t, x, "[\\"+one+"-\\"+one+"]", here, api.Fault{})
			if !strings.Contains("()|*+?{}[].\\", one) {
				answered(t, x, one, here, api.Fault{})
			}
			if !strings.Contains("]\\-^", one) {
				answered(t, x, "["+one+"]", here, api.Fault{})
				answered(t, x, "[^"+one+"-"+one+"]", others, api.Fault{})
			}
		}
		answered(t, x, ".", placesBut(len(text), -1), api.Fault{})
		answered(t, x, "[\x00-\xff]", placesBut(len(text), -1), api.Fault{})
		answered(t, x, "[^\x00-\xff]", nil, api.Fault{})
	}
}

// placesBut: the places of n bytes, but one.
func placesBut(n int, at int) []int {
	var l []int
	for p := 0; p < n; p++ {
		if p != at {
			l = append(l, p)
		}
	}
	return l
}

func TestSearchOfClasses(t *testing.T) {
	for _, c := range []struct {
		text, pat string
		want      []int
	}{
		{"a^b", "^", []int{1}}, {"a^b", "a^", []int{0}}, {"a^b", "[a^]", []int{0, 1}}, {"a^b", "[^^]", []int{0, 2}}, {"a^b", "[^a^]", []int{2}}, {"a^b", "[\\^]", []int{1}}, {"a^b", "[\\^a]", []int{0, 1}}, {"a^b", "[^\\^a]", []int{2}}, {"a^b_", "[\\^-a]", []int{0, 1, 3}}, {"a^b_", "[x^-a]", []int{0, 1, 3}},
		{"a-z", "-", []int{1}}, {"a-z", "a-z", []int{0}}, {"a-bz", "[a\\-z]", []int{0, 1, 3}}, {"a-bz", "[^a\\-z]", []int{2}}, {",-./", "[,-.]", []int{0, 1, 2}}, {",-./", "[\\--.]", []int{1, 2}}, {",-./", "[,-\\-]", []int{0, 1}},
		{"a]b", "[^\\]]", []int{0, 2}}, {"[(|", "[[(|]", []int{0, 1, 2}}, {"a*b", "[*]", []int{1}}, {"a.b", "[.]", []int{1}}, {"a\\b", "[\\\\]", []int{1}}, {"a\\b", "\\\\", []int{1}}, {"{1,2}", "[{}]", []int{0, 4}}, {"n\n", "\\n", []int{0}}, {"n\n", "\n", []int{1}},
		{"abcde", "[a-be]", []int{0, 1, 4}}, {"abcde", "[ac-d]", []int{0, 2, 3}}, {"abcde", "[a-bd-e]", []int{0, 1, 3, 4}}, {"abcde", "[a-cb-d]", []int{0, 1, 2, 3}}, {"abcde", "[aaaa]", []int{0}}, {"abcde", "[^a-be]", []int{2, 3}}, {"aaaa", "[^a]", nil},
		{"\x00\x7f\x80\xff", "[\x7f-\x80]", []int{1, 2}}, {"\x00\x7f\x80\xff", "[^\x01-\xfe]", []int{0, 3}}, {"\x00\x7f\x80\xff", "[^\x00-\xfe]", []int{3}}, {"\x00\x7f\x80\xff", "[^\x01-\xff]", []int{0}},
		{"é", ".", []int{0, 1}}, {"é", "..", []int{0}}, {"é", "é", []int{0}}, {"éa", "[é]", []int{0, 1}},
		{"abc", "[^\x00-\xff]|b", []int{1}}, {"abc", "a[^\x00-\xff]", nil}, {"abc", "[^\x00-\xff]a", nil}, {"abc", "a[^\x00-\xff]*b", []int{0}}, {"abc", "a[^\x00-\xff]?b", []int{0}}, {"abc", "a[^\x00-\xff]{0}b", []int{0}}, {"abc", "a[^\x00-\xff]+b", nil}, {"abc", "(a[^\x00-\xff])*b", []int{1}}, {"abc", "(a{99}[^\x00-\xff]|b)c", []int{1}},
	} {
		answered(t, build(t, c.text, 2), c.pat, c.want, api.Fault{})
	}
}

func TestSearchOfRepetitions(t *testing.T) {
	a9 := strings.Repeat("a", 9)
	for _, c := range []struct {
		text, pat string
		want      []int
	}{
		{a9, "a{2}*", []int{0, 1, 2, 3, 4, 5, 6, 7}}, {"b" + a9 + "b", "ba{2}*b", nil}, {"b" + a9 + "b", "ba{3}*b", []int{0}}, {"b" + a9 + "b", "b(a{3}|a{6}){2}b", []int{0}}, {"b" + a9 + "b", "ba{2}{4}b", nil}, {"b" + a9 + "b", "ba{3}{3}b", []int{0}}, {"b" + a9 + "b", "ba{2,}{4}b", []int{0}}, {"b" + a9 + "b", "ba{2,3}{4}b", []int{0}}, {"b" + a9 + "b", "ba{2}{4,5}b", nil}, {"b" + a9 + "b", "ba{3}+b", []int{0}}, {"b" + a9 + "b", "ba{4}?{2}b", nil}, {"b" + a9 + "b", "ba{9}?b", []int{0}}, {"b" + a9 + "b", "ba{10}?b", nil}, {"b" + a9 + "b", "ba{8,}b", []int{0}}, {"b" + a9 + "b", "ba{10,}b", nil}, {"b" + a9 + "b", "ba{08,09}b", []int{0}}, {"b" + a9 + "b", "ba{7,8}b", nil}, {"b" + a9 + "b", "ba{0,8}b", nil},
		{"bb", "ba{0}b", []int{0}}, {"bb", "ba*b", []int{0}}, {"bb", "ba?b", []int{0}}, {"bb", "ba{0,5}b", []int{0}}, {"bb", "ba{0,}b", []int{0}}, {"bb", "ba+b", nil}, {"bab", "ba+b", []int{0}}, {"baab", "ba+b", []int{0}}, {"baab", "ba?b", nil}, {"bab", "ba{0}b", nil}, {"bab", "ba{0,0}b", nil}, {"bb", "b(){99}b", []int{0}}, {"bb", "b()*+?{2,}b", []int{0}}, {"bb", "ba{99}{0}b", []int{0}},
		{"abab", "(ab)*", []int{0, 2}}, {"ababab", "(ab){2}", []int{0, 2}}, {"aabb", "a*b*", []int{0, 1, 2, 3}}, {"aabb", "(a*b*)*c", nil}, {"aabb", "(a?){3}b", []int{0, 1, 2, 3}}, {"aabb", "(a|){3}b", []int{0, 1, 2, 3}}, {"xaab", "(a?){1}b", []int{2, 3}},
		{"abc", "(|a)(|b)(|c)", []int{0, 1, 2}}, {"abc", "|||", nil}, {"abc", "a||c", []int{0, 2}}, {"abc", "(a|b|)c", []int{1, 2}}, {"abcabc", "(a(b(c)?)?)?", []int{0, 3}}, {"abc", "b.*", []int{1}}, {"abc", ".*b", []int{0, 1}}, {"abc", "c.", nil}, {"abc", ".a", nil}, {"abc", "abc", []int{0}}, {"abc", "abcd", nil},
	} {
		answered(t, build(t, c.text, 4), c.pat, c.want, api.Fault{})
	}
}

func TestSearchAtTheSizes(t *testing.T) {
	long := strings.Repeat("a", api.MaxText)
	x := build(t, long, 5)
	for _, n := range []int{1, 2, 39, 40} {
		answered(t, x, strings.Repeat("a", n), placesBut(api.MaxText-n+1, -1), api.Fault{})
	}
	answered(t, x, strings.Repeat("a", 41), nil, api.Fault{E: api.ErrLong})
	for _, c := range []struct {
		pat  string
		from int // the shortest text that is found
	}{
		{"a{48}", 48}, {"a{47,}", 47}, {"a{0,48}", 1}, {"a{24}+", 24}, {"a{12}{4}", 48}, {".{48}", 48}, {"(a|b){24}", 24}, {"((((((a{8}){6})))))", 48}, {"a{47}[^b]", 48}, {"a{16}[ab]{16}[^b]{16}", 48}, {"(a{46}b*)a", 47},
	} {
		answered(t, x, c.pat, placesBut(api.MaxText-c.from+1, -1), api.Fault{})
	}
	for _, pat := range []string{"a{49}", "a{48}a", "a{48,}", "a{0,49}", "a{25}+", "a{7}{7}", "a{48}|a", "(((((((a)))))))", "((((((((a))))))))*"} {
		answered(t, x, pat, nil, api.Fault{E: api.ErrLarge})
	}
	whole := build(t, allBytes(0, 1), 32)
	answered(t, whole, ".*\xc7", placesBut(api.MaxText, -1), api.Fault{})
	answered(t, whole, "\\\x00.*\xc7", []int{0}, api.Fault{})
}

func TestSearchInTheEmptyText(t *testing.T) {
	loaded, e := index.Load(saved("", 1))
	if e != api.OK {
		t.Fatalf("P6: Load: %d", e)
	}
	for _, x := range []*index.Index{build(t, "", 1), build(t, "", 32), loaded, nil, {}} {
		for _, pat := range []string{"", "a", "a*", ".", "()", "\x00", "[^a]", "[^\x00-\xff]*"} {
			answered(t, x, pat, []int{}, api.Fault{})
			sought(t, x, pat, 1, false, []int{}, api.Fault{})
			sought(t, x, pat, 0, false, nil, api.Fault{E: api.ErrBudget})
		}
		answered(t, x, "(", nil, api.Fault{E: api.ErrSyntax, At: 2})
		answered(t, x, "a{49}", nil, api.Fault{E: api.ErrLarge})
	}
}

func TestListsAreTheCallersOwn(t *testing.T) {
	x := build(t, "abracadabra", 4)
	before := x.Save()
	a, _ := x.Search("a", enough, false)
	b, _ := x.Search("a", enough, false)
	none, _ := x.Search("z", enough, true)
	for k := range a {
		a[k] = -1
	}
	a = append(a, 99)
	none = append(none, 98)
	answered(t, x, "a", []int{0, 3, 5, 7, 10}, api.Fault{})
	answered(t, x, "ra", []int{2, 9}, api.Fault{})
	answered(t, x, "z", nil, api.Fault{})
	answered(t, x, "a{", nil, api.Fault{E: api.ErrSyntax, At: 3})
	if !slices.Equal(a, []int{-1, -1, -1, -1, -1, 99}) || !slices.Equal(b, []int{0, 3, 5, 7, 10}) || !slices.Equal(none, []int{98}) {
		t.Errorf("P10: lists that were answered: %v, %v, %v", a, b, none)
	}
	if x.Save() != before || x.Len() != 11 || x.Rate() != 4 {
		t.Errorf("P2: the index has changed")
	}
}

func TestSearchHangsOnTheTextAlone(t *testing.T) {
	for _, text := range []string{"abracadabra", "mississippi", mixed(60, "ab\x00\xff", 3)} {
		plain := build(t, text, 1)
		for rate := 1; rate <= api.MaxRate; rate++ {
			x := build(t, text, rate)
			y, e := index.Load(x.Save())
			if e != api.OK {
				t.Fatalf("P6: Load: %d", e)
			}
			for _, pat := range []string{"a", "i.*", "[^a]+", "(a|s)+", "\x00|\xff", "(", "a{49}", "[c-a]"} {
				for _, budget := range []int{0, 3, 9, enough} {
					l, f := plain.Search(pat, budget, false)
					sought(t, x, pat, budget, false, l, f)
					sought(t, y, pat, budget, false, l, f)
					m, g := plain.Search(pat, budget, true)
					sought(t, x, pat, budget, true, m, g)
					sought(t, y, pat, budget, true, m, g)
				}
			}
		}
	}
}
