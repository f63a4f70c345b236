package index_test

import (
	"slices"
	"strings"
	"testing"

	"textindex/api"
	"textindex/index"
)

// makers: of trees of several kinds of bytes, and of texts that fit.
func makers() []maker {
	a, b, no := aByte("a", "a"), aByte("\\b", "b"), aByte("[^\x00-\xff]", "")
	plain := append(smallTexts("ab", 2), "aaaaaaaa", "abababab", "aabbaabbaa", "abaababaab", "baaabaaaab", "abcabcaab", mixed(12, "ab", 1), mixed(14, "abc", 2))
	wild := []string{"", "\x00", "\xff", "\x00\xff\x00\xff\xff\x00\xfe", "]^-\x00-^]", "\xff\xff\xff\xff", mixed(12, "\x00\xfe\xff", 3), mixed(12, "\x00\xff^", 4)}
	return []maker{
		{1, []*tree{a, b}, plain},
		{2, []*tree{a, a, b, b, no}, plain},
		{3, []*tree{a, b, butBytes(".", ""), aByte("[a-b]", "ab"), butBytes("[^a]", "a"), no}, plain},
		{4, []*tree{aByte("\x00", "\x00"), aByte("\xff", "\xff"), butBytes("[^\x00]", "\x00"), butBytes("[^^\\-\\]]", "^-]"), aByte("[\xfe-\xff]", "\xfe\xff")}, wild},
	}
}

// checkTree: a pattern that was made, in a text.
func checkTree(t *testing.T, x *index.Index, text string, made *tree) {
	t.Helper()
	pat := made.written(false)
	fault := made.fault()
	if fault.E != api.OK {
		refusedAs(t, x, pat, fault)
		return
	}
	want := made.found(text)
	steps := made.steps(text)
	answered(t, x, pat, want, api.Fault{})
	sought(t, x, pat, steps, false, want, api.Fault{})
	sought(t, x, pat, steps, true, want, api.Fault{})
	sought(t, x, pat, steps-1, false, nil, api.Fault{E: api.ErrBudget})
	checkMemo(t, x, pat, steps, want)
}

// checkMemo: with every budget up to that which is wanted. Once it is answered, it stays answered.
func checkMemo(t *testing.T, x *index.Index, pat string, steps int, want []int) {
	t.Helper()
	before := false
	for budget := 0; budget <= steps+1; budget++ {
		l, f := x.Search(pat, budget, true)
		now := f.E == api.OK
		if now && !slices.Equal(l, want) || !now && (f != api.Fault{E: api.ErrBudget} || l != nil) || before && !now || budget == 0 && now || budget >= steps && !now {
			t.Errorf("P8: Search(%q, %d, true) = %v, %+v, want %v, or ErrBudget below %d", pat, budget, l, f, want, steps)
		}
		before = now
		counted(t, x, pat, budget)
	}
}

func TestMadePatterns(t *testing.T) {
	for _, m := range makers() {
		for n := 0; n < 2500; n++ {
			made := m.tree(1 + n%5)
			text := m.texts[m.pick(len(m.texts))]
			checkTree(t, build(t, text, 1+n%api.MaxRate), text, made)
		}
	}
}

func TestSteps(t *testing.T) {
	a200 := strings.Repeat("a", api.MaxText)
	distinct := map[string]bool{}
	mix := mixed(api.MaxText, "ab", 8)
	for p := range mix {
		for q := p + 1; q <= len(mix); q++ {
			distinct[mix[p:q]] = true
		}
	}
	for _, c := range []struct {
		text, pat string
		steps     int
	}{
		{"abracadabra", "ra", 3}, {"aaaa", "a*", 5}, {"aaaa", "b", 1}, {"aaaa", "", 1}, {"aaaa", "()*", 1}, {"", ".*", 1},
		{"aaaa", "a{3}", 4}, {"aaaa", "a{9}", 5}, {"aaaa", "ba", 2}, {"aaaa", "ab", 1}, {"aaaa", "a|aa|aaa", 4}, {"aaaa", "(a|aa)(a|aa)", 5}, {"aaaa", "(a*)*", 5},
		{"aaaa", "a[^\x00-\xff]", 1}, {"aaaa", "[^\x00-\xff]a", 1}, {"aaaa", "[^\x00-\xff]*a", 2}, {"abab", "(b[^\x00-\xff]|a)b", 3}, {"abab", "a{0}b", 2}, {"abab", "a{0,1}b", 3}, {"abab", ".*", 8},
		{"abc", "zc", 2}, {"abc", "z(bc|c)", 3}, {"abc", "[^b]c", 2}, {"abc", "...", 7}, {"abc", "....", 7},
		{a200, "a*", 201}, {a200, ".+", 201}, {a200, "a{48}", 49}, {a200, "a{40}b", 1}, {allBytes(0, 1), ".*", 20101}, {allBytes(0, 1), ".", 201}, {allBytes(0, 1), "..", 400}, {mix, ".*", 1 + len(distinct)},
	} {
		x := build(t, c.text, 3)
		want, f := x.Search(c.pat, c.steps, false)
		if f.E != api.OK {
			t.Errorf("P8: in %.20q Search(%q, %d) = %+v", c.text, c.pat, c.steps, f)
		}
		sought(t, x, c.pat, c.steps-1, false, nil, api.Fault{E: api.ErrBudget})
		sought(t, x, c.pat, c.steps, true, want, api.Fault{})
		answered(t, x, c.pat, want, api.Fault{})
	}
}

// beginnings: how many sets of places there are at which just one of t's texts, or several, begin.
func beginnings(t string) int {
	places := map[string]string{}
	for p := range t {
		for q := p + 1; q <= len(t); q++ {
			places[t[p:q]] += string([]byte{byte(p)})
		}
	}
	sets := map[string]bool{}
	for _, set := range places {
		sets[set] = true
	}
	return len(sets)
}

// Every text is an end of one that .* takes, and all go on in the same way: so of those that begin at the same places, one alone needs to be gone on from.
func TestMemoRemembers(t *testing.T) {
	for _, text := range []string{"", "a", "aaaa", "abab", "abracadabra", "mississippi", allBytes(0, 1)[:128], mixed(api.MaxText, "ab", 8)} {
		x := build(t, text, 3)
		steps := 1 + beginnings(text)
		sought(t, x, ".*", steps, true, placesBut(len(text), -1), api.Fault{})
		sought(t, x, ".*", steps-1, true, nil, api.Fault{E: api.ErrBudget})
		counted(t, x, ".*", steps)
		counted(t, x, ".*", steps-1)
	}
	// Of (..)* the places of the pattern are others for an odd and an even number of bytes; at the last place of the text only one byte begins.
	x := build(t, "abcd", 3)
	sought(t, x, "(..)*", 11, false, []int{0, 1, 2}, api.Fault{})
	sought(t, x, "(..)*", 10, false, nil, api.Fault{E: api.ErrBudget})
	sought(t, x, "(..)*", 8, true, []int{0, 1, 2}, api.Fault{})
	sought(t, x, "(..)*", 7, true, nil, api.Fault{E: api.ErrBudget})
}
