package index_test

import (
	"fmt"
	"math"
	"slices"
	"strings"
	"testing"

	"textindex/api"
	"textindex/index"
)

// takesNone: a class that takes no byte.
const takesNone = "[^\x00-\xff]"

// said: Count and Exists must answer this, and nothing beside an error.
func said(t *testing.T, x *index.Index, pat string, budget int, count int, fault api.Fault) {
	t.Helper()
	n, nf := x.Count(pat, budget)
	any, anyF := x.Exists(pat, budget)
	if n != count || any != (count > 0) || nf != fault || anyF != fault {
		t.Errorf("P9: of %.50q, %d: Count %d, %+v, Exists %v, %+v, want %d, %+v", pat, budget, n, nf, any, anyF, count, fault)
	}
}

// wants: with every budget up to some more than steps, and with the greatest: just as many are wanted without memo, at most as many with it.
func wants(t *testing.T, x *index.Index, pat string, steps int, want []int) {
	t.Helper()
	for _, budget := range append(budgetsTo(steps+3), 20101, api.MaxSteps-1, api.MaxSteps) {
		if budget < steps {
			sought(t, x, pat, budget, false, nil, api.Fault{E: api.ErrBudget})
			continue
		}
		sought(t, x, pat, budget, false, want, api.Fault{})
		sought(t, x, pat, budget, true, want, api.Fault{})
		said(t, x, pat, budget, len(want), api.Fault{})
	}
	sought(t, x, pat, 0, true, nil, api.Fault{E: api.ErrBudget})
	said(t, x, pat, 0, 0, api.Fault{E: api.ErrBudget})
	checkMemo(t, x, pat, steps, want)
}

// budgetsTo: all from 0 on.
func budgetsTo(most int) []int {
	l := make([]int, most+1)
	for budget := range l {
		l[budget] = budget
	}
	return l
}

func TestStepsOfTheExamples(t *testing.T) {
	for _, c := range []struct {
		text, pat string
		ends      string // those that stand in the text, the empty one apart
		want      []int
	}{
		{"", "a*", "", nil},
		{"abracadabra", "abra", "a ra bra abra", []int{0, 7}},
		{"abracadabra", "a", "a", []int{0, 3, 5, 7, 10}},
		{"abracadabra", "ra", "a ra", []int{2, 9}},
		{"abracadabra", "a.a", "a ra ca da aca ada", []int{3, 5}},
		{"abracadabra", "(ab|ra)+", "b ab a ra bra abra", []int{0, 2, 7, 9}},
		{"abracadabra", "[b-d]a", "a ca da", []int{4, 6}},
		{"abracadabra", "[^a-c]a", "a ra da", []int{2, 6, 9}},
		{"mississippi", "s{2}i", "i si ssi", []int{2, 5}},
		{"mississippi", "(is){1,2}s", "s ss iss siss", []int{1, 4}},
		{"mississippi", "i(ss|pp)i", "i si ssi issi pi ppi ippi", []int{1, 4, 7}},
		{"aaaa", "a{3}", "a aa aaa", []int{0, 1}},
		{"aaaa", "a{2,}", "a aa aaa aaaa", []int{0, 1, 2}},
		{"aaaa", "a*", "a aa aaa aaaa", []int{0, 1, 2, 3}},
		{"aaaa", "b", "", nil},
		{"aaaa", "b*", "", nil},
		{"aaaa", "", "", nil},
		{"aaaa", "()*", "", nil},
		{"a.b*", "\\.b", "b .b", []int{1}},
		{"a.b*", "b\\*", "* b*", []int{2}},
		{"a-b]", "[\\]\\-]", "- ]", []int{1, 3}},
		{"abc", "a**+?", "a", []int{0}},
		{"abc", "a{48}", "a", nil},
		{"abc", "((((((a))))))", "a", []int{0}},
	} {
		wants(t, build(t, c.text, 2), c.pat, 1+len(strings.Fields(c.ends)), c.want)
	}
}

func TestEndsCountOnce(t *testing.T) {
	for _, c := range []struct {
		text, pat string
		ends      string
		want      []int
	}{
		{"abababab", "ab", "b ab", []int{0, 2, 4, 6}},                          // stand in the text more than once
		{"abababab", "(ab){2}", "b ab bab abab", []int{0, 2, 4}},               // also over each other
		{"abab", "ab|ab|(ab)", "b ab", []int{0, 2}},                            // come about in several alternatives
		{"aaaa", "a?a?a?", "a aa aaa", []int{0, 1, 2, 3}},                      // leave out the one byte or the other
		{"aaaa", "(a|aa)*", "a aa aaa aaaa", []int{0, 1, 2, 3}},                // are cut in several ways
		{"aaaa", "(a*)*(a+)+", "a aa aaa aaaa", []int{0, 1, 2, 3}},             // and without end
		{"abcab", "(abc|bc|c)", "c bc abc", []int{0, 1, 2}},                    // are texts of their own, and ends of others
		{"abcabc", "[ab][b]|.b|ab", "b ab", []int{0, 3}},                       // are taken by several classes
		{"abcab", "c|zc|zbc", "c bc", []int{2}},                                // are ends alone of texts that do not stand there
		{"abcab", "zab|ab", "b ab", []int{0, 3}},                               // are both
		{"cab", "(b" + takesNone + "|c)ab|" + takesNone, "b ab cab", []int{0}}, // but not of what takes no text
		{"ab", "(a|ab)", "a b ab", []int{0}},
	} {
		wants(t, build(t, c.text, 4), c.pat, 1+len(strings.Fields(c.ends)), c.want)
	}
}

func TestOneStepIsEnough(t *testing.T) {
	for _, text := range []string{"", "a", "aaaa", "abracadabra", strings.Repeat("a", api.MaxText), allBytes(0, 1)} {
		x := build(t, text, 6)
		for _, pat := range []string{
			takesNone, takesNone + "+", "a" + takesNone, takesNone + "a", "(a" + takesNone + "){2}", "a*" + takesNone + "{1,}", "(" + takesNone + "|" + takesNone + ")a{99}",
			"", "()", "|", "()*", "(|)+", "a{0}", "a{0,0}", "a{99}{0}", takesNone + "*", takesNone + "?", "(a" + takesNone + ")*", "(){99}{99}",
			"\xff", "a\xff", "a*\xff", ".\xff",
		} {
			wants(t, x, pat, 1, nil)
		}
	}
}

// In a text of 200 different bytes every stretch is another.
func TestStepsWhereEveryStretchIsAnother(t *testing.T) {
	text := allBytes(0, 1)
	x := build(t, text, 9)
	every := placesBut(len(text), -1)
	for _, c := range []struct {
		pat   string
		most  int // bytes of an end
		found int
	}{
		{".", 1, 200}, {"..", 2, 199}, {".{48}", 48, 153}, {".{0,48}", 48, 200}, {".*", 200, 200}, {".+", 200, 200}, {".{47,}", 200, 154}, {"(.|..)*", 200, 200},
	} {
		steps := 1
		for size := 1; size <= c.most; size++ {
			steps += len(text) - size + 1
		}
		want := every[:c.found]
		for _, budget := range []int{0, 1, 2, steps - 2, steps - 1} {
			sought(t, x, c.pat, budget, false, nil, api.Fault{E: api.ErrBudget})
		}
		for _, budget := range []int{steps, steps + 1, api.MaxSteps - 1, api.MaxSteps} {
			sought(t, x, c.pat, budget, false, want, api.Fault{})
			sought(t, x, c.pat, budget, true, want, api.Fault{})
			said(t, x, c.pat, budget, c.found, api.Fault{})
		}
		sought(t, x, c.pat, 0, true, nil, api.Fault{E: api.ErrBudget})
		said(t, x, c.pat, 0, 0, api.Fault{E: api.ErrBudget})
	}
}

// No text has so many stretches that the greatest budget would not do.
func TestTheGreatestBudgetIsEnough(t *testing.T) {
	for _, text := range sampleTexts() {
		x := build(t, text, 11)
		for _, pat := range []string{".*", "(.|..|.+)*", ".{0,47}.*", "[^a]*.{20}[^b]*"} {
			for _, budget := range []int{api.MaxSteps - 1, api.MaxSteps} {
				for _, memo := range []bool{false, true} {
					l, f := x.Search(pat, budget, memo)
					if l == nil || f.E != api.OK {
						t.Errorf("P8: in %.20q Search(%q, %d, %v) = nil %v, %+v", text, pat, budget, memo, l == nil, f)
					}
				}
			}
		}
	}
}

// A budget that is none is named ahead of every pattern that is none; that ahead of too few steps.
func TestWhichErrorIsNamedFirst(t *testing.T) {
	faults := []struct {
		pat   string
		fault api.Fault
	}{
		{strings.Repeat("a", api.MaxPat+1), api.Fault{E: api.ErrLong}}, {strings.Repeat("(", api.MaxPat+1), api.Fault{E: api.ErrLong}},
		{"*", api.Fault{E: api.ErrSyntax, At: 1}}, {"ra)", api.Fault{E: api.ErrSyntax, At: 3}}, {"(ra", api.Fault{E: api.ErrSyntax, At: 4}}, {"[c-a]a{49}[]", api.Fault{E: api.ErrSyntax, At: 12}},
		{"r[c-a]", api.Fault{E: api.ErrRange}}, {"a{2,1}", api.Fault{E: api.ErrRange}}, {"(a{49}b{2,1}){0}", api.Fault{E: api.ErrRange}},
		{"a{49}", api.Fault{E: api.ErrLarge}}, {"(((((((ra)))))))", api.Fault{E: api.ErrLarge}}, {".*z{48}", api.Fault{E: api.ErrLarge}},
	}
	right := []string{"", "ra", ".*", "z", "()", takesNone}
	for _, text := range []string{"", "abracadabra", strings.Repeat("a", api.MaxText), allBytes(0, 1)} {
		x := build(t, text, 3)
		for _, budget := range []int{math.MinInt, -api.MaxSteps, -1, api.MaxSteps + 1, 2 * api.MaxSteps, 1 << 32, math.MaxInt} {
			for _, pat := range right {
				erred(t, x, pat, budget, api.Fault{E: api.ErrArg})
			}
			for _, c := range faults {
				erred(t, x, c.pat, budget, api.Fault{E: api.ErrArg})
			}
		}
		for _, c := range faults {
			for _, budget := range append(budgetsTo(30), 1000, 20101, api.MaxSteps-1, api.MaxSteps) {
				erred(t, x, c.pat, budget, c.fault)
			}
		}
		for _, pat := range right {
			erred(t, x, pat, 0, api.Fault{E: api.ErrBudget})
		}
	}
}

// erred: each of the calls must answer this error, and nothing beside it.
func erred(t *testing.T, x *index.Index, pat string, budget int, fault api.Fault) {
	t.Helper()
	sought(t, x, pat, budget, false, nil, fault)
	sought(t, x, pat, budget, true, nil, fault)
	said(t, x, pat, budget, 0, fault)
}

func TestCountAndExists(t *testing.T) {
	for _, c := range []struct {
		text, pat string
		count     int
	}{
		{"", "a", 0}, {"", ".*", 0}, {"", "", 0}, {"a", "a", 1}, {"a", "b", 0}, {"a", "aa", 0}, {"a", "a?", 1}, {"a", "b?", 0},
		{"abracadabra", "a", 5}, {"abracadabra", "abra", 2}, {"abracadabra", "abracadabra", 1}, {"abracadabra", "c", 1}, {"abracadabra", "[^a]", 6}, {"abracadabra", ".", 11}, {"abracadabra", "..", 10}, {"abracadabra", ".*", 11}, {"abracadabra", "aa", 0},
		{"aaaa", "aa", 3}, {"aaaa", "a|aa|aaa", 4}, // places are counted, not texts
		{strings.Repeat("a", api.MaxText), "a", 200}, {strings.Repeat("a", api.MaxText), "a{48}", 153}, {strings.Repeat("ab", 100), "ba", 99},
	} {
		x := build(t, c.text, 5)
		said(t, x, c.pat, enough, c.count, api.Fault{})
		y, e := index.Load(x.Save())
		if e != api.OK {
			t.Fatalf("P6: Load: %d", e)
		}
		said(t, y, c.pat, enough, c.count, api.Fault{})
	}
}

// What was asked before changes nothing in how many steps are wanted: nothing is remembered from call to call.
func TestNothingIsRememberedBetweenCalls(t *testing.T) {
	x := build(t, "mississippi", 2)
	first := ""
	for round := 0; round < 3; round++ {
		all := ""
		for _, pat := range []string{"s+", "i(ss|pp)i", ".*", "(", "s+"} {
			for budget := -1; budget < 60; budget++ {
				l, f := x.Search(pat, budget, false)
				m, g := x.Search(pat, budget, true)
				n, h := x.Count(pat, budget)
				any, j := x.Exists(pat, budget)
				all += fmt.Sprintln(pat, budget, l, f, m, g, n, h, any, j)
				slices.Reverse(l)
				slices.Reverse(m)
			}
		}
		if round == 0 {
			first = all
		}
		if all != first {
			t.Errorf("P2: in round %d other answers", round)
		}
	}
}
