package index_test

import (
	"strings"
	"testing"

	"textindex/api"
	"textindex/index"
)

func TestSaveOfTheExamples(t *testing.T) {
	for _, c := range []struct {
		text string
		rate int
		want string
	}{
		{"ab", 1, "fmi1\x00\x02\x01\x00\x01ba\x00\x01\x00\x02\x00\x00\x0c\x1e"},
		// The sum: 1*103 + 2*110 + 3*106 + 4*50 + 5 + 6 + 7*2 + 8 + 9 + 10 + 11 = 904.
		{"", 1, "fmi1\x00\x00\x01\x00\x00\x00\x00\x03\x88"},
	} {
		got := build(t, c.text, c.rate).Save()
		if got != c.want {
			t.Errorf("P5: of %q, rate %d: Save() = %x, want %x", c.text, c.rate, got, c.want)
		}
	}
}

func TestSaveAndLoadAgain(t *testing.T) {
	for _, text := range append(sampleTexts(), smallTexts("ab", 7)...) {
		for rate := 1; rate <= api.MaxRate; rate++ {
			want := saved(text, rate)
			got := build(t, text, rate).Save()
			if got != want {
				t.Fatalf("P5: of %q, rate %d: Save() = %x, want %x", text, rate, got, want)
			}
			checkLoaded(t, got, text, rate)
		}
	}
}

// checkLoaded: Load must answer the index of text.
func checkLoaded(t *testing.T, s string, text string, rate int) {
	t.Helper()
	x, e := index.Load(s)
	if x == nil || e != api.OK {
		t.Fatalf("P6: of %q, rate %d: what was saved is refused: %d", text, rate, e)
	}
	got, e := x.Extract(0, len(text))
	if e != api.OK || got != text || x.Len() != len(text) || x.Rate() != rate || x.Save() != s {
		t.Errorf("P6: of %q, rate %d, loaded: %q, Len %d, Rate %d", text, rate, got, x.Len(), x.Rate())
	}
}

func TestLoadOfBytesCutOrAdded(t *testing.T) {
	for _, text := range []string{"", "a", "abracadabra", "\x00\xff\x00", strings.Repeat("a", api.MaxText)} {
		for _, rate := range []int{1, 3, api.MaxRate} {
			s := saved(text, rate)
			body := s[:len(s)-2]
			for k := 0; k < len(s); k++ {
				refused(t, s[:k], "cut")
				refused(t, s[k+1:], "cut at the head")
				refused(t, s[:k]+s[k+1:], "a byte taken out")
				refused(t, s[:k]+"\x00"+s[k:], "a byte put in")
			}
			for k := 0; k < len(body); k++ {
				refused(t, summed(body[:k]), "cut, with the right sum")
				refused(t, summed(body[:k]+"\x00"+body[k:]), "a byte put in, with the right sum")
			}
			refused(t, s+"\x00", "a byte added")
			refused(t, s+s, "twice")
			refused(t, summed(s), "a sum added")
			refused(t, summed(body+"\x00\x00"), "a sample added")
			refused(t, s+strings.Repeat("\x00", 1<<20), "much added")
		}
	}
}

func TestLoadOfBytesTurned(t *testing.T) {
	for _, text := range []string{"", "a", "ab", "abracadabra", "mississippi", "\x00\xff\x00", mixed(60, "ab", 9)} {
		s := saved(text, 3)
		for k := range []byte(s) {
			for c := 0; c < 256; c++ {
				if byte(c) == s[k] {
					continue
				}
				turned := s[:k] + string([]byte{byte(c)}) + s[k+1:]
				refused(t, turned, "a byte turned")
				if k < len(s)-2 {
					checkKept(t, summed(turned[:len(s)-2]))
				}
			}
		}
	}
}

// checkKept: what Load takes must be just what the index of the text that it answers is saved as.
func checkKept(t *testing.T, s string) {
	t.Helper()
	x, e := index.Load(s)
	if e == api.ErrCorrupt && x == nil {
		return
	}
	if e != api.OK || x == nil {
		t.Fatalf("P6: Load of %x: nil %v, error %d", s, x == nil, e)
	}
	text, e := x.Extract(0, x.Len())
	if e != api.OK || saved(text, x.Rate()) != s {
		t.Errorf("P6: %x is loaded as %q, rate %d, which is not saved so", s, text, x.Rate())
	}
}

func TestLoadOfOneByteTurnedWithTheRightSum(t *testing.T) {
	for _, c := range []struct {
		text string
		at   int
		b    byte
		ok   bool
	}{
		{"ab", 0, 'F', false}, {"ab", 3, '2', false}, // the mark
		{"ab", 4, 1, false}, {"ab", 5, 1, false}, {"ab", 5, 3, false}, // the length
		{"ab", 6, 0, false}, {"ab", 6, 2, false}, {"ab", 6, 33, false}, {"ab", 6, 255, false}, // the rate
		{"ab", 7, 1, false}, {"ab", 8, 0, false}, {"ab", 8, 2, false}, {"ab", 8, 3, false}, // the row of the whole text
		{"ab", 9, 'a', false}, {"ab", 9, 'c', true}, {"ab", 10, 'b', false}, {"ab", 10, 'c', false}, // the bytes ahead
		{"aa", 9, 'b', false}, {"aa", 10, 'b', true}, {"aa", 10, 0, false},
		{"ab", 11, 1, false}, {"ab", 12, 0, false}, {"ab", 14, 1, false}, {"ab", 16, 1, false}, // the samples
		{"", 5, 1, false}, {"", 6, 0, false}, {"", 6, 2, true}, {"", 6, 32, true}, {"", 6, 33, false}, {"", 8, 1, false}, {"", 10, 1, false},
	} {
		s := saved(c.text, 1)
		s = summed(s[:c.at] + string([]byte{c.b}) + s[c.at+1:len(s)-2])
		x, e := index.Load(s)
		if (e == api.OK) != c.ok || (x != nil) != c.ok {
			t.Errorf("P6: of %q byte %d turned to %d, with the right sum: error %d, want it taken: %v", c.text, c.at, c.b, e, c.ok)
		}
	}
}

// numberLists: every list of n numbers from 0 to most.
func numberLists(n int, most int) [][]int {
	l := [][]int{nil}
	for ; n > 0; n-- {
		var longer [][]int
		for _, a := range l {
			for v := 0; v <= most; v++ {
				longer = append(longer, append(append([]int(nil), a...), v))
			}
		}
		l = longer
	}
	return l
}

func TestLoadTakesJustWhatIsSaved(t *testing.T) {
	texts := smallTexts("a\x00\xff", 3)
	valid := map[string]bool{}
	for rate := 1; rate <= 4; rate++ {
		for _, text := range texts {
			valid[saved(text, rate)] = true
		}
	}
	taken := 0
	for rate := 1; rate <= 4; rate++ {
		for _, column := range texts {
			n := len(column)
			for _, samples := range numberLists(n/rate+1, n+1) {
				for whole := 0; whole <= n+1; whole++ {
					s := framed(n, rate, whole, column, samples)
					x, e := index.Load(s)
					if (e == api.OK) != valid[s] || (x != nil) != valid[s] || e != api.OK && e != api.ErrCorrupt {
						t.Fatalf("P6: Load of %x: error %d, want it taken: %v", s, e, valid[s])
					}
					if e == api.OK {
						taken++
					}
				}
			}
		}
	}
	if taken != len(valid) {
		t.Errorf("P6: %d of %d saved indexes are taken", taken, len(valid))
	}
}

func TestLoadOfTextsAndRatesThatAreNone(t *testing.T) {
	refused(t, saved(strings.Repeat("a", api.MaxText+1), 1), "a text too long")
	refused(t, saved(mixed(300, "ab", 1), 32), "a text too long")
	refused(t, saved("abracadabra", api.MaxRate+1), "a rate too great")
	refused(t, saved("", 255), "a rate too great")
	refused(t, framed(0, 0, 0, "", []int{0}), "the rate 0")
	refused(t, framed(2, 0, 1, "ba", []int{1}), "the rate 0")
	refused(t, framed(0xffff, 32, 0xffff, "", nil), "numbers far too great")
	refused(t, "", "nothing")
	refused(t, "fmi1", "the mark alone")
	refused(t, strings.Repeat("\x00", 9), "nine bytes 0")
	refused(t, strings.Repeat("\xff", 1<<20), "very many bytes 255")
}

func TestLoadOfTwoBytesExchangedWithTheRightSum(t *testing.T) {
	for _, text := range []string{"abracadabra", "\x00\xff\x00\x00\xff", mixed(30, "ab", 4)} {
		s := saved(text, 4)
		for a := 0; a < len(s)-2; a++ {
			for b := a + 1; b < len(s)-2; b++ {
				turned := []byte(s[:len(s)-2])
				turned[a], turned[b] = s[b], s[a]
				checkKept(t, summed(string(turned)))
			}
		}
	}
}

func TestLoadOfColumnsInAnyOrder(t *testing.T) {
	for seed := uint32(0); seed < 400; seed++ {
		n := int(seed) % (api.MaxText + 1)
		rate := 1 + int(seed)%api.MaxRate
		samples := make([]int, n/rate+1)
		for _, whole := range []int{0, n / 2, n, n + 1} {
			checkKept(t, framed(n, rate, whole, mixed(n, "ab\x00\xff", seed), samples))
			checkKept(t, framed(n, rate, whole, mixed(n, "a", seed), samples))
		}
	}
}
