package index_test

import (
	"math"
	"strings"
	"testing"

	"textindex/api"
	"textindex/index"
)

func TestBuildErrors(t *testing.T) {
	long := api.MaxText + 1
	for _, c := range []struct {
		n, rate int
		want    api.Errno
	}{
		{0, 1, api.OK}, {0, api.MaxRate, api.OK}, {1, 1, api.OK}, {1, 2, api.OK},
		{api.MaxText - 1, api.MaxRate - 1, api.OK}, {api.MaxText, 1, api.OK}, {api.MaxText, api.MaxRate, api.OK},
		{long, 1, api.ErrLong}, {long, api.MaxRate, api.ErrLong}, {1 << 20, 1, api.ErrLong},
		{long, 0, api.ErrLong}, {long, -1, api.ErrLong}, {long, api.MaxRate + 1, api.ErrLong},
		{0, 0, api.ErrArg}, {0, -1, api.ErrArg}, {0, api.MaxRate + 1, api.ErrArg},
		{api.MaxText, 0, api.ErrArg}, {api.MaxText, api.MaxRate + 1, api.ErrArg},
		{1, 256, api.ErrArg}, {1, 257, api.ErrArg}, {1, math.MinInt, api.ErrArg}, {1, math.MaxInt, api.ErrArg},
	} {
		x, e := index.Build(strings.Repeat("a", c.n), c.rate)
		if e != c.want || (x == nil) != (c.want != api.OK) {
			t.Errorf("P3: Build of %d bytes, rate %d: nil %v, error %d, want %d", c.n, c.rate, x == nil, e, c.want)
		}
	}
}

func TestLenAndRate(t *testing.T) {
	for _, text := range sampleTexts() {
		for rate := 1; rate <= api.MaxRate; rate++ {
			x := build(t, text, rate)
			if x.Len() != len(text) || x.Rate() != rate {
				t.Errorf("P3: of %d bytes, rate %d: Len %d, Rate %d", len(text), rate, x.Len(), x.Rate())
			}
		}
	}
}

func TestRateShowsInSaveAlone(t *testing.T) {
	for _, text := range sampleTexts() {
		plain := build(t, text, 1)
		for rate := 2; rate <= api.MaxRate; rate++ {
			x := build(t, text, rate)
			a, ae := plain.Extract(0, len(text))
			b, be := x.Extract(0, len(text))
			if a != b || ae != be || x.Len() != plain.Len() {
				t.Errorf("P3: of %q: rate 1 and rate %d answer otherwise", text, rate)
			}
			if x.Save() == plain.Save() {
				t.Errorf("P5: of %q: rate 1 and rate %d are saved alike", text, rate)
			}
		}
	}
}

// checkExtract: Extract at from and to, inside or outside.
func checkExtract(t *testing.T, x *index.Index, text string, from int, to int) {
	t.Helper()
	got, e := x.Extract(from, to)
	want, wantE := "", api.ErrArg
	if 0 <= from && from <= to && to <= len(text) {
		want, wantE = text[from:to], api.OK
	}
	if got != want || e != wantE {
		t.Errorf("P4: of %q: Extract(%d, %d) = %q, %d, want %q, %d", text, from, to, got, e, want, wantE)
	}
}

func TestExtractEverywhere(t *testing.T) {
	texts := append(smallTexts("ab", 5), "abracadabra", "mississippi", "\x00\xff\x00\x00\xff", mixed(40, "ab\x00\xff", 5))
	for _, text := range texts {
		x := build(t, text, 1+len(text)%api.MaxRate)
		for from := -2; from <= len(text)+2; from++ {
			for to := -2; to <= len(text)+2; to++ {
				checkExtract(t, x, text, from, to)
			}
		}
	}
}

func TestExtractAtEdges(t *testing.T) {
	for _, text := range sampleTexts() {
		n := len(text)
		x := build(t, text, 3)
		places := []int{math.MinInt, math.MinInt + 1, -n, -1, 0, 1, n / 2, n - 1, n, n + 1, 2 * n, 256, 1 << 16, math.MaxInt - 1, math.MaxInt}
		for _, from := range places {
			for _, to := range places {
				checkExtract(t, x, text, from, to)
			}
		}
	}
}

func TestAnswersStayTheSame(t *testing.T) {
	x := build(t, "abracadabra", 4)
	before := x.Save()
	other := build(t, "mississippi", 4)
	for k := 0; k < 3; k++ {
		checkExtract(t, x, "abracadabra", 0, 11)
		checkExtract(t, x, "abracadabra", 3, 8)
		checkExtract(t, x, "abracadabra", 8, 3)
		checkExtract(t, other, "mississippi", 0, 11)
		if x.Len() != 11 || x.Rate() != 4 || x.Save() != before || other.Save() == before {
			t.Errorf("P2: the index has changed")
		}
	}
	if build(t, "abracadabra", 4).Save() != before {
		t.Errorf("P2: the same text, built again, is saved otherwise")
	}
}

func TestIndexThatWasNotBuilt(t *testing.T) {
	for _, x := range []*index.Index{nil, {}} {
		checkExtract(t, x, "", 0, 0)
		checkExtract(t, x, "", 0, 1)
		if x.Len() != 0 || x.Rate() != 0 {
			t.Errorf("P1: Len %d, Rate %d of no index", x.Len(), x.Rate())
		}
		refused(t, x.Save(), "no index, saved")
	}
}
