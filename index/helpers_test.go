package index_test

import (
	"bytes"
	"sort"
	"strings"
	"testing"

	"textindex/api"
	"textindex/index"
)

// allBytes: each byte from 0 to 199 or from 56 to 255 once, in one order or the other.
func allBytes(from int, step int) string {
	b := make([]byte, api.MaxText)
	for k := range b {
		b[k] = byte(from + k*step)
	}
	return string(b)
}

// mixed: n bytes out of letters, in an order that looks like none but is always the same.
func mixed(n int, letters string, seed uint32) string {
	b := make([]byte, n)
	for k := range b {
		seed = seed*1664525 + 1013904223
		b[k] = letters[int(seed>>16)%len(letters)]
	}
	return string(b)
}

// sampleTexts: texts of many kinds, those at the edges among them.
func sampleTexts() []string {
	l := []string{
		"", "a", "\x00", "\xff", "ab", "ba", "aa", "\x00\x00", "\xff\xff", "\x00\xff", "\xff\x00",
		"abracadabra", "mississippi", "a.b*[c]\\", "fmi1",
		strings.Repeat("a", api.MaxText), strings.Repeat("\x00", api.MaxText), strings.Repeat("\xff", api.MaxText),
		strings.Repeat("ab", api.MaxText/2), strings.Repeat("ba", 99) + "b",
		strings.Repeat("a", api.MaxText-1) + "b", "b" + strings.Repeat("a", api.MaxText-1),
		allBytes(0, 1), allBytes(56, 1), allBytes(199, -1), allBytes(255, -1),
	}
	for n := 1; n <= api.MaxText; n += 11 {
		l = append(l, mixed(n, "ab", uint32(n)), mixed(n, "\x00\x01\x7f\x80\xfe\xff", uint32(n)), mixed(n, allBytes(56, 1), uint32(n)))
	}
	return l
}

// smallTexts: every text of at most most bytes out of letters.
func smallTexts(letters string, most int) []string {
	l := []string{""}
	for from := 0; most > 0; most-- {
		to := len(l)
		for ; from < to; from++ {
			for k := range letters {
				l = append(l, l[from]+letters[k:k+1])
			}
		}
	}
	return l
}

// saved: what DOC.md says (P5) that an index is saved as, by plain sorting.
func saved(t string, rate int) string {
	order := make([]int, len(t)+1)
	for p := range order {
		order[p] = p
	}
	sort.Slice(order, func(a, b int) bool { return t[order[a]:] < t[order[b]:] })
	rowOf := make([]int, len(t)+1)
	var column []byte
	for row, p := range order {
		rowOf[p] = row
		if p > 0 {
			column = append(column, t[p-1])
		}
	}
	var samples []int
	for p := 0; p <= len(t); p += rate {
		samples = append(samples, rowOf[p])
	}
	return framed(len(t), rate, rowOf[0], string(column), samples)
}

// framed: the parts of a saved index laid behind each other, with the right sum, whether they fit or not.
func framed(n int, rate int, whole int, column string, samples []int) string {
	var b bytes.Buffer
	b.WriteString("fmi1")
	b.Write([]byte{byte(n >> 8), byte(n), byte(rate), byte(whole >> 8), byte(whole)})
	b.WriteString(column)
	for _, row := range samples {
		b.Write([]byte{byte(row >> 8), byte(row)})
	}
	return summed(b.String())
}

// summed: bytes with their sum behind them.
func summed(s string) string {
	sum := 0
	for k := range []byte(s) {
		sum += (k + 1) * (int(s[k]) + 1)
	}
	sum %= 65521
	return s + string([]byte{byte(sum >> 8), byte(sum)})
}

// build: the index of a text that must have one.
func build(t *testing.T, text string, rate int) *index.Index {
	t.Helper()
	x, e := index.Build(text, rate)
	if x == nil || e != api.OK {
		t.Fatalf("Build of %q, rate %d: nil %v, error %d", text, rate, x == nil, e)
	}
	return x
}

// refused: Load must answer nil and ErrCorrupt.
func refused(t *testing.T, s string, why string) {
	t.Helper()
	x, e := index.Load(s)
	if x != nil || e != api.ErrCorrupt {
		t.Errorf("P6: %s: Load of %.40x: nil %v, error %d, want nil, ErrCorrupt", why, s, x == nil, e)
	}
}
