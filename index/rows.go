package index

// newIndex: of a text and a rate that Build has tested.
func newIndex(t string, rate int) *Index {
	rows := sortedRows(t)
	whole := rows[0]
	ahead := make([]byte, len(t))
	for p := 1; p < len(rows); p++ {
		k := slot(rows[p], whole)
		ahead[k] = t[p-1]
	}
	return &Index{rate: rate, whole: whole, ahead: string(ahead)}
}

// sortedRows: for each place of a text, its end too, the row of the suffix that begins there.
func sortedRows(t string) []int {
	rows := make([]int, len(t)+1)
	for p := range rows {
		rows[p] = countBelow(t, p)
	}
	return rows
}

// countBelow: the row of the suffix at place p. No two suffixes are the same, so the number of those that stand ahead of it is its row, and nothing needs to be moved about.
func countBelow(t string, p int) int {
	n := 0
	for q := 0; q <= len(t); q++ {
		if t[q:] < t[p:] {
			n++
		}
	}
	return n
}

// slot: where the byte ahead of a row stands among the bytes ahead of the rows: nothing stands ahead of the whole text, so its row has no slot.
func slot(row int, whole int) int {
	if row > whole {
		return row - 1
	}
	return row
}

// longerRows: for each slot, the row of the suffix that is longer by the byte of that slot. Suffixes that begin with one byte are in the order of what follows that byte; so the rows that begin with it are taken in the order in which it stands in the slots.
func longerRows(ahead string) []int {
	var next [256]int
	for k := 0; k < len(ahead); k++ {
		next[ahead[k]]++
	}
	row := 1 // row 0, the empty suffix, begins with no byte
	for c := 0; c < len(next); c++ {
		count := next[c]
		next[c] = row
		row += count
	}
	rows := make([]int, len(ahead))
	for k := range rows {
		c := ahead[k]
		rows[k] = next[c]
		next[c]++
	}
	return rows
}

// rows: for each place of the text, its end too, the row of the suffix that begins there. Bytes to be loaded may be no text's: then the row of the whole text may come before all places are done, and has no slot to go on from; the places ahead are left at 0.
func (i *Index) rows() []int {
	longer := longerRows(i.ahead)
	rows := make([]int, len(i.ahead)+1)
	for p := len(i.ahead); p > 0 && rows[p] != i.whole; p-- {
		k := slot(rows[p], i.whole)
		rows[p-1] = longer[k]
	}
	return rows
}

// text: the text, or of bytes that are no text's some text of that length.
func (i *Index) text() string {
	rows := i.rows()
	t := make([]byte, len(i.ahead))
	for p := range t {
		row := rows[p+1]
		if row != i.whole {
			k := slot(row, i.whole)
			t[p] = i.ahead[k]
		}
	}
	return string(t)
}
