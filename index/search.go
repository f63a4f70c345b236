package index

import (
	"textindex/api"
	"textindex/pattern"
)

// stretch: the rows from low to before high, all those whose suffixes begin with a text that is an end of one the pattern takes; and the places of the pattern at which that text can begin.
type stretch struct {
	low    int
	high   int
	places pattern.Set
	twin   int // the stretch in the list, counted from 1, that was the last to begin at the same row; 0: there is none
}

// walk: through the index, from the end of a pattern on, a byte at a time. Each stretch in the list is one step.
type walk struct {
	index  *Index
	pat    *pattern.Pattern
	memo   bool
	longer []int
	list   []stretch
	newest []int // for each row, the newest stretch in the list, counted from 1, that begins there
}

// Search: where texts that the pattern takes begin, the empty one apart: rising, in a fresh list. In at most budget steps (memo: what has been gone on from is remembered). Faults: ErrArg (budget not 0 .. MaxSteps); ErrLong; ErrSyntax with its place; ErrRange; ErrLarge; ErrBudget.
func (i *Index) Search(pat string, budget int, memo bool) ([]int, api.Fault) {
	if budget < 0 || budget > api.MaxSteps {
		return nil, api.Fault{E: api.ErrArg}
	}
	p, fault := pattern.Parse(pat)
	if fault.E != api.OK {
		return nil, fault
	}
	if i == nil {
		i = &Index{}
	}
	longer := longerRows(i.ahead)
	w := walk{index: i, pat: p, memo: memo, longer: longer, newest: make([]int, len(i.ahead)+1)}
	done := w.run(budget)
	if !done {
		return nil, api.Fault{E: api.ErrBudget}
	}
	return w.found(), api.Fault{}
}

// Count: how many there are. Exists: are there any? (With what was gone on from remembered.)
func (i *Index) Count(pat string, budget int) (int, api.Fault) {
	l, fault := i.Search(pat, budget, true)
	return len(l), fault
}

func (i *Index) Exists(pat string, budget int) (bool, api.Fault) {
	l, fault := i.Search(pat, budget, true)
	return len(l) > 0, fault
}

// run: goes on from every stretch, the first of which is that of the empty text, in all rows. False: it wants more steps. It ends, for each text is longer than the one that it was gone on to from, and stands in the index's text.
func (w *walk) run(budget int) bool {
	rows := len(w.index.ahead) + 1
	w.add(stretch{low: 0, high: rows, places: pattern.End})
	for k := 0; k < len(w.list) && len(w.list) <= budget; k++ {
		s := w.list[k]
		w.goOn(s)
	}
	return len(w.list) <= budget
}

// goOn: to each text that is longer by a byte ahead. The rows of such a text are next to each other, in the order in which its byte stands ahead of the rows of s: the first of those leads to the first of these.
func (w *walk) goOn(s stretch) {
	from := slot(s.low, w.index.whole)
	to := slot(s.high, w.index.whole)
	var count [256]int
	for k := from; k < to; k++ {
		c := w.index.ahead[k]
		count[c]++
	}
	for k := from; k < to; k++ {
		c := w.index.ahead[k]
		size := count[c]
		if size == 0 {
			continue
		}
		count[c] = 0 // all rows of this byte are dealt with here
		places := w.pat.Ahead(s.places, c)
		if places != 0 {
			low := w.longer[k]
			w.add(stretch{low: low, high: low + size, places: places})
		}
	}
}

// add: lays a stretch into the list. What follows from it hangs on its rows and places alone: so one that is there already, of a shorter text, can be left out.
func (w *walk) add(s stretch) {
	if w.memo && w.has(s) {
		return
	}
	s.twin = w.newest[s.low]
	w.list = append(w.list, s)
	w.newest[s.low] = len(w.list)
}

// has: is there a stretch of the same rows and places in the list?
func (w *walk) has(s stretch) bool {
	for k := w.newest[s.low]; k > 0; k = w.list[k-1].twin {
		old := w.list[k-1]
		if old.high == s.high && old.places == s.places {
			return true
		}
	}
	return false
}

// found: the places in the text of all rows whose suffixes begin with a text that the pattern takes.
func (w *walk) found() []int {
	marked := make([]bool, len(w.index.ahead)+1)
	for k := range w.list {
		s := w.list[k]
		if w.pat.Begins(s.places) {
			for row := s.low; row < s.high; row++ {
				marked[row] = true
			}
		}
	}
	count := 0
	for row := range marked {
		if marked[row] {
			count++
		}
	}
	list := make([]int, count)
	count = 0
	rows := w.index.rows()
	for p := range rows {
		row := rows[p]
		if marked[row] && count < len(list) {
			list[count] = p
			count++
		}
	}
	return list
}
