// Package index: an index of a text, in which patterns are sought: see DOC.md.
package index

import "textindex/api"

// Index: of a text. The text itself is not kept: the bytes ahead of the rows, in the order of the rows, are the text in another order, and with the row of the whole text they lead back to it. A nil or zero Index is read as that of the empty text, but is saved as nothing.
type Index struct {
	rate  int
	whole int    // the row of the whole text
	ahead string // for each row but that one, in order, the byte that stands ahead of its suffix
}

// Build: the index of a text, with samples rate bytes apart. ErrLong; ErrArg.
func Build(t string, rate int) (*Index, api.Errno) {
	if len(t) > api.MaxText {
		return nil, api.ErrLong
	}
	if rate < 1 || rate > api.MaxRate {
		return nil, api.ErrArg
	}
	return newIndex(t, rate), api.OK
}

// Len, Rate: of the text; of the samples.
func (i *Index) Len() int {
	if i == nil {
		return 0
	}
	return len(i.ahead)
}

func (i *Index) Rate() int {
	if i == nil {
		return 0
	}
	return i.rate
}

// Extract: the text's bytes from place from to to-1. ErrArg.
func (i *Index) Extract(from int, to int) (string, api.Errno) {
	if from < 0 || to < from || to > i.Len() {
		return "", api.ErrArg
	}
	if from == to { // of a nil Index, too, which has nothing to read
		return "", api.OK
	}
	t := i.text()
	return t[from:to], api.OK
}
