package index

import "textindex/api"

const (
	mark     = "fmi1"
	headSize = len(mark) + 2 + 1 + 2 // the mark, the length, the rate, the row of the whole text
	modulus  = 65521
)

// Save: the index as bytes.
func (i *Index) Save() string {
	if i == nil || i.rate < 1 {
		return ""
	}
	length := u16(len(i.ahead))
	whole := u16(i.whole)
	s := mark + length + string([]byte{byte(i.rate)}) + whole + i.ahead
	rows := i.rows()
	for p := 0; p < len(rows); p += i.rate {
		s += u16(rows[p])
	}
	sum := checkSum(s)
	return s + u16(sum)
}

// Load: the index that bytes are; ErrCorrupt: none is saved so. The bytes are right just if the index of the text to which they lead is saved as them: so nothing in them is tested by itself but what that text needs to be found.
func Load(s string) (*Index, api.Errno) {
	if len(s) < headSize {
		return nil, api.ErrCorrupt
	}
	n := readU16(s[4], s[5])
	rate := int(s[6])
	whole := readU16(s[7], s[8])
	if n > api.MaxText || rate < 1 || rate > api.MaxRate || whole > n {
		return nil, api.ErrCorrupt
	}
	if len(s) != savedSize(n, rate) {
		return nil, api.ErrCorrupt
	}
	claimed := Index{rate: rate, whole: whole, ahead: s[headSize : headSize+n]}
	t := claimed.text()
	x := newIndex(t, rate)
	if x.Save() != s {
		return nil, api.ErrCorrupt
	}
	return x, api.OK
}

// savedSize: how many bytes an index is saved as; rate is at least 1.
func savedSize(n int, rate int) int {
	samples := n/rate + 1
	return headSize + n + 2*samples + 2
}

// checkSum: of bytes that are saved.
func checkSum(s string) int {
	sum := 0
	for k := 0; k < len(s); k++ {
		sum = (sum + (k+1)*(int(s[k])+1)) % modulus
	}
	return sum
}

// u16: a number as two bytes, the high one first.
func u16(v int) string {
	return string([]byte{byte(v >> 8), byte(v)})
}

// readU16: the number that two bytes are.
func readU16(high byte, low byte) int {
	return int(high)<<8 + int(low)
}
