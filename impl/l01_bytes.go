package impl

import "strings"

const MaxNumber = 1099511627776
const MaxList = 200
const MaxText = 2000

// A byte of a number carries seven bits; what is left of it, more, says that another byte follows.
const sevenBits = 7
const more = 1 << sevenBits

// MaxNumber takes this many bytes, so a number that goes on beyond them is none.
const longestNumber = 6

// A cursor reads a row from the front. A read that fails leaves it where it stood.
type cursor struct {
	row string
	at  int
}

func Number(n int64) []byte {
	if n < 0 || n > MaxNumber {
		return nil
	}
	row := make([]byte, 0, longestNumber)
	for n >= more {
		row = append(row, byte(n%more+more))
		n /= more
	}
	return append(row, byte(n))
}

func ReadNumber(data []byte) (int64, int64) {
	c := cursor{row: string(data[:min(len(data), longestNumber)])}
	n, ok := c.number()
	if !ok {
		return 0, 0
	}
	return n, int64(c.at)
}

func Numbers(list []int64) string {
	if len(list) > MaxList {
		return ""
	}
	row := Number(int64(len(list)))
	for _, n := range list {
		one := Number(n)
		if len(one) == 0 {
			return ""
		}
		row = append(row, one...)
	}
	return string(row)
}

func ReadNumbers(s string) ([]int64, bool) {
	c := &cursor{row: s}
	return readList(c, c.number)
}

func Texts(list []string) string {
	if len(list) > MaxList {
		return ""
	}
	row := Number(int64(len(list)))
	for _, s := range list {
		if len(s) > MaxText {
			return ""
		}
		row = append(row, Number(int64(len(s)))...)
		row = append(row, s...)
	}
	return string(row)
}

func ReadTexts(s string) ([]string, bool) {
	c := &cursor{row: s}
	return readList(c, c.text)
}

func (c *cursor) number() (int64, bool) {
	n := int64(0)
	for i, b := range []byte(c.row[c.at:min(len(c.row), c.at+longestNumber)]) {
		n += int64(b%more) << (sevenBits * i)
		if b >= more {
			continue
		}
		// A last byte of 0 behind others adds nothing: Number would have ended ahead of it.
		if n > MaxNumber || b == 0 && i > 0 {
			return 0, false
		}
		c.at += i + 1
		return n, true
	}
	return 0, false
}

func (c *cursor) text() (string, bool) {
	s, ok := c.piece(MaxText)
	// A piece of the row would keep, and share, the memory of the whole one.
	return strings.Clone(s), ok
}

// piece reads the Number of at most so many bytes, and these, which lie in the memory of the row.
func (c *cursor) piece(most int64) (string, bool) {
	ahead := *c
	size, ok := ahead.number()
	if !ok || size > most || size > int64(len(ahead.row)-ahead.at) {
		return "", false
	}
	c.at = ahead.at + int(size)
	return c.row[ahead.at:c.at], true
}

// readList asks for nothing behind the last item, because no list makes a row that goes on.
func readList[T any](c *cursor, item func() (T, bool)) ([]T, bool) {
	count, ok := c.number()
	if !ok || count > MaxList {
		return nil, false
	}
	list := make([]T, 0, count)
	for range count {
		one, ok := item()
		if !ok {
			return nil, false
		}
		list = append(list, one)
	}
	if c.at < len(c.row) {
		return nil, false
	}
	return list, true
}
