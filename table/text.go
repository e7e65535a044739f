package table

import (
	"redress/api"
	"redress/sum"
)

// A table's text, each number with its lowest byte first: how many entries there are (2 bytes); the index, for each block the place of its first entry among all rows (4), the length of that one's key (1) and the key; the rows, for each entry the key's length (1), the value's (2), the key and the value; the sum of all that (4). It tells by its beginning how long it is, so no table begins another one.
const (
	group = 16              // entries of a block, but for the last one
	none  = api.MaxCell + 1 // stands for a value's length where the key is gone
	after = 4               // bytes of the sum
)

// text is the table of a right list.
func text(l []Entry) string {
	var index, rows []byte
	for i, e := range l {
		if i%group == 0 {
			index = number(index, 4, len(rows))
			index = append(number(index, 1, len(e.Key)), e.Key...)
		}
		rows = row(rows, e)
	}
	body := string(number(nil, 2, len(l))) + string(index) + string(rows)
	return body + string(number(nil, after, int(sum.Crc(body))))
}

// row puts an entry behind others.
func row(rows []byte, e Entry) []byte {
	value := len(e.Value)
	if e.Gone {
		value = none
	}
	rows = number(rows, 1, len(e.Key))
	rows = number(rows, 2, value)
	rows = append(rows, e.Key...)
	return append(rows, e.Value...)
}

// number puts a number of some bytes behind others.
func number(b []byte, width, n int) []byte {
	for range width {
		b = append(b, byte(n))
		n >>= 8
	}
	return b
}

// cursor goes through a text. What there is not, behind its end, is taken as nothing.
type cursor struct{ rest string }

// take is the next bytes, if there are so many.
func (c *cursor) take(n int) string {
	s := c.rest[:min(n, len(c.rest))]
	c.rest = c.rest[len(s):]
	return s
}

// number is the number that the next bytes are.
func (c *cursor) number(width int) int {
	n, s := 0, c.take(width)
	for i := range len(s) {
		n |= int(s[i]) << (8 * i)
	}
	return n
}

// read is the table that a text is, if it is one; else some table.
func read(s string) *Table {
	c := &cursor{s[:max(0, len(s)-after)]}
	t := &Table{count: c.number(2)}
	for at := 0; at < t.count; at += group {
		place := c.number(4)
		t.index = append(t.index, block{c.take(c.number(1)), place})
	}
	t.rows = c.rest
	return t
}

// at is the entry at a place of the rows, and the place behind it. Where less stands than a row says, it is as short as that: no table has such a row, since Open asks for the whole text.
func (t *Table) at(place int) (Entry, int, bool) {
	if t == nil || place >= len(t.rows) {
		return Entry{}, 0, false
	}
	c := &cursor{t.rows[place:]}
	key, value := c.number(1), c.number(2)
	gone := value == none
	if gone {
		value = 0
	}
	e := Entry{c.take(key), c.take(value), gone}
	// A statement of its own: beside calls of the cursor it would be free whether its rest is read ahead of them.
	behind := len(t.rows) - len(c.rest)
	return e, behind, true
}
