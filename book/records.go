package book

import (
	"iter"

	"watercress/api"
)

// The numbers that a record has before its line.
const (
	theCheck = iota
	theLength
)

// headBytes is how many bytes come before the line: the digits of both numbers, each number with a slash after it.
const headBytes = 8

// head has the digits of the numbers of a record.
type head struct {
	check  [4]byte
	length [2]byte
}

// headOf returns the head of the line with the index.
func headOf(index int, line string) head {
	sum := 43 * (index + 1)
	for k, c := range []byte(line) {
		sum += (k + 5) * int(c)
	}
	var h head
	put(h.digits(theCheck), sum%9973)
	put(h.digits(theLength), len(line))
	return h
}

// digits returns the digits of the number, in the head's own memory.
func (h *head) digits(number int) []byte {
	if number == theCheck {
		return h.check[:]
	}
	return h.length[:]
}

// put writes the number into all of the digits.
func put(digits []byte, n int) {
	for i := len(digits) - 1; i >= 0; i-- {
		digits[i] = byte('0' + n%10)
		n /= 10
	}
}

// long returns how long the line is by the head. Bytes that are no digits make some length too, but no line has a head with them.
func (h head) long() int {
	n := 0
	for _, digit := range h.length {
		n = 10*n + int(digit-'0')
	}
	return n
}

// record is a line with its head.
type record struct {
	head
	line string
}

func (r record) size() int { return headBytes + len(r.line) + 1 }

// bytes returns the record as it is in a file.
func (r record) bytes() []byte {
	b := make([]byte, r.size())
	at := 0
	for number := theCheck; number <= theLength; number++ {
		at += copy(b[at:], r.digits(number))
		at += copy(b[at:], "/")
	}
	at += copy(b[at:], r.line)
	copy(b[at:], "\n")
	return b
}

// recordIn returns the record with which the bytes begin, if they begin with one by its slashes, its length and its line feed; whether the head is that of the line is not asked.
func recordIn(b []byte) (record, bool) {
	if len(b) < headBytes {
		return record{}, false
	}
	var r record
	at := 0
	for number := theCheck; number <= theLength; number++ {
		at += copy(r.digits(number), b[at:])
		if b[at] != '/' {
			return record{}, false
		}
		at++
	}
	end := headBytes + r.long()
	if r.long() > api.MaxBookLine || end >= len(b) || b[end] != '\n' {
		return record{}, false
	}
	r.line = string(b[headBytes:end])
	return r, true
}

// records yields what are records by their shapes, one after the other from the first byte on.
func records(b []byte) iter.Seq[record] {
	return func(yield func(record) bool) {
		rest := b
		for r, is := recordIn(rest); is && yield(r); r, is = recordIn(rest) {
			rest = rest[r.size():]
		}
	}
}

// file returns the records of the lines.
func file(lines []string) []byte {
	var b []byte
	for index, line := range lines {
		b = append(b, record{headOf(index, line), line}.bytes()...)
	}
	return b
}
