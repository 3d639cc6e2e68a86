package grower

import (
	"bytes"
	"iter"
	"strconv"

	"bybloem/api"
)

// How many digits a record has of what, and how many bytes ahead of its line.
const (
	lengthDigits = 4
	checkDigits  = 6
	headSize     = len("<") + 2*lengthDigits + checkDigits + len(">")
)

// digits are those of a number, with zeros in front, the one that counts most first.
type digits [checkDigits]byte

func digitsOf(n int) digits {
	var d digits
	for at := len(d) - 1; at >= 0; at-- {
		d[at] = byte('0' + n%10)
		n /= 10
	}
	return d
}

// turned returns digits each of which is 9 less the one in the same place.
func (d digits) turned() digits {
	for at, digit := range d {
		d[at] = '0' + '9' - digit
	}
	return d
}

// last returns the last digits, which are all of those of a number that has no more.
func (d digits) last(many int) string { return string(d[len(d)-many:]) }

// checkOf returns the check of the record with this number.
func checkOf(number int, line string) int {
	check := 3 + number
	for at := range len(line) {
		check = (31*check + int(line[at]) + 11) % 999983
	}
	return check
}

// recordOf returns the record of the line, with this number.
func recordOf(number int, line string) string {
	length, check := digitsOf(len(line)), digitsOf(checkOf(number, line))
	return "<" + length.last(lengthDigits) + length.turned().last(lengthDigits) + check.last(checkDigits) + ">" + line + "\n"
}

// sizeOf returns how many bytes the record of the line has.
func sizeOf(line string) int { return headSize + len(line) + len("\n") }

// fileOf returns the file of the lines.
func fileOf(lines []string) []byte {
	var b []byte
	for number, line := range lines {
		b = append(b, recordOf(number, line)...)
	}
	return b
}

// records yields the lines of what can be read of the bytes.
func records(b []byte) iter.Seq[string] {
	return func(yield func(string) bool) {
		rest := b
		for number := range api.MaxSession {
			line, is := firstLine(rest, number)
			if !is || !yield(line) {
				return
			}
			rest = rest[sizeOf(line):]
		}
	}
}

// firstLine returns the line of the record with which the bytes begin, if they begin
// with one that has this number.
func firstLine(b []byte, number int) (string, bool) {
	if len(b) < headSize {
		return "", false
	}
	length, err := strconv.Atoi(string(b[len("<"):][:lengthDigits]))
	if err != nil || length < 0 || length > api.MaxLine || headSize+length > len(b) {
		return "", false
	}
	line := string(b[headSize:][:length])
	// Whatever else the bytes have to be, the record of the line says it.
	return line, bytes.HasPrefix(b, []byte(recordOf(number, line)))
}
