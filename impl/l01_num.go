package impl

import (
	"strconv"
	"strings"
)

const (
	largestNumber = 999999
	largestInt    = 999999999999
)

func FormatInt(n int) string { return strconv.Itoa(n) }

func ParseNumber(s string) (n int, ok bool) {
	defer func() {
		if recover() != nil {
			n, ok = 0, false
		}
	}()
	return readInt(s, 0, largestNumber), true
}

func ParseInt(s string) (n int, ok bool) {
	defer func() {
		if recover() != nil {
			n, ok = 0, false
		}
	}()
	return readInt(s, -largestInt, largestInt), true
}

// readInt returns the integer from low to high whose FormatInt is s, and panics if there is none.
func readInt(s string, low int, high int) int {
	n, err := strconv.Atoi(s)
	if err != nil || n < low || n > high {
		panic("malformed integer")
	}
	// Atoi also accepts a plus sign, leading zeros and a negative zero.
	if FormatInt(n) != s {
		panic("malformed integer")
	}
	return n
}

func SplitByte(s string, by byte) []string {
	// The conversion string(by) would encode a byte above 127 as two bytes.
	return strings.Split(s, string([]byte{by}))
}

func Join(list []string, by string) string { return strings.Join(list, by) }
