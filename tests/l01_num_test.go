package tests

import (
	"math"
	"slices"
	"strings"
	"testing"

	"loop.example/g00590/impl"
)

const (
	largestNumber = 999999
	largestInt    = 999999999999
)

// malformed lists texts that are the decimal representation of no integer.
var malformed = []string{
	"", "00", "000", "01", "007", "0000001", "-0", "-00", "-01", "-007", "+", "-", "+0", "+1", "+-1", "-+1", "--1",
	" ", " 1", "1 ", "1 2", "1\n", "\t1", "-1 ", "- 1", "1-", "1-2", "0-", "a", "1a", "a1", "?", "0x1", "0b1", "0o7", "1_000",
	"1e3", "1.0", "1,000", ".", "1.", "NaN", "nil", "/", ":", "1/", "1:", "\x00", "1\x00", "\xff", "1\xff", "\u0663", "\uff11",
}

// unrepresentable lists decimal representations of integers that no function reads, among them some that fit once 2^64 is taken away or added.
var unrepresentable = []string{
	"9223372036854775807", "9223372036854775808", "-9223372036854775808", "-9223372036854775809",
	"18446744073709551615", "18446744073709551616", "18446744073709551617", "-18446744073709551617",
	"1000000000000", "-1000000000000", "10000000000000000000", "1" + strings.Repeat("0", 100), "-" + strings.Repeat("9", 1000),
}

func TestFormatInt(t *testing.T) {
	cases := []struct {
		n    int
		want string
	}{
		{0, "0"}, {1, "1"}, {-1, "-1"}, {7, "7"}, {-5, "-5"}, {9, "9"}, {10, "10"}, {-10, "-10"}, {100, "100"}, {1234567890, "1234567890"},
		{-70, "-70"}, {largestNumber, "999999"}, {largestInt, "999999999999"}, {-largestInt, "-999999999999"},
		{math.MaxInt32, "2147483647"}, {math.MinInt32, "-2147483648"},
		{math.MaxInt64, "9223372036854775807"}, {-math.MaxInt64, "-9223372036854775807"}, {math.MinInt64, "-9223372036854775808"},
	}
	for _, c := range cases {
		if got := impl.FormatInt(c.n); got != c.want {
			t.Errorf("FormatInt(%d) = %q, want %q", c.n, got, c.want)
		}
	}
}

func checkParsed(t *testing.T, name string, parse func(string) (int, bool), s string, want int) {
	t.Helper()
	if n, ok := parse(s); n != want || !ok {
		t.Errorf("%s(%q) = %d, %t, want %d, true", name, s, n, ok, want)
	}
}

func checkRejected(t *testing.T, name string, parse func(string) (int, bool), list []string) {
	t.Helper()
	for _, s := range list {
		if n, ok := parse(s); n != 0 || ok {
			t.Errorf("%s(%q) = %d, %t, want 0, false", name, s, n, ok)
		}
	}
}

func TestParseNumberReadsAllNumbers(t *testing.T) {
	checkParsed(t, "ParseNumber", impl.ParseNumber, "0", 0)
	checkParsed(t, "ParseNumber", impl.ParseNumber, "70", 70)
	checkParsed(t, "ParseNumber", impl.ParseNumber, "999999", largestNumber)
	for n := range largestNumber + 1 {
		if got, ok := impl.ParseNumber(impl.FormatInt(n)); got != n || !ok {
			t.Fatalf("ParseNumber(FormatInt(%d)) = %d, %t", n, got, ok)
		}
	}
}

func TestParseNumberRejects(t *testing.T) {
	checkRejected(t, "ParseNumber", impl.ParseNumber, malformed)
	checkRejected(t, "ParseNumber", impl.ParseNumber, unrepresentable)
	checkRejected(t, "ParseNumber", impl.ParseNumber, []string{"-1", "-5", "-999999", "1000000", "1000001", "0999999", "+999999", "999999999999"})
}

func TestParseIntReadsIntegers(t *testing.T) {
	checkParsed(t, "ParseInt", impl.ParseInt, "0", 0)
	checkParsed(t, "ParseInt", impl.ParseInt, "-5", -5)
	checkParsed(t, "ParseInt", impl.ParseInt, "999999999999", largestInt)
	checkParsed(t, "ParseInt", impl.ParseInt, "-999999999999", -largestInt)
	for n := -2000; n <= 2000; n++ {
		checkParsed(t, "ParseInt", impl.ParseInt, impl.FormatInt(n), n)
	}
	for power := 1; power <= largestInt+1; power *= 10 {
		for n := power - 3; n <= min(power+3, largestInt); n++ {
			checkParsed(t, "ParseInt", impl.ParseInt, impl.FormatInt(n), n)
			checkParsed(t, "ParseInt", impl.ParseInt, impl.FormatInt(-n), -n)
		}
	}
}

func TestParseIntRejects(t *testing.T) {
	checkRejected(t, "ParseInt", impl.ParseInt, malformed)
	checkRejected(t, "ParseInt", impl.ParseInt, unrepresentable)
	checkRejected(t, "ParseInt", impl.ParseInt, []string{"0999999999999", "-0999999999999", "+999999999999", "1000000000001", "-1000000000001"})
}

func TestParsedTextIsFormatted(t *testing.T) {
	for _, s := range stringsUpTo("-+019 ", 5) {
		if n, ok := impl.ParseInt(s); ok && impl.FormatInt(n) != s {
			t.Errorf("ParseInt(%q) = %d", s, n)
		}
		if n, ok := impl.ParseNumber(s); ok && impl.FormatInt(n) != s {
			t.Errorf("ParseNumber(%q) = %d", s, n)
		}
	}
}

// stringsUpTo returns all strings of at most most bytes of letters.
func stringsUpTo(letters string, most int) []string {
	list := []string{""}
	for i := 0; i < len(list) && len(list[i]) < most; i++ {
		for k := range len(letters) {
			list = append(list, list[i]+letters[k:k+1])
		}
	}
	return list
}

func TestSplitByte(t *testing.T) {
	cases := []struct {
		s    string
		by   byte
		want []string
	}{
		{"", ',', []string{""}},
		{"", 0, []string{""}},
		{"a", ',', []string{"a"}},
		{",", ',', []string{"", ""}},
		{",,", ',', []string{"", "", ""}},
		{",a", ',', []string{"", "a"}},
		{"a,", ',', []string{"a", ""}},
		{",a,", ',', []string{"", "a", ""}},
		{"a,b", ',', []string{"a", "b"}},
		{"a,,b", ',', []string{"a", "", "b"}},
		{"one two  three ", ' ', []string{"one", "two", "", "three", ""}},
		{"a\x00b", 0, []string{"a", "b"}},
		{"a;b", ',', []string{"a;b"}},
		{"\u00e9", 0xc3, []string{"", "\xa9"}},
		{"\u00e9", 0xe9, []string{"\u00e9"}},
		{"a\xe9b", 0xe9, []string{"a", "b"}},
		{"\xff\x80\xff", 0xff, []string{"", "\x80", ""}},
		{"\ufffd\xff", 0xff, []string{"\ufffd", ""}},
	}
	for _, c := range cases {
		if got := impl.SplitByte(c.s, c.by); !slices.Equal(got, c.want) {
			t.Errorf("SplitByte(%q, %q) = %q, want %q", c.s, c.by, got, c.want)
		}
	}
}

func TestSplitByteEveryByte(t *testing.T) {
	for b := range 256 {
		separator := string([]byte{byte(b)})
		other := string([]byte{byte(b + 1)})
		want := []string{"", other, "", other + other, ""}
		got := impl.SplitByte(separator+other+separator+separator+other+other+separator, byte(b))
		if !slices.Equal(got, want) {
			t.Errorf("SplitByte at %q gives %q, want %q", separator, got, want)
		}
	}
}

func TestJoin(t *testing.T) {
	cases := []struct {
		list []string
		by   string
		want string
	}{
		{nil, ",", ""},
		{[]string{}, ",", ""},
		{[]string{""}, ",", ""},
		{[]string{"a"}, ",", "a"},
		{[]string{"", ""}, ",", ","},
		{[]string{"", "a", ""}, ",", ",a,"},
		{[]string{"a", "b"}, "-", "a-b"},
		{[]string{"a", "", "b"}, ",", "a,,b"},
		{[]string{"a", "b", "c"}, "", "abc"},
		{[]string{"a", "b", "c"}, "; ", "a; b; c"},
		{[]string{"a,b", "c"}, ",", "a,b,c"},
		{[]string{"\xff", "\x00"}, "\xfe\x80", "\xff\xfe\x80\x00"},
	}
	for _, c := range cases {
		if got := impl.Join(c.list, c.by); got != c.want {
			t.Errorf("Join(%q, %q) = %q, want %q", c.list, c.by, got, c.want)
		}
	}
}

func TestJoinUndoesSplit(t *testing.T) {
	for _, by := range []byte{',', 0, 0xff} {
		separator := string([]byte{by})
		for _, s := range stringsUpTo("a,\x00\xff", 5) {
			parts := impl.SplitByte(s, by)
			if len(parts) != strings.Count(s, separator)+1 {
				t.Errorf("SplitByte(%q, %q) has %d elements", s, by, len(parts))
			}
			if got := impl.Join(parts, separator); got != s {
				t.Errorf("Join of SplitByte(%q, %q) = %q", s, by, got)
			}
		}
	}
}

func TestSplitUndoesJoin(t *testing.T) {
	parts := []string{"", "a", "b ", "\xff"}
	for _, choice := range stringsUpTo("0123", 4)[1:] {
		var list []string
		for i := range len(choice) {
			list = append(list, parts[choice[i]-'0'])
		}
		if got := impl.SplitByte(impl.Join(list, ","), ','); !slices.Equal(got, list) {
			t.Errorf("SplitByte of Join(%q) = %q", list, got)
		}
	}
}

func TestStringsShareNoMemory(t *testing.T) {
	room := []string{"a", "b", "spare"}
	if got := impl.Join(room[:2], ","); got != "a,b" || !slices.Equal(room, []string{"a", "b", "spare"}) {
		t.Errorf("Join gives %q and leaves %q", got, room)
	}
	first, second := impl.SplitByte("a,b", ','), impl.SplitByte("a,b", ',')
	first[0] = "changed"
	if !slices.Equal(second, []string{"a", "b"}) {
		t.Errorf("results of SplitByte share memory: %q", second)
	}
}
