package tests

import (
	"math"
	"strconv"
	"strings"
	"testing"

	"loop.example/conferencehall/impl"
)

const (
	letters = "abcdefghijklmnopqrstuvwxyz"
	digits  = "0123456789"
)

// oneByte is the text of one byte; string(rune) would write two for those from 128 on.
func oneByte(b int) string {
	return string([]byte{byte(b)})
}

// insertedAt returns a text with another one inserted before the byte at a place.
func insertedAt(s string, place int, more string) string {
	return s[:place] + more + s[place:]
}

func checkWord(t *testing.T, s string, want bool) {
	t.Helper()
	if impl.WordValid(s) != want {
		t.Errorf("WordValid(%q) is not %v", s, want)
	}
}

func checkLine(t *testing.T, s string, want bool) {
	t.Helper()
	if impl.LineValid(s) != want {
		t.Errorf("LineValid(%q) is not %v", s, want)
	}
}

func checkText(t *testing.T, n int, want string) {
	t.Helper()
	if got := impl.NumberText(n); got != want {
		t.Errorf("NumberText(%d) is %q, not %q", n, got, want)
	}
}

func checkNumber(t *testing.T, s string, want int) {
	t.Helper()
	if got := impl.ReadNumber(s); got != want {
		t.Errorf("ReadNumber(%.40q), of %d bytes, is %d, not %d", s, len(s), got, want)
	}
}

func validWords() []string {
	return []string{"a", "z", "m", "ab", "a0", "a9", "z1y2", "zz", "a00000000", "abcdefghij", "z123456789", "zzzzzzzzzz"}
}

func validLines() []string {
	return []string{
		"", "a", "!", "~", "0", "a b", "a  b", "! ~", "INVITE sip:ada@hall", "{[(<>)]}",
		strings.Repeat("~", impl.MaxLine-3), strings.Repeat("~", impl.MaxLine-2), strings.Repeat("!", impl.MaxLine-1), strings.Repeat("a", impl.MaxLine),
		"a" + strings.Repeat(" ", impl.MaxLine-2) + "b",
	}
}

func TestLimitsOfTexts(t *testing.T) {
	if impl.MaxWord != 10 || impl.MaxLine != 60 || impl.Great != 1000000 {
		t.Fatal("the limits are not those of the document")
	}
}

// Promise 1.
func TestTextsOfNumbersCanBeRead(t *testing.T) {
	for n := 0; n <= impl.Great; n++ {
		text := strconv.Itoa(n)
		checkText(t, n, text)
		checkNumber(t, text, n)
		if t.Failed() {
			return
		}
	}
}

// Promise 1.
func TestOtherNumbersHaveNoText(t *testing.T) {
	for _, n := range []int{-1, -2, -9, -10, -impl.Great, impl.Great + 1, 2 * impl.Great, 10 * impl.Great, math.MaxInt32, math.MinInt32, math.MaxInt, math.MinInt} {
		checkText(t, n, "")
	}
}

// Promise 50.
func TestValidWords(t *testing.T) {
	for _, s := range validWords() {
		checkWord(t, s, true)
	}
}

// Promise 50.
func TestFirstBytesOfWords(t *testing.T) {
	for b := 0; b < 256; b++ {
		first := oneByte(b)
		letter := strings.Contains(letters, first)
		checkWord(t, first, letter)
		checkWord(t, first+"a", letter)
		checkWord(t, first+"23456789a", letter)
	}
}

// Promise 50.
func TestOtherBytesOfWords(t *testing.T) {
	for b := 0; b < 256; b++ {
		other := oneByte(b)
		sign := strings.Contains(letters+digits, other)
		for place := 1; place < impl.MaxWord; place++ {
			checkWord(t, insertedAt("abcdefghi", place, other), sign)
		}
	}
}

// Promise 50.
func TestLengthsOfWords(t *testing.T) {
	checkWord(t, "", false)
	for length := 1; length <= 300; length++ {
		checkWord(t, strings.Repeat("a", length), length <= impl.MaxWord)
	}
}

// Promise 50.
func TestWordsHaveNoSpaces(t *testing.T) {
	for _, s := range validWords() {
		for place := 0; place <= len(s); place++ {
			checkWord(t, insertedAt(s, place, " "), false)
		}
		for place := range s {
			checkWord(t, s[:place]+" "+s[place+1:], false)
		}
		checkWord(t, s[:1], true)
	}
}

// Promise 51.
func TestValidLines(t *testing.T) {
	for _, s := range validLines() {
		checkLine(t, s, true)
	}
}

// Promise 51.
func TestBytesOfLines(t *testing.T) {
	for b := 0; b < 256; b++ {
		one := oneByte(b)
		checkLine(t, one, b > 32 && b <= 126)
		checkLine(t, one+"bcd", b > 32 && b <= 126)
		checkLine(t, "abc"+one, b > 32 && b <= 126)
		for place := 1; place < 4; place++ {
			checkLine(t, insertedAt("abcd", place, one), b >= 32 && b <= 126)
		}
	}
}

// Promise 51.
func TestLengthsOfLines(t *testing.T) {
	for length := 0; length <= 300; length++ {
		checkLine(t, strings.Repeat("a", length), length <= impl.MaxLine)
	}
}

// Promise 51.
func TestLinesHaveNoSpacesAtTheirEnds(t *testing.T) {
	for length := 1; length <= impl.MaxLine+1; length++ {
		checkLine(t, strings.Repeat(" ", length), false)
	}
	for _, s := range validLines() {
		checkLine(t, " "+s, false)
		checkLine(t, s+" ", false)
		checkLine(t, " "+s+" ", false)
	}
	checkLine(t, " "+strings.Repeat("a", impl.MaxLine-1), false)
	checkLine(t, strings.Repeat("a", impl.MaxLine-1)+" ", false)
}

// Promise 51.
func TestLinesBetweenSigns(t *testing.T) {
	for _, s := range validLines() {
		for b := 33; b <= 126; b++ {
			sign := oneByte(b)
			checkLine(t, sign+s+sign, len(s)+2 <= impl.MaxLine)
		}
	}
}

// Promise 52.
func TestShortTextsAreCanonical(t *testing.T) {
	checkNumber(t, "", -1)
	for a := 0; a < 256; a++ {
		checkCanonical(t, oneByte(a))
		for b := 0; b < 256; b++ {
			checkCanonical(t, oneByte(a)+oneByte(b))
		}
	}
}

// checkCanonical checks that a text is read exactly if it is the text of the number that it means.
func checkCanonical(t *testing.T, s string) {
	t.Helper()
	n, err := strconv.Atoi(s)
	if err != nil || n < 0 || n > impl.Great || strconv.Itoa(n) != s {
		checkNumber(t, s, -1)
		return
	}
	checkNumber(t, s, n)
	checkText(t, n, s)
}

// Promise 52.
func TestZerosBeforeNumbersAreRefused(t *testing.T) {
	for n := 0; n <= impl.Great; n += 37 {
		checkNumber(t, "0"+strconv.Itoa(n), -1)
	}
	for _, s := range []string{"0", "1", "7", "10", "999999", "1000000", "1000001"} {
		for _, zeros := range []int{1, 2, 6, 7, 19, 100000} {
			checkNumber(t, strings.Repeat("0", zeros)+s, -1)
		}
	}
}

// Promise 52.
func TestNumbersBeyondGreatAreRefused(t *testing.T) {
	for n := impl.Great + 1; n <= impl.Great+1000; n++ {
		checkNumber(t, strconv.Itoa(n), -1)
	}
	for _, s := range []string{
		"1100000", "2000000", "9999999", "10000000", "10000001", "99999999",
		// These are 2 to the power 31, 32, 63 and 64 and a little more, which are small numbers where arithmetic wraps.
		"2147483648", "4294967296", "4294967303", "9223372036854775807", "9223372036854775808",
		"18446744073709551615", "18446744073709551616", "18446744073709551623", "36893488147419103239",
		"1" + strings.Repeat("0", 63), "1" + strings.Repeat("0", 64), "1" + strings.Repeat("0", 1000),
		strings.Repeat("9", 1000), strings.Repeat("1", 100000),
	} {
		checkNumber(t, s, -1)
	}
}

// Promise 52.
func TestOtherBytesInNumbersAreRefused(t *testing.T) {
	for b := 0; b < 256; b++ {
		one := oneByte(b)
		if strings.Contains(digits, one) {
			continue
		}
		for place := 0; place <= 5; place++ {
			checkNumber(t, insertedAt("12345", place, one), -1)
		}
	}
	for _, s := range []string{"-0", "-1", "+1", " 1", "1 ", "1 000", "1,000", "1.0", "1e3", "0x1", "0b1", "1_0", "\x001", "١"} {
		checkNumber(t, s, -1)
	}
}
