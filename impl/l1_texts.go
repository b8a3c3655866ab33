package impl

// The limits of texts; Great is the greatest number.
const (
	MaxWord = 10
	MaxLine = 60
	Great   = 1000000
)

// The kinds of bytes that words, lines and numbers tell apart.
const (
	kindOther  = 0
	kindSpace  = 1
	kindSign   = 2
	kindDigit  = 3
	kindLetter = 4
)

// digits is the table of the digits: the byte at each place is the digit of its number.
const digits = "0123456789"

// byteKind is the table of all bytes: a line may hold every kind but kindOther, a word only the last two.
func byteKind(c byte) int {
	switch {
	case c >= 'a' && c <= 'z':
		return kindLetter
	case c >= '0' && c <= '9':
		return kindDigit
	case c == ' ':
		return kindSpace
	case c > ' ' && c <= '~':
		return kindSign
	}
	return kindOther
}

// WordValid reports whether a text has 1..MaxWord bytes, each a small letter or a digit, the first one no digit.
func WordValid(s string) bool {
	if len(s) < 1 || len(s) > MaxWord || byteKind(s[0]) != kindLetter {
		return false
	}
	for k := 1; k < len(s); k++ {
		kind := byteKind(s[k])
		if kind != kindLetter && kind != kindDigit {
			return false
		}
	}
	return true
}

// LineValid reports whether a text has at most MaxLine bytes, each in 32..126, and no space at its ends.
func LineValid(s string) bool {
	if len(s) > MaxLine {
		return false
	}
	for k := 0; k < len(s); k++ {
		if byteKind(s[k]) == kindOther {
			return false
		}
	}
	return len(s) == 0 || s[0] != ' ' && s[len(s)-1] != ' '
}

// NumberText returns the decimal number in 0..Great; "" for other numbers.
func NumberText(n int) string {
	if n < 0 || n > Great {
		return ""
	}
	text := digitText(n % 10)
	// It ends because a number of at least 0 loses a digit in each round.
	for rest := n / 10; rest > 0; rest = rest / 10 {
		text = digitText(rest%10) + text
	}
	return text
}

// digitText returns the digit of a number in 0..9.
func digitText(n int) string {
	return digits[n : n+1]
}

// ReadNumber returns the number whose NumberText a text is; -1 if there is none.
func ReadNumber(s string) int {
	if len(s) == 0 || len(s) > 1 && s[0] == '0' {
		return -1
	}
	n := 0
	for k := 0; k < len(s); k++ {
		if byteKind(s[k]) != kindDigit {
			return -1
		}
		n = n*10 + int(s[k]-'0')
		// It is checked after every digit, so that a long text cannot wrap round to a small number.
		if n > Great {
			return -1
		}
	}
	return n
}
