package tests

import (
	"regexp"
	"strings"
	"testing"

	"loop.example/conferencehall/impl"
)

// addressTexts tells the texts of addresses apart from all others in another way than the program does.
var addressTexts = regexp.MustCompile(`\Asip:([a-z][a-z0-9]{0,9})@([a-z][a-z0-9]{0,9})\z`)

func invalidWords() []string {
	return []string{
		"", "0", "9a", "A", "aB", "Abc", " ", "a b", " a", "a ", "a\n", "\x00", "a\x00", "é", "a\xff",
		"@", "a@", "@a", "a@b", ":", "sip:", "sip:a", "a-b", "a_b", "a.b", "`", "{", "/", "a/", "a:",
		strings.Repeat("a", impl.MaxWord+1), strings.Repeat("a", 1000),
	}
}

func validAddresses() []impl.Address {
	var list []impl.Address
	for _, user := range validWords() {
		for _, host := range validWords() {
			list = append(list, impl.Address{User: user, Host: host})
		}
	}
	return list
}

func invalidAddresses() []impl.Address {
	var list []impl.Address
	for _, none := range invalidWords() {
		for _, word := range validWords() {
			list = append(list, impl.Address{User: none, Host: word}, impl.Address{User: word, Host: none})
		}
		for _, other := range invalidWords() {
			list = append(list, impl.Address{User: none, Host: other})
		}
	}
	return list
}

func exchanged(a impl.Address) impl.Address {
	return impl.Address{User: a.Host, Host: a.User}
}

func checkAddress(t *testing.T, a impl.Address, want bool) {
	t.Helper()
	if impl.AddressValid(a) != want {
		t.Errorf("AddressValid(%.40q) is not %v", a, want)
	}
}

func checkAddressText(t *testing.T, a impl.Address, want string) {
	t.Helper()
	if got := impl.AddressText(a); got != want {
		t.Errorf("AddressText(%.40q) is %.40q, not %q", a, got, want)
	}
}

func checkReads(t *testing.T, s string, want impl.Address) {
	t.Helper()
	if got, ok := impl.ReadAddress(s); !ok || got != want {
		t.Errorf("ReadAddress(%.40q) is %.40q and %v, not %q and true", s, got, ok, want)
	}
}

func checkRefuses(t *testing.T, s string) {
	t.Helper()
	if got, ok := impl.ReadAddress(s); ok || got != (impl.Address{}) {
		t.Errorf("ReadAddress(%.40q), of %d bytes, is %.40q and %v, not the zero value and false", s, len(s), got, ok)
	}
}

// checkCanonicalAddress checks that a text is read exactly if it is the text of an address, and is that of the one read.
func checkCanonicalAddress(t *testing.T, s string) {
	t.Helper()
	parts := addressTexts.FindStringSubmatch(s)
	if parts == nil {
		checkRefuses(t, s)
		return
	}
	want := impl.Address{User: parts[1], Host: parts[2]}
	checkReads(t, s, want)
	checkAddressText(t, want, s)
}

// textsToAlter are texts of addresses whose words are of the least and of the greatest length, with and without digits.
func textsToAlter() []string {
	return []string{"sip:a@b", "sip:ann@hall", "sip:a1@b2", "sip:abcdefghij@z", "sip:z@abcdefghij", "sip:a123456789@zyxwvutsr0"}
}

// Promise 2.
func TestTextsOfAddressesCanBeRead(t *testing.T) {
	for _, a := range validAddresses() {
		text := "sip:" + a.User + "@" + a.Host
		checkAddressText(t, a, text)
		checkReads(t, text, a)
	}
}

// Promise 2.
func TestOtherAddressesHaveNoText(t *testing.T) {
	for _, a := range invalidAddresses() {
		checkAddressText(t, a, "")
		checkRefuses(t, "sip:"+a.User+"@"+a.Host)
	}
}

// Promise 53.
func TestValidAddresses(t *testing.T) {
	for _, a := range validAddresses() {
		checkAddress(t, a, true)
		checkAddress(t, exchanged(a), true)
	}
}

// Promise 53.
func TestInvalidAddresses(t *testing.T) {
	for _, a := range invalidAddresses() {
		checkAddress(t, a, false)
		checkAddress(t, exchanged(a), false)
	}
}

// Promise 53.
func TestAddressesHaveTwoWords(t *testing.T) {
	checkAddress(t, impl.Address{}, false)
	for _, word := range validWords() {
		checkAddress(t, impl.Address{User: word}, false)
		checkAddress(t, impl.Address{Host: word}, false)
		checkAddressText(t, impl.Address{User: word}, "")
		checkAddressText(t, impl.Address{Host: word}, "")
		for _, s := range []string{"sip:" + word, "sip:" + word + "@", "sip:@" + word, word, word + "@", "@" + word} {
			checkRefuses(t, s)
		}
	}
}

// Promise 53.
func TestLengthsOfWordsOfAddresses(t *testing.T) {
	for user := 0; user <= 2*impl.MaxWord; user++ {
		for host := 0; host <= 2*impl.MaxWord; host++ {
			a := impl.Address{User: strings.Repeat("u", user), Host: strings.Repeat("h", host)}
			checkAddress(t, a, user >= 1 && user <= impl.MaxWord && host >= 1 && host <= impl.MaxWord)
			checkCanonicalAddress(t, "sip:"+a.User+"@"+a.Host)
		}
	}
}

// Promise 53.
func TestBytesOfWordsOfAddresses(t *testing.T) {
	for b := 0; b < 256; b++ {
		first := strings.Contains(letters, oneByte(b))
		later := strings.Contains(letters+digits, oneByte(b))
		checkAddress(t, impl.Address{User: oneByte(b), Host: "hall"}, first)
		checkAddress(t, impl.Address{User: "ann", Host: oneByte(b)}, first)
		checkAddress(t, impl.Address{User: "a" + oneByte(b), Host: "hall"}, later)
		checkAddress(t, impl.Address{User: "ann", Host: "h" + oneByte(b)}, later)
	}
}

// Promise 54.
func TestShortTextsOfAddressesAreCanonical(t *testing.T) {
	for _, s := range textsOver("az09@: A~", 5) {
		checkCanonicalAddress(t, "sip:"+s)
	}
	for _, s := range textsOver("sip:@", 6) {
		checkRefuses(t, s)
	}
}

// textsOver returns all texts of at most so many bytes, each of them among some bytes.
func textsOver(bytes string, most int) []string {
	list := []string{""}
	first := 0
	for length := 1; length <= most; length++ {
		last := len(list)
		for ; first < last; first++ {
			for k := range bytes {
				list = append(list, list[first]+bytes[k:k+1])
			}
		}
	}
	return list
}

// Promise 54.
func TestAlteredTextsOfAddressesAreCanonical(t *testing.T) {
	for _, s := range textsToAlter() {
		checkCanonicalAddress(t, s)
		for b := 0; b < 256; b++ {
			for place := 0; place <= len(s); place++ {
				checkCanonicalAddress(t, insertedAt(s, place, oneByte(b)))
			}
			for place := range s {
				checkCanonicalAddress(t, s[:place]+oneByte(b)+s[place+1:])
			}
		}
		for from := 0; from <= len(s); from++ {
			for to := from; to <= len(s); to++ {
				checkCanonicalAddress(t, s[from:to])
				checkCanonicalAddress(t, s[:from]+s[to:])
			}
		}
	}
}

// Promise 54.
func TestSecondAtIsRefused(t *testing.T) {
	for _, a := range validAddresses() {
		text := "sip:" + a.User + "@" + a.Host
		for place := 0; place <= len(text); place++ {
			checkRefuses(t, insertedAt(text, place, "@"))
		}
		checkRefuses(t, text+"@"+a.Host)
		checkRefuses(t, text+text)
	}
}

// Promise 54.
func TestBytesAroundTextsOfAddressesAreRefused(t *testing.T) {
	for _, s := range textsToAlter() {
		for b := 0; b < 256; b++ {
			checkRefuses(t, oneByte(b)+s)
			if !strings.Contains(letters+digits, oneByte(b)) {
				checkRefuses(t, s+oneByte(b))
			}
		}
		for _, around := range []string{" ", "  ", "\t", "\n", "\r\n", "\x00", "sip:", "<", ">", "\"", ";", ",", "\xef\xbb\xbf"} {
			checkRefuses(t, around+s)
			checkRefuses(t, s+around)
			checkRefuses(t, around+s+around)
		}
	}
}

// Promise 54.
func TestOtherStartsOfAddressesAreRefused(t *testing.T) {
	for _, start := range []string{
		"", ":", "s:", "si:", "sip", "sip::", "sip: ", "sip :", " sip:", "sip;", "sip.", "sip@", "ip:", "p:", "pis:", "sipsip:", "sip:sip:",
		"sips:", "ssip:", "tel:", "tip:", "sap:", "sit:", "h323:", "mailto:", "http:", "sip://", "SIP:", "Sip:", "sIp:", "siP:", "sip\x00:",
	} {
		checkRefuses(t, start+"ann@hall")
	}
}

// Promise 54.
func TestCapitalLettersInAddressesAreRefused(t *testing.T) {
	for _, s := range textsToAlter() {
		checkRefuses(t, strings.ToUpper(s))
		for place := range s {
			if strings.Contains(letters, s[place:place+1]) {
				checkRefuses(t, s[:place]+strings.ToUpper(s[place:place+1])+s[place+1:])
			}
		}
	}
}

// Promise 54.
func TestLongTextsOfAddressesAreRefused(t *testing.T) {
	long := strings.Repeat("a", 100000)
	for _, s := range []string{
		long, "sip:" + long, "sip:" + long + "@b", "sip:a@" + long, "sip:" + long + "@" + long,
		"sip:" + strings.Repeat("@", 100000), "sip:a@b" + strings.Repeat("@", 100000), strings.Repeat("sip:a@b", 1000), strings.Repeat("sip:", 1000) + "a@b",
	} {
		checkRefuses(t, s)
	}
}
