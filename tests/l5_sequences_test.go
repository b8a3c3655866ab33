package tests

import (
	"math"
	"regexp"
	"slices"
	"strconv"
	"strings"
	"testing"

	"loop.example/conferencehall/impl"
)

// sequenceTexts tells the texts of sequences apart from all others in another way than the program does.
var sequenceTexts = regexp.MustCompile(`\A([1-9][0-9]{0,5}|1000000) ([a-z][a-z0-9]{0,9})\z`)

func sequenceOf(number int, asks string) impl.Sequence {
	return impl.Sequence{Asks: asks, Number: number}
}

// askedWords are what requests ask for; some of them are almost ack, cancel or invite.
func askedWords() []string {
	return append(validWords(), "invite", "ack", "cancel", "bye", "answer", "register", "invit", "invites", "invite1", "reinvite", "ac", "acks", "ack1", "aack", "nack", "cance", "cancels", "cancel1", "ancel")
}

func sequenceNumbers() []int {
	return []int{1, 2, 3, 9, 10, 11, 99, 100, 101, 65535, 99999, 100000, 123456, 999998, impl.Great - 1, impl.Great}
}

func otherNumbers() []int {
	return []int{0, -1, -2, -10, -impl.Great, impl.Great + 1, impl.Great + 2, 2 * impl.Great, 10 * impl.Great, math.MaxInt32, math.MinInt32, math.MaxInt, math.MinInt}
}

func validSequences() []impl.Sequence {
	var list []impl.Sequence
	for _, number := range sequenceNumbers() {
		for _, asks := range askedWords() {
			list = append(list, sequenceOf(number, asks))
		}
	}
	return list
}

func invalidSequences() []impl.Sequence {
	list := []impl.Sequence{{}}
	for _, number := range otherNumbers() {
		for _, asks := range append(askedWords(), invalidWords()...) {
			list = append(list, sequenceOf(number, asks))
		}
	}
	for _, number := range sequenceNumbers() {
		for _, asks := range append(invalidWords(), "ACK", "Cancel", "INVITE", "invite ", " ack", "ack\n") {
			list = append(list, sequenceOf(number, asks))
		}
	}
	return list
}

// textByHand writes a sequence, whether it is valid or not.
func textByHand(s impl.Sequence) string {
	return strconv.Itoa(s.Number) + " " + s.Asks
}

// fitsByHand tells what one of two valid sequences is to the other one.
func fitsByHand(last impl.Sequence, next impl.Sequence) int {
	ofInvites := []string{"ack", "cancel"}
	belonging := []string{last.Asks}
	if last.Asks == "invite" {
		belonging = append(belonging, ofInvites...)
	}
	switch {
	case next.Number == last.Number && slices.Contains(belonging, next.Asks):
		return 0
	case next.Number > last.Number && !slices.Contains(ofInvites, next.Asks):
		return 1
	}
	return -1
}

func checkSequence(t *testing.T, s impl.Sequence, want bool) {
	t.Helper()
	if impl.SequenceValid(s) != want {
		t.Errorf("SequenceValid(%d, %.40q) is not %v", s.Number, s.Asks, want)
	}
}

func checkSequenceText(t *testing.T, s impl.Sequence, want string) {
	t.Helper()
	if got := impl.SequenceText(s); got != want {
		t.Errorf("SequenceText(%d, %.40q) is %.40q, not %q", s.Number, s.Asks, got, want)
	}
}

func checkReadsSequence(t *testing.T, s string, want impl.Sequence) {
	t.Helper()
	if got, ok := impl.ReadSequence(s); !ok || got != want {
		t.Errorf("ReadSequence(%.40q) is %d, %.40q and %v, not %d, %q and true", s, got.Number, got.Asks, ok, want.Number, want.Asks)
	}
}

func checkRefusesSequence(t *testing.T, s string) {
	t.Helper()
	if got, ok := impl.ReadSequence(s); ok || got != (impl.Sequence{}) {
		t.Errorf("ReadSequence(%.40q), of %d bytes, is %d, %.40q and %v, not the zero value and false", s, len(s), got.Number, got.Asks, ok)
	}
}

// checkCanonicalSequence checks that a text is read exactly if it is the text of a sequence, and is that of the one read.
func checkCanonicalSequence(t *testing.T, s string) {
	t.Helper()
	parts := sequenceTexts.FindStringSubmatch(s)
	if parts == nil {
		checkRefusesSequence(t, s)
		return
	}
	number, err := strconv.Atoi(parts[1])
	if err != nil {
		t.Fatal(err)
	}
	want := sequenceOf(number, parts[2])
	checkReadsSequence(t, s, want)
	checkSequenceText(t, want, s)
}

func checkFits(t *testing.T, last impl.Sequence, next impl.Sequence, want int) {
	t.Helper()
	if got := impl.SequenceFits(last, next); got != want {
		t.Errorf("SequenceFits(%.40q, %.40q) is %d, not %d", textByHand(last), textByHand(next), got, want)
	}
}

// sequenceTextsToAlter are texts of sequences whose numbers and words are of the least and of the greatest length.
func sequenceTextsToAlter() []string {
	return []string{"1 a", "5 invite", "10 ack", "42 a1", "999999 cancel", "1000000 z", "1 abcdefghij", "1000000 z123456789"}
}

// Promise 7.
func TestTextsOfSequencesCanBeRead(t *testing.T) {
	for _, s := range validSequences() {
		text := textByHand(s)
		checkSequenceText(t, s, text)
		checkReadsSequence(t, text, s)
		checkReadsSequence(t, impl.SequenceText(s), s)
	}
}

// Promise 7.
func TestAllNumbersOfSequences(t *testing.T) {
	for number := 1; number <= impl.Great; number++ {
		s := sequenceOf(number, "invite")
		checkSequenceText(t, s, textByHand(s))
		checkReadsSequence(t, textByHand(s), s)
		if t.Failed() {
			return
		}
	}
}

// Promise 7.
func TestTextsOfSomeSequences(t *testing.T) {
	checkSequenceText(t, sequenceOf(5, "invite"), "5 invite")
	checkSequenceText(t, sequenceOf(1, "a"), "1 a")
	checkSequenceText(t, sequenceOf(1000000, "z123456789"), "1000000 z123456789")
	checkReadsSequence(t, "5 invite", sequenceOf(5, "invite"))
	checkReadsSequence(t, "1 a", sequenceOf(1, "a"))
	checkReadsSequence(t, "1000000 z123456789", sequenceOf(1000000, "z123456789"))
}

// Promise 7.
func TestInvalidSequencesHaveNoText(t *testing.T) {
	for _, s := range invalidSequences() {
		checkSequenceText(t, s, "")
		checkRefusesSequence(t, textByHand(s))
	}
	checkRefusesSequence(t, "")
}

// Promise 60.
func TestValidSequences(t *testing.T) {
	for _, s := range validSequences() {
		checkSequence(t, s, true)
	}
}

// Promise 60.
func TestInvalidSequences(t *testing.T) {
	for _, s := range invalidSequences() {
		checkSequence(t, s, false)
	}
}

// Promise 60.
func TestSequencesHaveNumbers(t *testing.T) {
	for _, s := range validSequences() {
		checkSequence(t, sequenceOf(0, s.Asks), false)
		checkSequence(t, sequenceOf(1, s.Asks), true)
		checkSequence(t, sequenceOf(-s.Number, s.Asks), false)
		checkSequence(t, sequenceOf(s.Number+impl.Great, s.Asks), false)
		checkSequenceText(t, sequenceOf(0, s.Asks), "")
		for _, text := range []string{s.Asks, " " + s.Asks, "0 " + s.Asks, "-1 " + s.Asks, "1000001 " + s.Asks} {
			checkRefusesSequence(t, text)
		}
	}
}

// Promise 60.
func TestNumbersAroundTheLimitsOfSequences(t *testing.T) {
	for _, limit := range []int{0, impl.Great} {
		for number := limit - 300; number <= limit+300; number++ {
			checkSequence(t, sequenceOf(number, "invite"), number >= 1 && number <= impl.Great)
			checkCanonicalSequence(t, textByHand(sequenceOf(number, "invite")))
		}
	}
}

// Promise 60.
func TestWordsOfSequences(t *testing.T) {
	for b := 0; b < 256; b++ {
		checkSequence(t, sequenceOf(1, oneByte(b)), strings.Contains(letters, oneByte(b)))
		checkSequence(t, sequenceOf(1, "a"+oneByte(b)), strings.Contains(letters+digits, oneByte(b)))
	}
	for length := 0; length <= 300; length++ {
		s := sequenceOf(1, strings.Repeat("a", length))
		checkSequence(t, s, length >= 1 && length <= impl.MaxWord)
		checkCanonicalSequence(t, textByHand(s))
	}
}

// Promise 61.
func TestShortTextsOfSequencesAreCanonical(t *testing.T) {
	for _, s := range textsOver("019 azA-", 5) {
		checkCanonicalSequence(t, s)
	}
	for _, s := range textsOver("01 a", 8) {
		checkCanonicalSequence(t, s)
	}
}

// Promise 61.
func TestAlteredTextsOfSequencesAreCanonical(t *testing.T) {
	for _, s := range sequenceTextsToAlter() {
		checkCanonicalSequence(t, s)
		for b := 0; b < 256; b++ {
			for place := 0; place <= len(s); place++ {
				checkCanonicalSequence(t, insertedAt(s, place, oneByte(b)))
			}
			for place := range s {
				checkCanonicalSequence(t, s[:place]+oneByte(b)+s[place+1:])
			}
		}
		for from := 0; from <= len(s); from++ {
			for to := from; to <= len(s); to++ {
				checkCanonicalSequence(t, s[from:to])
				checkCanonicalSequence(t, s[:from]+s[to:])
			}
		}
	}
}

// Promise 61.
func TestSpacesInTextsOfSequencesAreRefused(t *testing.T) {
	for _, s := range validSequences() {
		text := textByHand(s)
		for place := 0; place <= len(text); place++ {
			checkRefusesSequence(t, insertedAt(text, place, " "))
		}
		checkRefusesSequence(t, text+"  ")
		checkRefusesSequence(t, " "+text+" ")
		checkRefusesSequence(t, text+" "+s.Asks)
		checkRefusesSequence(t, text+" "+text)
	}
	for _, s := range sequenceTextsToAlter() {
		for _, other := range []string{"", "\t", "\n", "\r\n", "\x00", "\u00a0", ",", ":", ": ", "_"} {
			checkRefusesSequence(t, strings.Replace(s, " ", other, 1))
		}
		for _, after := range []string{"\t", "\n", "\r\n", "\x00", "\u00a0", ",", ";"} {
			checkRefusesSequence(t, s+after)
			checkRefusesSequence(t, after+s)
		}
	}
}

// Promise 61.
func TestZerosBeforeNumbersOfSequencesAreRefused(t *testing.T) {
	for _, s := range validSequences() {
		for _, zeros := range []int{1, 2, 6, 7, 19} {
			checkRefusesSequence(t, strings.Repeat("0", zeros)+textByHand(s))
		}
	}
	for _, text := range []string{"0 a", "00 a", "000000000 a", "01 a", strings.Repeat("0", 100000) + "1 a"} {
		checkRefusesSequence(t, text)
	}
}

// Promise 61.
func TestOtherTextsOfSequencesAreRefused(t *testing.T) {
	for _, text := range []string{
		"", " ", "  ", "5", "5 ", " 5", "a", "a ", " a", "a 5", "invite 5", "5 5", "a a", "5 A", "5 Invite", "5 INVITE", "A 5", "5 1a", "5a b",
		"+5 a", "-5 a", "-0 a", "5. a", "5.0 a", "5, a", "0x5 a", "5e0 a", "1e3 a", "1_0 a", "1,000 a", "1 000 a", "٥ a", "five a", "5 é",
		"1000001 a", "1000010 a", "9999999 a", "10000000 a", "2147483648 a", "4294967296 a", "4294967297 a",
		"9223372036854775807 a", "9223372036854775808 a", "18446744073709551616 a", "18446744073709551617 a", "36893488147419103233 a",
	} {
		checkRefusesSequence(t, text)
	}
}

// Promise 61.
func TestLongTextsOfSequencesAreRefused(t *testing.T) {
	word, number, spaces := strings.Repeat("a", 100000), strings.Repeat("1", 100000), strings.Repeat(" ", 100000)
	for _, text := range []string{word, number, spaces, "1 " + word, number + " a", number + " " + word, "1" + spaces + "a", "1 a" + spaces, spaces + "1 a", strings.Repeat("1 a", 10000), strings.Repeat("1 ", 10000) + "a"} {
		checkRefusesSequence(t, text)
	}
}

// Promise 62.
func TestSequencesBelongToThemselves(t *testing.T) {
	for _, s := range validSequences() {
		checkFits(t, s, s, 0)
	}
	for _, asks := range []string{"ack", "cancel", "invite", "bye"} {
		for number := 1; number <= 2000; number++ {
			checkFits(t, sequenceOf(number, asks), sequenceOf(number, asks), 0)
		}
	}
}

// Promise 62.
func TestNewSequencesAreNotFollowedByTheOldOnes(t *testing.T) {
	list := validSequences()
	for _, last := range list {
		for _, next := range list {
			checkFits(t, last, next, fitsByHand(last, next))
			if impl.SequenceFits(last, next) == 1 {
				checkFits(t, next, last, -1)
			}
		}
	}
}

// Promise 62.
func TestGreaterNumbersAreNew(t *testing.T) {
	last := sequenceOf(5, "invite")
	for number := 1; number <= 2000; number++ {
		want := -1
		if number > 5 {
			want = 1
		}
		checkFits(t, last, sequenceOf(number, "bye"), want)
		// An ack and a cancel are followed by greater numbers as all others are.
		if number != 5 {
			checkFits(t, last, sequenceOf(number, "invite"), want)
			checkFits(t, sequenceOf(5, "ack"), sequenceOf(number, "invite"), want)
			checkFits(t, sequenceOf(5, "cancel"), sequenceOf(number, "bye"), want)
		}
	}
	checkFits(t, sequenceOf(1, "a"), sequenceOf(2, "a"), 1)
	checkFits(t, sequenceOf(1, "a"), sequenceOf(impl.Great, "a"), 1)
	checkFits(t, sequenceOf(impl.Great-1, "a"), sequenceOf(impl.Great, "a"), 1)
	checkFits(t, sequenceOf(9, "a"), sequenceOf(10, "a"), 1)
	checkFits(t, sequenceOf(2, "a"), sequenceOf(1, "a"), -1)
	checkFits(t, sequenceOf(impl.Great, "a"), sequenceOf(1, "a"), -1)
	checkFits(t, sequenceOf(impl.Great, "a"), sequenceOf(impl.Great-1, "a"), -1)
	checkFits(t, sequenceOf(10, "a"), sequenceOf(9, "a"), -1)
}

// Promise 62.
func TestAckAndCancelBelongToInvites(t *testing.T) {
	for _, asks := range []string{"ack", "cancel"} {
		for _, number := range sequenceNumbers() {
			checkFits(t, sequenceOf(number, "invite"), sequenceOf(number, asks), 0)
			checkFits(t, sequenceOf(number, asks), sequenceOf(number, "invite"), -1)
			for _, other := range askedWords() {
				if other != "invite" && other != asks {
					checkFits(t, sequenceOf(number, other), sequenceOf(number, asks), -1)
				}
			}
		}
		for _, other := range askedWords() {
			for _, number := range []int{1, 4, 6, 7, impl.Great} {
				checkFits(t, sequenceOf(5, other), sequenceOf(number, asks), -1)
			}
		}
	}
	checkFits(t, sequenceOf(5, "ack"), sequenceOf(5, "cancel"), -1)
	checkFits(t, sequenceOf(5, "cancel"), sequenceOf(5, "ack"), -1)
}

// Promise 62.
func TestOtherWordsWithTheSameNumberDoNotFit(t *testing.T) {
	for _, last := range askedWords() {
		for _, next := range askedWords() {
			if last != next && (last != "invite" || next != "ack" && next != "cancel") {
				checkFits(t, sequenceOf(5, last), sequenceOf(5, next), -1)
			}
		}
	}
}

// Promise 62.
func TestInvalidSequencesDoNotFit(t *testing.T) {
	invalid := invalidSequences()
	for _, none := range invalid {
		checkFits(t, none, none, -1)
		for _, s := range []impl.Sequence{sequenceOf(1, "invite"), sequenceOf(impl.Great, "invite"), sequenceOf(5, "ack"), sequenceOf(1, "a"), sequenceOf(impl.Great, "zzzzzzzzzz")} {
			checkFits(t, none, s, -1)
			checkFits(t, s, none, -1)
		}
		for _, other := range []impl.Sequence{{}, sequenceOf(0, "invite"), sequenceOf(impl.Great+1, "invite"), sequenceOf(-1, "ack"), sequenceOf(5, ""), sequenceOf(6, "A")} {
			checkFits(t, none, other, -1)
			checkFits(t, other, none, -1)
		}
	}
}
