package tests

import (
	"fmt"
	"math"
	"regexp"
	"slices"
	"strconv"
	"strings"
	"testing"

	"loop.example/conferencehall/impl"
)

// These tell the first lines of messages and the lines of bodies apart from all others in another way than the program does.
var (
	startsOfRequests = regexp.MustCompile(`\A([a-z][a-z0-9]{0,9}) sip:([a-z][a-z0-9]{0,9})@([a-z][a-z0-9]{0,9})\z`)
	startsOfAnswers  = regexp.MustCompile(`\Aanswer ([1-6][0-9][0-9])\z`)
	linesOfBodies    = regexp.MustCompile(`\A[!-~](?:[ -~]{0,58}[!-~])?\z`)
)

// namesOfAnswers are the names of the heads that go from a request into its answer.
func namesOfAnswers() []string {
	return []string{"via", "from", "to", "call", "cseq"}
}

func toHall() impl.Address {
	return impl.Address{User: "ann", Host: "hall"}
}

func requestOf(asks string, heads []impl.Head, body []string) impl.Message {
	return impl.Message{Asks: asks, To: toHall(), Heads: heads, Body: body}
}

func answerOf(code int, heads []impl.Head, body []string) impl.Message {
	return impl.Message{Code: code, Heads: heads, Body: body}
}

func requestWords() []string {
	return append(validWords(), "invite", "bye", "ack", "cancel", "answers", "answe", "answer1", "an", "sip")
}

func codesOfAnswers() []int {
	return []int{100, 101, 182, 199, 200, 300, 403, 481, 500, 698, 699}
}

func otherCodes() []int {
	return []int{0, 1, 7, 9, 10, 20, 98, 99, 700, 701, 999, 1000, 2000, -1, -99, -100, -200, -699, impl.Great, impl.Great + 1, math.MaxInt32, math.MinInt32, math.MaxInt, math.MinInt}
}

// someBodies are valid bodies of every kind of length; some lines look like those of other parts of a message.
func someBodies() [][]string {
	return [][]string{
		nil, {}, {"a"}, {"~"}, {"audio 5000", "video 5002"}, {"a", "a", "a"},
		{"via: x"}, {"answer 200"}, {"invite sip:ann@hall", "via: x", "a:"},
		{strings.Repeat("~", impl.MaxLine), "a" + strings.Repeat(" ", impl.MaxLine-2) + "b"},
		{"1", "2", "3", "4", "5", "6", "7"}, {"1", "2", "3", "4", "5", "6", "7", "8"}, slices.Repeat([]string{strings.Repeat("a", impl.MaxLine)}, impl.MaxBody),
	}
}

// invalidBodies are bodies of which exactly one line is invalid or empty, in each place, and bodies that are too long.
func invalidBodies() [][]string {
	var bodies [][]string
	for _, none := range append(invalidLines(), "") {
		for _, body := range [][]string{{"a"}, {"a", "b", "c"}, {"1", "2", "3", "4", "5", "6", "7", "8"}} {
			for place := range body {
				replaced := slices.Clone(body)
				replaced[place] = none
				bodies = append(bodies, replaced)
			}
		}
	}
	for _, count := range []int{impl.MaxBody + 1, impl.MaxBody + 2, 2 * impl.MaxBody, 256, 257, 1000} {
		bodies = append(bodies, slices.Repeat([]string{"a"}, count), make([]string, count))
	}
	return bodies
}

// messagesToAlter are messages with and without heads and a body, some of them full.
func messagesToAlter() []impl.Message {
	var list []impl.Message
	full := headsOf("via", "from", "to", "call", "cseq", "via", "x", "y")
	for _, heads := range [][]impl.Head{nil, headsOf("via"), headsOf("via", "x", "via"), full} {
		for _, body := range [][]string{nil, {"a"}, {"audio 5000", "via: x"}, {"1", "2", "3", "4", "5", "6", "7", "8"}} {
			list = append(list, requestOf("invite", heads, body), answerOf(200, heads, body))
		}
	}
	return list
}

func validRequests() []impl.Message {
	var list []impl.Message
	for _, heads := range someHeads() {
		for _, body := range someBodies() {
			list = append(list, requestOf("invite", heads, body))
		}
	}
	for _, asks := range requestWords() {
		list = append(list, requestOf(asks, nil, nil), requestOf(asks, headsOf("via", "x"), []string{"a"}))
	}
	for _, to := range validAddresses() {
		list = append(list, impl.Message{Asks: "bye", To: to}, impl.Message{Asks: "bye", To: to, Heads: headsOf("to")})
	}
	return list
}

func validAnswers() []impl.Message {
	var list []impl.Message
	for _, heads := range someHeads() {
		for _, body := range someBodies() {
			list = append(list, answerOf(200, heads, body))
		}
	}
	for _, code := range codesOfAnswers() {
		list = append(list, answerOf(code, nil, nil), answerOf(code, headsOf("via", "x"), []string{"a"}))
	}
	return list
}

func validMessages() []impl.Message {
	return append(validRequests(), validAnswers()...)
}

// invalidStarts are messages that neither ask nor answer, that do both, or that do either wrongly; without heads and body.
func invalidStarts() []impl.Message {
	list := []impl.Message{{}, {To: toHall()}, {Asks: "invite"}, {Asks: "answer"}, {Asks: "answer", Code: 200}, {Asks: "answer", To: toHall(), Code: 200}, {Asks: "answer", To: toHall()}}
	for _, none := range invalidWords() {
		list = append(list, impl.Message{Asks: none, To: toHall()})
		if none != "" {
			list = append(list, impl.Message{Asks: none, Code: 200})
		}
	}
	for _, to := range invalidAddresses() {
		list = append(list, impl.Message{Asks: "invite", To: to})
		if to != (impl.Address{}) {
			list = append(list, impl.Message{To: to, Code: 200})
		}
	}
	for _, code := range otherCodes() {
		list = append(list, impl.Message{Code: code})
	}
	for _, code := range append(otherCodes(), codesOfAnswers()...) {
		list = append(list, impl.Message{To: toHall(), Code: code}, impl.Message{Asks: "invite", Code: code}, impl.Message{Asks: "answer", To: toHall(), Code: code})
		if code != 0 {
			list = append(list, impl.Message{Asks: "invite", To: toHall(), Code: code})
		}
	}
	return list
}

// invalidMessages are messages of which exactly one part is invalid.
func invalidMessages() []impl.Message {
	var list []impl.Message
	for _, m := range invalidStarts() {
		list = append(list, m, impl.Message{Asks: m.Asks, To: m.To, Code: m.Code, Heads: headsOf("via", "x"), Body: []string{"a"}})
	}
	for _, heads := range invalidHeadLists() {
		list = append(list, requestOf("invite", heads, nil), answerOf(200, heads, []string{"a"}))
	}
	for _, body := range invalidBodies() {
		list = append(list, requestOf("invite", headsOf("via"), body), answerOf(200, nil, body))
	}
	return list
}

func sameMessage(a impl.Message, b impl.Message) bool {
	return a.Asks == b.Asks && a.To == b.To && a.Code == b.Code && slices.Equal(a.Heads, b.Heads) && slices.Equal(a.Body, b.Body)
}

func withoutBody(m impl.Message) impl.Message {
	m.Body = nil
	return m
}

// messageByHand writes a message as its lines: as a request if it asks for something, and else as an answer.
func messageByHand(m impl.Message) []string {
	start := "answer " + strconv.Itoa(m.Code)
	if m.Asks != "" {
		start = m.Asks + " sip:" + m.To.User + "@" + m.To.Host
	}
	lines := append([]string{start}, linesByHand(m.Heads)...)
	return append(append(lines, ""), m.Body...)
}

// startByHand returns the message without heads and body that begins with a line, and whether there is one.
func startByHand(s string) (impl.Message, bool) {
	if parts := startsOfAnswers.FindStringSubmatch(s); parts != nil {
		code, err := strconv.Atoi(parts[1])
		return impl.Message{Code: code}, err == nil
	}
	parts := startsOfRequests.FindStringSubmatch(s)
	if parts == nil || parts[1] == "answer" {
		return impl.Message{}, false
	}
	return impl.Message{Asks: parts[1], To: impl.Address{User: parts[2], Host: parts[3]}}, true
}

// readByHand returns the message that has some lines, and whether there is one.
func readByHand(lines []string) (impl.Message, bool) {
	end := slices.Index(lines, "")
	if end < 1 || end > 1+impl.MaxHeads || len(lines)-end > 1+impl.MaxBody {
		return impl.Message{}, false
	}
	m, ok := startByHand(lines[0])
	for _, s := range lines[1:end] {
		parts := linesOfHeads.FindStringSubmatch(s)
		if parts == nil {
			return impl.Message{}, false
		}
		m.Heads = append(m.Heads, impl.Head{Name: parts[1], Line: parts[2]})
	}
	for _, s := range lines[end+1:] {
		ok = ok && linesOfBodies.MatchString(s)
		m.Body = append(m.Body, s)
	}
	return m, ok
}

// shown returns the text of a message for reports, with its texts quoted and cut.
func shown(m impl.Message) string {
	return fmt.Sprintf("{%.40q %.40q %d %.200q %.200q}", m.Asks, m.To, m.Code, m.Heads, m.Body)
}

func checkMessage(t *testing.T, m impl.Message, want bool) {
	t.Helper()
	if impl.MessageValid(m) != want {
		t.Errorf("MessageValid(%s) is not %v", shown(m), want)
	}
}

func checkMessageLines(t *testing.T, m impl.Message, want []string) {
	t.Helper()
	if got := impl.MessageLines(m); !slices.Equal(got, want) {
		t.Errorf("MessageLines(%s) are %.200q, not %.200q", shown(m), got, want)
	}
}

func checkReadsMessage(t *testing.T, lines []string, want impl.Message) {
	t.Helper()
	if got, ok := impl.ReadMessage(lines); !ok || !sameMessage(got, want) {
		t.Errorf("ReadMessage(%.200q) is %s and %v, not %s and true", lines, shown(got), ok, shown(want))
	}
}

func checkRefusesMessage(t *testing.T, lines []string) {
	t.Helper()
	if got, ok := impl.ReadMessage(lines); ok || !sameMessage(got, impl.Message{}) {
		t.Errorf("ReadMessage(%.200q), of %d lines, is %s and %v, not the zero value and false", lines, len(lines), shown(got), ok)
	}
}

// checkCanonicalMessage checks that lines are read exactly if they are those of a message, and are those of the one read.
func checkCanonicalMessage(t *testing.T, lines []string) {
	t.Helper()
	want, ok := readByHand(lines)
	if !ok {
		checkRefusesMessage(t, lines)
		return
	}
	checkReadsMessage(t, lines, want)
	checkMessageLines(t, want, lines)
	checkMessage(t, want, true)
}

func checkAnswer(t *testing.T, m impl.Message, code int, want impl.Message) {
	t.Helper()
	if got, ok := impl.AnswerTo(m, code); !ok || !sameMessage(got, want) {
		t.Errorf("AnswerTo(%s, %d) is %s and %v, not %s and true", shown(m), code, shown(got), ok, shown(want))
	}
}

func checkNoAnswer(t *testing.T, m impl.Message, code int) {
	t.Helper()
	if got, ok := impl.AnswerTo(m, code); ok || !sameMessage(got, impl.Message{}) {
		t.Errorf("AnswerTo(%s, %d) is %s and %v, not the zero value and false", shown(m), code, shown(got), ok)
	}
}

func TestLimitOfBodies(t *testing.T) {
	if impl.MaxBody != 8 {
		t.Fatal("the limit is not that of the document")
	}
}

// Promise 5.
func TestLinesOfMessagesCanBeRead(t *testing.T) {
	for _, m := range validMessages() {
		lines := messageByHand(m)
		checkMessageLines(t, m, lines)
		checkReadsMessage(t, lines, m)
		checkReadsMessage(t, impl.MessageLines(m), m)
	}
}

// Promise 5.
func TestLinesOfRequestsAndAnswers(t *testing.T) {
	request := requestOf("invite", []impl.Head{{Name: "via", Line: "x"}, {Name: "other"}}, []string{"audio 5000", "video 5002"})
	checkMessageLines(t, request, []string{"invite sip:ann@hall", "via: x", "other: ", "", "audio 5000", "video 5002"})
	checkMessageLines(t, withoutBody(request), []string{"invite sip:ann@hall", "via: x", "other: ", ""})
	checkMessageLines(t, requestOf("bye", nil, []string{"a"}), []string{"bye sip:ann@hall", "", "a"})
	checkMessageLines(t, requestOf("bye", nil, nil), []string{"bye sip:ann@hall", ""})
	checkMessageLines(t, answerOf(200, nil, nil), []string{"answer 200", ""})
	checkMessageLines(t, answerOf(481, headsOf("via"), []string{"a"}), []string{"answer 481", "via: one", "", "a"})
}

// Promise 5.
func TestInvalidMessagesHaveNoLines(t *testing.T) {
	for _, m := range invalidMessages() {
		checkMessageLines(t, m, nil)
		// Written by hand, some of them have the lines of another one, which is valid.
		checkCanonicalMessage(t, messageByHand(m))
	}
}

// Promise 6.
func TestAnswersBelongToRequests(t *testing.T) {
	for _, m := range validRequests() {
		for _, code := range codesOfAnswers() {
			checkBelongs(t, m, code)
		}
	}
}

// checkBelongs checks that an answer to a valid request is the one written by hand, is valid, and is not answered.
func checkBelongs(t *testing.T, m impl.Message, code int) {
	t.Helper()
	heads := slices.DeleteFunc(slices.Clone(m.Heads), func(h impl.Head) bool { return !slices.Contains(namesOfAnswers(), h.Name) })
	checkAnswer(t, m, code, answerOf(code, heads, nil))
	answer, _ := impl.AnswerTo(m, code)
	checkMessage(t, answer, true)
	checkReadsMessage(t, impl.MessageLines(answer), answer)
	checkNoAnswer(t, answer, code)
	checkNoAnswer(t, answer, 200)
}

// Promise 6.
func TestCodesOfAnswersToRequests(t *testing.T) {
	m := requestOf("invite", headsOf("via", "x", "to"), []string{"a"})
	heads := []impl.Head{m.Heads[0], m.Heads[2]}
	for code := -1000; code <= 2000; code++ {
		if code >= 100 && code <= 699 {
			checkAnswer(t, m, code, answerOf(code, heads, nil))
			continue
		}
		checkNoAnswer(t, m, code)
	}
	for _, code := range otherCodes() {
		checkNoAnswer(t, m, code)
		checkNoAnswer(t, requestOf("bye", nil, nil), code)
	}
}

// Promise 6.
func TestNothingAndAnswersAreNotAnswered(t *testing.T) {
	for _, code := range append(otherCodes(), codesOfAnswers()...) {
		checkNoAnswer(t, impl.Message{}, code)
		checkNoAnswer(t, impl.Message{Heads: headsOf("via"), Body: []string{"a"}}, code)
		for _, m := range validAnswers() {
			checkNoAnswer(t, m, code)
		}
	}
}

// Promise 6.
func TestInvalidMessagesAreNotAnswered(t *testing.T) {
	for _, m := range invalidMessages() {
		for _, code := range []int{-1, 0, 99, 100, 200, 699, 700} {
			checkNoAnswer(t, m, code)
		}
	}
}

// Promise 6.
func TestHeadsOfAnswers(t *testing.T) {
	m := requestOf("invite", headsOf("cseq", "x", "call", "via", "to", "y", "from", "via"), []string{"a"})
	checkAnswer(t, m, 200, answerOf(200, []impl.Head{m.Heads[0], m.Heads[2], m.Heads[3], m.Heads[4], m.Heads[6], m.Heads[7]}, nil))
	for _, name := range namesOfAnswers() {
		for _, line := range headLinesToUse() {
			heads := []impl.Head{{Name: name, Line: line}}
			checkAnswer(t, requestOf("bye", heads, nil), 100, answerOf(100, heads, nil))
		}
		heads := headsOf(slices.Repeat([]string{name}, impl.MaxHeads)...)
		checkAnswer(t, requestOf("bye", heads, nil), 699, answerOf(699, heads, nil))
		checkAnswer(t, requestOf("bye", headsOf(name, "x", name), nil), 200, answerOf(200, []impl.Head{{Name: name, Line: "one"}, {Name: name}}, nil))
	}
	checkAnswer(t, requestOf("bye", nil, nil), 200, answerOf(200, nil, nil))
	checkAnswer(t, requestOf("bye", headsOf("x", "y", "x"), []string{"a"}), 200, answerOf(200, nil, nil))
}

// Promise 6.
func TestOtherHeadsAreNotThoseOfAnswers(t *testing.T) {
	others := append(validWords(), "other", "subject", "contact", "route", "v", "f", "i", "seq", "callid", "viafrom")
	for _, name := range namesOfAnswers() {
		others = append(others, name+"a", name+"1", name+name, "x"+name, name[:len(name)-1], name[1:], name+"tag")
	}
	for _, name := range others {
		checkAnswer(t, requestOf("invite", []impl.Head{{Name: name, Line: "via"}}, nil), 200, answerOf(200, nil, nil))
		checkAnswer(t, requestOf("invite", headsOf("via", name, "cseq"), nil), 200, answerOf(200, []impl.Head{{Name: "via", Line: "one"}, {Name: "cseq"}}, nil))
	}
}

// Promise 6.
func TestNamesOfAnswersWrittenOtherwiseAreRefused(t *testing.T) {
	for _, name := range namesOfAnswers() {
		for _, other := range []string{strings.ToUpper(name), strings.ToUpper(name[:1]) + name[1:], name + " ", " " + name, name + ":", name + "\x00"} {
			m := requestOf("invite", []impl.Head{{Name: "via", Line: "x"}, {Name: other, Line: "x"}}, nil)
			checkMessage(t, m, false)
			checkMessageLines(t, m, nil)
			checkNoAnswer(t, m, 200)
		}
	}
}

// Promise 58.
func TestValidMessages(t *testing.T) {
	for _, m := range validMessages() {
		checkMessage(t, m, true)
		checkMessage(t, withoutBody(m), true)
	}
}

// Promise 58.
func TestInvalidMessages(t *testing.T) {
	for _, m := range invalidMessages() {
		checkMessage(t, m, false)
	}
}

// Promise 58.
func TestMessagesAskOrAnswer(t *testing.T) {
	for _, m := range validMessages() {
		neither := m
		neither.Asks, neither.Code = "", 0
		checkMessage(t, neither, false)
		checkMessageLines(t, neither, nil)
		neither.To = impl.Address{}
		checkMessage(t, neither, false)
		both := m
		both.Asks, both.To, both.Code = "invite", toHall(), 200
		checkMessage(t, both, false)
		checkMessageLines(t, both, nil)
	}
}

// Promise 58.
func TestNobodyAsksForAnAnswer(t *testing.T) {
	for _, heads := range someHeads() {
		for _, body := range someBodies() {
			checkMessage(t, requestOf("answer", heads, body), false)
			checkMessageLines(t, requestOf("answer", heads, body), nil)
			checkRefusesMessage(t, messageByHand(requestOf("answer", heads, body)))
		}
	}
}

// Promise 58.
func TestCodesOfMessages(t *testing.T) {
	for code := -1000; code <= 2000; code++ {
		checkMessage(t, answerOf(code, headsOf("via"), []string{"a"}), code >= 100 && code <= 699)
		checkMessage(t, impl.Message{Asks: "invite", To: toHall(), Code: code, Heads: headsOf("via"), Body: []string{"a"}}, code == 0)
		checkCanonicalMessage(t, []string{"answer " + strconv.Itoa(code), ""})
	}
}

// Promise 58.
func TestLengthsOfMessages(t *testing.T) {
	for count := 0; count <= 3*impl.MaxBody; count++ {
		body := slices.Repeat([]string{"a"}, count)
		checkMessage(t, requestOf("invite", nil, body), count <= impl.MaxBody)
		checkMessage(t, answerOf(200, headsOf("via"), body), count <= impl.MaxBody)
		heads := equalHeads(count, impl.Head{Name: "a", Line: "x"})
		checkMessage(t, requestOf("invite", heads, nil), count <= impl.MaxHeads)
		checkMessage(t, answerOf(200, heads, []string{"a"}), count <= impl.MaxHeads)
		for more := 0; more <= 3*impl.MaxBody; more++ {
			checkCanonicalMessage(t, messageByHand(requestOf("invite", heads, slices.Repeat([]string{"a"}, more))))
			checkCanonicalMessage(t, messageByHand(answerOf(200, heads, slices.Repeat([]string{"a"}, more))))
		}
	}
	for length := 0; length <= 2*impl.MaxLine; length++ {
		checkMessage(t, requestOf("invite", nil, []string{strings.Repeat("~", length)}), length >= 1 && length <= impl.MaxLine)
		checkMessage(t, requestOf(strings.Repeat("x", length), nil, nil), length >= 1 && length <= impl.MaxWord)
		checkCanonicalMessage(t, []string{strings.Repeat("x", length) + " sip:ann@hall", "", strings.Repeat("~", length)})
	}
}

// Promise 59.
func TestShortFirstLinesAreCanonical(t *testing.T) {
	for _, s := range textsOver("a0 :", 5) {
		checkCanonicalMessage(t, []string{s, ""})
	}
	for _, s := range textsOver("a1 @", 5) {
		checkCanonicalMessage(t, []string{"bye sip:" + s, ""})
		checkCanonicalMessage(t, []string{s + "sip:a@b", ""})
	}
	for _, s := range textsOver("01679 ", 5) {
		checkCanonicalMessage(t, []string{"answer " + s, ""})
		checkCanonicalMessage(t, []string{"answer" + s + "200", ""})
	}
}

// Promise 59.
func TestAlteredFirstLinesAreCanonical(t *testing.T) {
	for _, s := range []string{"invite sip:ann@hall", "a sip:b@c", "answers sip:a@b", "abcdefghij sip:abcdefghij@abcdefghij", "answer 200", "answer 100", "answer 699"} {
		checkCanonicalMessage(t, []string{s, ""})
		for b := 0; b < 256; b++ {
			for place := 0; place <= len(s); place++ {
				checkCanonicalMessage(t, []string{insertedAt(s, place, oneByte(b)), ""})
			}
			for place := range s {
				checkCanonicalMessage(t, []string{s[:place] + oneByte(b) + s[place+1:], ""})
			}
		}
		for from := 0; from <= len(s); from++ {
			for to := from; to <= len(s); to++ {
				checkCanonicalMessage(t, []string{s[from:to], ""})
				checkCanonicalMessage(t, []string{s[:from] + s[to:], ""})
			}
		}
	}
}

// otherFirstLines are lines with which no message begins.
func otherFirstLines() []string {
	lines := []string{
		"", " ", "  ", "invite", "invite ", " invite", "answer", "answer ", " answer", "sip:ann@hall", " sip:ann@hall", "200", " 200", "200 answer", "200 ok",
		"invite  sip:ann@hall", " invite sip:ann@hall", "invite sip:ann@hall ", "invite sip:ann@hall x", "invite x sip:ann@hall", "invite sip:ann@hall sip:ann@hall", "invite\tsip:ann@hall", "invite\u00a0sip:ann@hall",
		"invite ann@hall", "invite tel:ann@hall", "invite sip:ann", "invite sip:@hall", "invite sip:ann@", "invite sip:ann@hall@hall", "invite SIP:ann@hall", "invite 200", "invite sip: ann@hall",
		"Invite sip:ann@hall", "INVITE sip:ann@hall", "1nvite sip:ann@hall", "in-vite sip:ann@hall", "abcdefghijk sip:ann@hall", "invite: sip:ann@hall", "sip:ann@hall invite", "invitesip:ann@hall",
		"answer sip:ann@hall", "answer  200", " answer 200", "answer 200 ", "answer 200 ok", "answer ok", "answer two", "answer\t200", "answer200", "answers 200", "Answer 200", "ANSWER 200", "answer: 200",
		"answer 0", "answer 1", "answer 20", "answer 99", "answer 099", "answer 700", "answer 0100", "answer 0200", "answer 00200", "answer 0699", "answer 0700", "answer -200", "answer +200", "answer 2000", "answer 200.0", "answer 2e2",
		"answer 1000000", "answer 1000001", "answer 18446744073709551816", "answer 4294967496", "invite sip:ann@hall\n", "answer 200\n", "answer 200\x00", "via: x",
	}
	return append(lines, strings.Repeat("a", 100000), strings.Repeat(" ", 100000), "answer "+strings.Repeat("0", 100000)+"200", "answer "+strings.Repeat("2", 100000), "invite sip:"+strings.Repeat("a", 100000)+"@b")
}

// Promise 59.
func TestOtherFirstLinesAreRefused(t *testing.T) {
	for _, s := range otherFirstLines() {
		checkRefusesMessage(t, []string{s})
		for _, m := range messagesToAlter() {
			replaced := messageByHand(m)
			replaced[0] = s
			checkRefusesMessage(t, replaced)
			checkRefusesMessage(t, slices.Insert(messageByHand(m), 0, s))
		}
	}
}

// Promise 59.
func TestLinesWithoutAnEmptyLineAreRefused(t *testing.T) {
	checkRefusesMessage(t, nil)
	checkRefusesMessage(t, []string{})
	for _, m := range messagesToAlter() {
		lines := messageByHand(m)
		empty := 1 + len(m.Heads)
		checkRefusesMessage(t, slices.Delete(slices.Clone(lines), empty, empty+1))
		checkRefusesMessage(t, lines[:empty])
		checkRefusesMessage(t, lines[:1])
		checkRefusesMessage(t, lines[1:])
		checkRefusesMessage(t, lines[empty:])
		for _, other := range []string{" ", "\n", "\r\n", "\x00", "-", ":"} {
			replaced := slices.Clone(lines)
			replaced[empty] = other
			checkRefusesMessage(t, replaced)
		}
	}
}

// Promise 59.
func TestSecondEmptyLinesAreRefused(t *testing.T) {
	for count := 1; count <= 1000; count++ {
		checkRefusesMessage(t, make([]string, count))
		checkCanonicalMessage(t, append([]string{"answer 200"}, make([]string, count)...))
	}
	checkReadsMessage(t, []string{"answer 200", ""}, answerOf(200, nil, nil))
	for _, m := range messagesToAlter() {
		lines := messageByHand(m)
		for place := 1 + len(m.Heads); place <= len(lines); place++ {
			checkRefusesMessage(t, slices.Insert(slices.Clone(lines), place, ""))
		}
		for place := range m.Body {
			replaced := slices.Clone(lines)
			replaced[2+len(m.Heads)+place] = ""
			checkRefusesMessage(t, replaced)
		}
	}
}

// linesToPutIn are lines of all parts of messages, and of none.
func linesToPutIn() []string {
	return append(otherLines()[:30], "", "via: x", "x: ", "answer 200", "invite sip:ann@hall", "a", "a b", " a", "a ", strings.Repeat("~", impl.MaxLine), strings.Repeat("~", impl.MaxLine+1), "abcdefghij: "+strings.Repeat("~", impl.MaxLine))
}

// Promise 59.
func TestAlteredLinesOfMessagesAreCanonical(t *testing.T) {
	for _, m := range messagesToAlter() {
		lines := messageByHand(m)
		checkCanonicalMessage(t, lines)
		for _, other := range linesToPutIn() {
			for place := 0; place <= len(lines); place++ {
				checkCanonicalMessage(t, slices.Insert(slices.Clone(lines), place, other))
			}
			for place := range lines {
				replaced := slices.Clone(lines)
				replaced[place] = other
				checkCanonicalMessage(t, replaced)
			}
		}
		for from := 0; from <= len(lines); from++ {
			for to := from; to <= len(lines); to++ {
				checkCanonicalMessage(t, lines[from:to])
				checkCanonicalMessage(t, slices.Delete(slices.Clone(lines), from, to))
				checkCanonicalMessage(t, slices.Insert(slices.Clone(lines), to, lines[from:to]...))
			}
		}
		checkCanonicalMessage(t, slices.Concat(lines, lines))
		slices.Reverse(lines)
		checkCanonicalMessage(t, lines)
	}
}

// Promise 59.
func TestOtherLinesOfMessagesAreRefused(t *testing.T) {
	for _, none := range invalidLines() {
		checkRefusesMessage(t, []string{"answer 200", none, ""})
		checkRefusesMessage(t, []string{"answer 200", "via: " + none, ""})
		checkRefusesMessage(t, []string{"answer 200", "", none})
		checkRefusesMessage(t, []string{"answer 200", "", "a", none, "b"})
		checkRefusesMessage(t, []string{"answer 200", "via: x", "", "a", "b", none})
	}
	for _, other := range otherLines() {
		if other != "" {
			checkRefusesMessage(t, []string{"invite sip:ann@hall", other, ""})
			checkRefusesMessage(t, []string{"invite sip:ann@hall", "via: x", other, "via: y", "", "a"})
		}
	}
	for _, count := range []int{impl.MaxBody + 1, impl.MaxHeads + 1, 256, 257, 100000} {
		checkRefusesMessage(t, append([]string{"answer 200", ""}, slices.Repeat([]string{"a"}, count)...))
		checkRefusesMessage(t, append(append([]string{"answer 200"}, slices.Repeat([]string{"a: x"}, count)...), ""))
		checkRefusesMessage(t, slices.Repeat([]string{"answer 200"}, count))
	}
}

// Promise 59.
func TestHeadsOfMessagesThatComeTwiceAreRead(t *testing.T) {
	lines := []string{"invite sip:ann@hall", "via: x", "to: ", "via: y", "via: x", "", "via: x", "via: x"}
	heads := []impl.Head{{Name: "via", Line: "x"}, {Name: "to"}, {Name: "via", Line: "y"}, {Name: "via", Line: "x"}}
	checkReadsMessage(t, lines, requestOf("invite", heads, []string{"via: x", "via: x"}))
	checkCanonicalMessage(t, lines)
	checkBelongs(t, requestOf("invite", heads, []string{"via: x", "via: x"}), 200)
}

// messagesToGuard are messages of which every part is valid or not, for the tests of memory.
func messagesToGuard() []impl.Message {
	list := append(messagesToAlter(), impl.Message{}, impl.Message{Heads: headsOf("via"), Body: []string{"a"}}, requestOf("answer", headsOf("via"), []string{"a"}))
	return append(list, requestOf("invite", headsOf("via", "A"), []string{"a", "b"}), requestOf("invite", headsOf("via"), []string{"a", ""}), answerOf(200, headsOf("via"), slices.Repeat([]string{"a"}, impl.MaxBody+1)))
}

// Promises 5, 6 and 58, and the general rules.
func TestMessagesAreNotWrittenTo(t *testing.T) {
	for _, m := range messagesToGuard() {
		heads, body := roomy(m.Heads, markedHead), roomy(m.Body, markedLine)
		argument := impl.Message{Asks: m.Asks, To: m.To, Code: m.Code, Heads: heads, Body: body}
		impl.MessageValid(argument)
		impl.MessageLines(argument)
		for _, code := range []int{99, 100, 200} {
			impl.AnswerTo(argument, code)
		}
		checkUnwritten(t, heads, m.Heads, markedHead)
		checkUnwritten(t, body, m.Body, markedLine)
	}
}

// Promise 5, and the general rules.
func TestLinesOfMessagesShareNoMemory(t *testing.T) {
	for _, m := range messagesToGuard() {
		checkApart(t, m.Heads, markedHead, markedLine, func(list []impl.Head) []string {
			return impl.MessageLines(impl.Message{Asks: m.Asks, To: m.To, Code: m.Code, Heads: list, Body: m.Body})
		})
		checkApart(t, m.Body, markedLine, markedLine, func(list []string) []string {
			return impl.MessageLines(impl.Message{Asks: m.Asks, To: m.To, Code: m.Code, Heads: m.Heads, Body: list})
		})
	}
}

// Promise 6, and the general rules.
func TestAnswersShareNoMemory(t *testing.T) {
	for _, m := range messagesToGuard() {
		for _, code := range []int{99, 100, 200} {
			checkApart(t, m.Heads, markedHead, markedHead, func(list []impl.Head) []impl.Head {
				answer, _ := impl.AnswerTo(impl.Message{Asks: m.Asks, To: m.To, Code: m.Code, Heads: list, Body: m.Body}, code)
				return answer.Heads
			})
			checkApart(t, m.Body, markedLine, markedLine, func(list []string) []string {
				answer, _ := impl.AnswerTo(impl.Message{Asks: m.Asks, To: m.To, Code: m.Code, Heads: m.Heads, Body: list}, code)
				return answer.Body
			})
		}
	}
}

// Promise 59, and the general rules.
func TestReadMessagesShareNoMemory(t *testing.T) {
	var lists [][]string
	for _, m := range messagesToGuard() {
		lines := messageByHand(m)
		lists = append(lists, lines, lines[:1], lines[1:], append(slices.Clone(lines), ""), append(slices.Clone(lines), "a"))
	}
	for _, lines := range append(lists, nil, []string{""}, []string{"", ""}) {
		checkApart(t, lines, markedLine, markedLine, func(list []string) []string {
			m, _ := impl.ReadMessage(list)
			return m.Body
		})
		checkApart(t, lines, markedLine, markedHead, func(list []string) []impl.Head {
			m, _ := impl.ReadMessage(list)
			return m.Heads
		})
	}
}
