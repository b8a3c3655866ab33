package tests

import (
	"fmt"
	"math"
	"slices"
	"strings"
	"testing"

	"loop.example/conferencehall/impl"
)

func addressOf(user string, host string) impl.Address {
	return impl.Address{User: user, Host: host}
}

// annToBob is a dialog of ann with bob as ann has it, at its beginning.
func annToBob() impl.Dialog {
	return impl.Dialog{Call: "c1", Here: addressOf("ann", "hall"), There: addressOf("bob", "home")}
}

// dialogAt is a dialog with other numbers, that has not ended.
func dialogAt(d impl.Dialog, sent int, heard int) impl.Dialog {
	return impl.Dialog{Call: d.Call, Here: d.Here, There: d.There, Sent: sent, Heard: heard}
}

func endedDialog(d impl.Dialog) impl.Dialog {
	return impl.Dialog{Call: d.Call, Here: d.Here, There: d.There, Sent: d.Sent, Heard: d.Heard, Ended: true}
}

// sides are both addresses of some dialogs; some of them are the same, or have the same user or host.
func sides() [][2]impl.Address {
	return [][2]impl.Address{
		{addressOf("ann", "hall"), addressOf("bob", "home")},
		{addressOf("bob", "home"), addressOf("ann", "hall")},
		{addressOf("ann", "hall"), addressOf("ann", "hall")},
		{addressOf("ann", "hall"), addressOf("ann", "home")},
		{addressOf("ann", "hall"), addressOf("bob", "hall")},
		{addressOf("ann", "hall"), addressOf("hall", "ann")},
		{addressOf("a", "a"), addressOf("abcdefghij", "z123456789")},
	}
}

func dialogCalls() []string {
	return []string{"a", "c1", "bye", "abcdefghij"}
}

func dialogNumbers() []int {
	return []int{0, 1, 2, 7, 500, 65536, impl.Great - 2, impl.Great - 1, impl.Great}
}

// openDialogs are valid dialogs that have not ended.
func openDialogs() []impl.Dialog {
	var list []impl.Dialog
	for _, call := range dialogCalls() {
		for _, side := range sides() {
			for _, sent := range dialogNumbers() {
				for _, heard := range dialogNumbers() {
					list = append(list, impl.Dialog{Call: call, Here: side[0], There: side[1], Sent: sent, Heard: heard})
				}
			}
		}
	}
	return list
}

func endedDialogs() []impl.Dialog {
	list := openDialogs()
	for k, d := range list {
		list[k] = endedDialog(d)
	}
	return list
}

func validDialogs() []impl.Dialog {
	return append(openDialogs(), endedDialogs()...)
}

// mixedAddresses are no addresses, because the user or the host is empty, or has the other one, too.
func mixedAddresses() []impl.Address {
	return []impl.Address{
		{}, addressOf("ann", ""), addressOf("", "hall"), addressOf("ann", "ann@hall"), addressOf("ann", "sip:ann@hall"), addressOf("ann", "@hall"), addressOf("ann", "bob@hall"),
		addressOf("", "ann@hall"), addressOf("", "sip:ann@hall"), addressOf("ann@hall", ""), addressOf("ann@hall", "hall"), addressOf("sip:ann@hall", "hall"), addressOf("sip:ann", "hall"),
		addressOf("ann@", "hall"), addressOf("ann", "hall "), addressOf("ann", " hall"), addressOf("Ann", "hall"), addressOf("ann", "HALL"), addressOf("ann", "hall:5060"), addressOf("ann", "10"),
	}
}

// invalidDialogs are open dialogs, and ended ones, with something in them that makes them no dialogs.
func invalidDialogs() []impl.Dialog {
	list := []impl.Dialog{{}, {Call: "c1"}, {Here: addressOf("ann", "hall"), There: addressOf("bob", "home")}, {Call: "c1", Here: addressOf("ann", "hall")}, {Call: "c1", There: addressOf("bob", "home")}}
	for _, d := range []impl.Dialog{annToBob(), dialogAt(annToBob(), 3, 5), dialogAt(annToBob(), impl.Great, impl.Great)} {
		for _, none := range invalidWords() {
			list = append(list, impl.Dialog{Call: none, Here: d.Here, There: d.There, Sent: d.Sent, Heard: d.Heard})
		}
		for _, none := range append(invalidAddresses(), mixedAddresses()...) {
			list = append(list, impl.Dialog{Call: d.Call, Here: none, There: d.There, Sent: d.Sent, Heard: d.Heard})
			list = append(list, impl.Dialog{Call: d.Call, Here: d.Here, There: none, Sent: d.Sent, Heard: d.Heard})
			list = append(list, impl.Dialog{Call: d.Call, Here: none, There: none, Sent: d.Sent, Heard: d.Heard})
		}
		for _, number := range invalidLastNumbers() {
			list = append(list, dialogAt(d, number, d.Heard), dialogAt(d, d.Sent, number), dialogAt(d, number, number), dialogAt(d, number, -number))
		}
	}
	for _, d := range list {
		list = append(list, endedDialog(d))
	}
	return list
}

// invalidLastNumbers are no numbers of last requests; 0 is one, for no request.
func invalidLastNumbers() []int {
	return []int{-1, -2, -10, -impl.Great, impl.Great + 1, impl.Great + 2, 2 * impl.Great, 1 << 32, 1<<32 + 1, -1 << 32, math.MaxInt32, math.MinInt32, math.MaxInt - 1, math.MaxInt, math.MinInt, math.MinInt + 1}
}

// dialogWords are what requests of dialogs ask for; some of them are almost bye.
func dialogWords() []string {
	return append(askedWords(), "by", "b", "ye", "byes", "bye1", "byebye", "abye", "xbye", "goodbye", "byebyebyeb", "info")
}

// noDialogWords are what no request asks for; some of them are almost bye.
func noDialogWords() []string {
	return append(invalidWords(), "BYE", "Bye", "byE", "bye ", " bye", "bye\n", "bye\x00", "1bye", "bye,", "byebyebyeby", "481", "200")
}

// exchangedDialog is a dialog, whether it is valid or not, as the other side has it.
func exchangedDialog(d impl.Dialog) impl.Dialog {
	d.Here, d.There = d.There, d.Here
	d.Sent, d.Heard = d.Heard, d.Sent
	return d
}

// codesByHand tells the answers to requests that come one after the other, when none was heard before: those with a greater number than all before are heard, till one of them is bye.
func codesByHand(list []impl.Sequence) []int {
	var codes []int
	for k, s := range list {
		before := list[:k]
		switch {
		case slices.ContainsFunc(indicesOf(before), func(j int) bool { return before[j].Asks == "bye" && codes[j] == 200 }):
			codes = append(codes, 481)
		case slices.ContainsFunc(before, func(other impl.Sequence) bool { return other.Number >= s.Number }):
			codes = append(codes, 500)
		default:
			codes = append(codes, 200)
		}
	}
	return codes
}

func indicesOf(list []impl.Sequence) []int {
	var indices []int
	for k := range list {
		indices = append(indices, k)
	}
	return indices
}

// eachOrder calls check with every list of so many requests, each of them among some.
func eachOrder(some []impl.Sequence, length int, check func([]impl.Sequence)) {
	list := make([]impl.Sequence, length)
	var fill func(place int)
	fill = func(place int) {
		if place == length {
			check(list)
			return
		}
		for _, s := range some {
			list[place] = s
			fill(place + 1)
		}
	}
	fill(0)
}

func checkDialog(t *testing.T, d impl.Dialog, want bool) {
	t.Helper()
	if impl.DialogValid(d) != want {
		t.Errorf("DialogValid(%.200q) is not %v", fmt.Sprintf("%+v", d), want)
	}
}

func checkAsk(t *testing.T, d impl.Dialog, asks string, want impl.Dialog, sequence impl.Sequence) {
	t.Helper()
	if got, s := impl.DialogAsk(d, asks); got != want || s != sequence {
		t.Errorf("DialogAsk(%.200q, %.40q) is %+v and %+v, not %+v and %+v", fmt.Sprintf("%+v", d), asks, got, s, want, sequence)
	}
}

func checkHear(t *testing.T, d impl.Dialog, s impl.Sequence, want impl.Dialog, code int) {
	t.Helper()
	if got, answer := impl.DialogHear(d, s); got != want || answer != code {
		t.Errorf("DialogHear(%.200q, %.40q) is %+v and %d, not %+v and %d", fmt.Sprintf("%+v", d), textByHand(s), got, answer, want, code)
	}
}

func checkOtherSide(t *testing.T, d impl.Dialog, want impl.Dialog) {
	t.Helper()
	if got := impl.OtherSide(d); got != want {
		t.Errorf("OtherSide(%.200q) is %+v, not %+v", fmt.Sprintf("%+v", d), got, want)
	}
}

// checkHeardThere checks that the other side hears what is asked in an open dialog, and is the other side then; it returns the dialog after that.
func checkHeardThere(t *testing.T, d impl.Dialog, asks string) impl.Dialog {
	t.Helper()
	after, s := impl.DialogAsk(d, asks)
	there, code := impl.DialogHear(impl.OtherSide(d), s)
	if code != 200 || there != impl.OtherSide(after) || there != exchangedDialog(after) {
		t.Errorf("%.40q, asked in %+v, is answered by %d, with %+v after it and %+v there", asks, d, code, after, there)
	}
	return after
}

// checkRunOfRequests checks the answers to requests that come one after the other, and what they change.
func checkRunOfRequests(t *testing.T, list []impl.Sequence) {
	t.Helper()
	d := dialogAt(annToBob(), 4, 0)
	codes := codesByHand(list)
	for k, s := range list {
		want := d
		if codes[k] == 200 {
			want = impl.Dialog{Call: d.Call, Here: d.Here, There: d.There, Sent: d.Sent, Heard: s.Number, Ended: s.Asks == "bye"}
		}
		checkHear(t, d, s, want, codes[k])
		d = want
	}
}

// Promise 9.
func TestWhatIsAskedIsHeard(t *testing.T) {
	for _, d := range openDialogs() {
		if d.Sent == impl.Great {
			continue
		}
		for _, asks := range dialogWords() {
			checkHeardThere(t, d, asks)
		}
	}
}

// Promise 9.
func TestWhatIsAskedHasTheNextNumber(t *testing.T) {
	for _, d := range openDialogs() {
		if d.Sent == impl.Great {
			continue
		}
		for _, asks := range dialogWords() {
			want := dialogAt(d, d.Sent+1, d.Heard)
			if asks == "bye" {
				want = endedDialog(want)
			}
			checkAsk(t, d, asks, want, sequenceOf(d.Sent+1, asks))
		}
	}
}

// Promise 9.
func TestSomeRequestsOfADialog(t *testing.T) {
	d := annToBob()
	checkAsk(t, d, "invite", impl.Dialog{Call: "c1", Here: addressOf("ann", "hall"), There: addressOf("bob", "home"), Sent: 1}, sequenceOf(1, "invite"))
	checkAsk(t, dialogAt(d, 1, 0), "info", dialogAt(d, 2, 0), sequenceOf(2, "info"))
	checkAsk(t, dialogAt(d, 2, 40), "bye", impl.Dialog{Call: "c1", Here: addressOf("ann", "hall"), There: addressOf("bob", "home"), Sent: 3, Heard: 40, Ended: true}, sequenceOf(3, "bye"))
	checkHear(t, exchangedDialog(d), sequenceOf(1, "invite"), impl.Dialog{Call: "c1", Here: addressOf("bob", "home"), There: addressOf("ann", "hall"), Heard: 1}, 200)
	checkHear(t, dialogAt(d, 2, 0), sequenceOf(7, "info"), dialogAt(d, 2, 7), 200)
	checkHear(t, dialogAt(d, 2, 7), sequenceOf(8, "bye"), impl.Dialog{Call: "c1", Here: addressOf("ann", "hall"), There: addressOf("bob", "home"), Sent: 2, Heard: 8, Ended: true}, 200)
}

// Promise 9.
func TestByeEndsBothSides(t *testing.T) {
	for _, d := range openDialogs() {
		if d.Sent == impl.Great {
			continue
		}
		after := checkHeardThere(t, d, "bye")
		there := impl.OtherSide(after)
		if !after.Ended || !there.Ended {
			t.Errorf("after bye in %+v it is %+v, and there %+v", d, after, there)
		}
		for _, asks := range dialogWords() {
			checkAsk(t, after, asks, after, impl.Sequence{})
			checkAsk(t, there, asks, there, impl.Sequence{})
		}
	}
}

// Promise 9.
func TestEndedDialogsAskNothing(t *testing.T) {
	for _, d := range endedDialogs() {
		for _, asks := range dialogWords() {
			checkAsk(t, d, asks, d, impl.Sequence{})
		}
	}
}

// Promise 9.
func TestTheGreatestNumberIsTheLastOneSent(t *testing.T) {
	for _, asks := range []string{"info", "bye"} {
		ended := asks == "bye"
		d := annToBob()
		checkAsk(t, dialogAt(d, impl.Great-1, 3), asks, impl.Dialog{Call: d.Call, Here: d.Here, There: d.There, Sent: impl.Great, Heard: 3, Ended: ended}, sequenceOf(impl.Great, asks))
		checkAsk(t, dialogAt(d, impl.Great, 3), asks, dialogAt(d, impl.Great, 3), impl.Sequence{})
		checkAsk(t, dialogAt(d, impl.Great, impl.Great), asks, dialogAt(d, impl.Great, impl.Great), impl.Sequence{})
		checkAsk(t, dialogAt(d, 3, impl.Great), asks, impl.Dialog{Call: d.Call, Here: d.Here, There: d.There, Sent: 4, Heard: impl.Great, Ended: ended}, sequenceOf(4, asks))
	}
	for _, d := range openDialogs() {
		for _, asks := range dialogWords() {
			checkAsk(t, dialogAt(d, impl.Great, d.Heard), asks, dialogAt(d, impl.Great, d.Heard), impl.Sequence{})
		}
	}
}

// Promise 9.
func TestAllNumbersOfADialog(t *testing.T) {
	d := annToBob()
	for number := 1; number <= impl.Great; number++ {
		d = checkHeardThere(t, d, "info")
		if d.Sent != number || t.Failed() {
			t.Fatalf("request %d makes %+v", number, d)
		}
	}
	checkAsk(t, d, "info", d, impl.Sequence{})
	checkAsk(t, d, "bye", d, impl.Sequence{})
}

// Promise 9.
func TestBothSidesAskInTurn(t *testing.T) {
	for pattern := range 1 << 10 {
		d := annToBob()
		var asked [2]int
		for turn := range 10 {
			side := pattern >> turn & 1
			asked[side]++
			if side == 0 {
				d = checkHeardThere(t, d, "info")
			} else {
				d = exchangedDialog(checkHeardThere(t, exchangedDialog(d), "info"))
			}
			if d != dialogAt(annToBob(), asked[0], asked[1]) {
				t.Fatalf("after %d and %d requests it is %+v", asked[0], asked[1], d)
			}
		}
	}
}

// Promise 9.
func TestRequestsThatMeetAreBothHeard(t *testing.T) {
	for _, d := range openDialogs() {
		if d.Sent == impl.Great || d.Heard == impl.Great {
			continue
		}
		here, asked := impl.DialogAsk(d, "info")
		there, askedThere := impl.DialogAsk(impl.OtherSide(d), "update")
		after := dialogAt(d, d.Sent+1, d.Heard+1)
		checkHear(t, here, askedThere, after, 200)
		checkHear(t, there, asked, exchangedDialog(after), 200)
	}
}

// Promise 9.
func TestByesThatMeetEndBothSides(t *testing.T) {
	d := dialogAt(annToBob(), 3, 5)
	here, asked := impl.DialogAsk(d, "bye")
	there, askedThere := impl.DialogAsk(impl.OtherSide(d), "bye")
	checkHear(t, here, askedThere, endedDialog(dialogAt(d, 4, 5)), 481)
	checkHear(t, there, asked, exchangedDialog(endedDialog(dialogAt(d, 3, 6))), 481)
}

// Promise 9.
func TestOtherWordsAreNotAskedFor(t *testing.T) {
	for _, d := range []impl.Dialog{annToBob(), dialogAt(annToBob(), 3, 5), dialogAt(annToBob(), impl.Great-1, 0), dialogAt(annToBob(), impl.Great, 0), endedDialog(annToBob()), endedDialog(dialogAt(annToBob(), impl.Great, impl.Great))} {
		for _, none := range noDialogWords() {
			checkAsk(t, d, none, impl.Dialog{}, impl.Sequence{})
		}
		for b := 0; b < 256; b++ {
			if !strings.Contains(letters, oneByte(b)) {
				checkAsk(t, d, oneByte(b), impl.Dialog{}, impl.Sequence{})
			}
			if !strings.Contains(letters+digits, oneByte(b)) {
				checkAsk(t, d, "bye"+oneByte(b), impl.Dialog{}, impl.Sequence{})
			}
		}
	}
}

// Promise 9.
func TestNothingIsAskedInInvalidDialogs(t *testing.T) {
	for _, d := range invalidDialogs() {
		for _, asks := range []string{"info", "invite", "bye", "", "A"} {
			checkAsk(t, d, asks, impl.Dialog{}, impl.Sequence{})
		}
	}
}

// Promise 10.
func TestOrdersOfRequests(t *testing.T) {
	var some []impl.Sequence
	for number := 1; number <= 3; number++ {
		some = append(some, sequenceOf(number, "info"), sequenceOf(number, "bye"))
	}
	for length := 0; length <= 5; length++ {
		eachOrder(some, length, func(list []impl.Sequence) { checkRunOfRequests(t, list) })
	}
}

// Promise 10.
func TestOrdersOfNumbers(t *testing.T) {
	some := []impl.Sequence{sequenceOf(1, "info"), sequenceOf(2, "ack"), sequenceOf(3, "cancel"), sequenceOf(7, "invite"), sequenceOf(impl.Great-1, "info"), sequenceOf(impl.Great, "info")}
	for length := 0; length <= 5; length++ {
		eachOrder(some, length, func(list []impl.Sequence) { checkRunOfRequests(t, list) })
	}
}

// Promise 10.
func TestWhatWasHeardIsNotHeardAgain(t *testing.T) {
	for _, d := range validDialogs() {
		for _, s := range []impl.Sequence{sequenceOf(1, "info"), sequenceOf(d.Heard, "info"), sequenceOf(d.Heard+1, "info"), sequenceOf(d.Heard+2, "invite"), sequenceOf(d.Heard+1, "bye"), sequenceOf(impl.Great, "info"), sequenceOf(impl.Great, "bye")} {
			after, code := impl.DialogHear(d, s)
			if code != 200 {
				continue
			}
			checkHeardNoMore(t, after, s)
		}
	}
}

// checkHeardNoMore checks that a request is not heard again, nor any other one with its number, or one that comes before it, whatever happens between.
func checkHeardNoMore(t *testing.T, d impl.Dialog, s impl.Sequence) {
	t.Helper()
	asked, _ := impl.DialogAsk(d, "info")
	heard, _ := impl.DialogHear(d, sequenceOf(min(s.Number+1, impl.Great), "info"))
	byeAsked, _ := impl.DialogAsk(d, "bye")
	byeHeard, _ := impl.DialogHear(d, sequenceOf(min(s.Number+1, impl.Great), "bye"))
	for _, later := range []impl.Dialog{d, asked, heard, byeAsked, byeHeard} {
		code := 500
		if later.Ended {
			code = 481
		}
		for _, again := range []impl.Sequence{s, sequenceOf(s.Number, "info"), sequenceOf(s.Number, "bye"), sequenceOf(s.Number, "ack"), sequenceOf(s.Number, "cancel"), sequenceOf(1, "info"), sequenceOf(1, "bye")} {
			checkHear(t, later, again, later, code)
		}
	}
}

// Promise 10.
func TestRequestsThatComeTooLate(t *testing.T) {
	for _, d := range openDialogs() {
		for _, number := range []int{1, 2, d.Heard - 2, d.Heard - 1, d.Heard} {
			for _, asks := range []string{"info", "invite", "ack", "cancel", "bye"} {
				if number >= 1 && number <= d.Heard {
					checkHear(t, d, sequenceOf(number, asks), d, 500)
				}
			}
		}
	}
}

// Promise 10.
func TestGreaterNumbersAreHeard(t *testing.T) {
	for _, d := range openDialogs() {
		for _, number := range []int{d.Heard + 1, d.Heard + 2, d.Heard + 3, d.Heard + 100, impl.Great - 1, impl.Great} {
			for _, asks := range dialogWords() {
				if number <= d.Heard || number > impl.Great {
					continue
				}
				want := dialogAt(d, d.Sent, number)
				if asks == "bye" {
					want = endedDialog(want)
				}
				checkHear(t, d, sequenceOf(number, asks), want, 200)
			}
		}
	}
}

// Promise 10.
func TestNumbersAroundTheLastOneHeard(t *testing.T) {
	for heard := 0; heard <= 120; heard++ {
		d := dialogAt(annToBob(), 60, heard)
		for number := 1; number <= 130; number++ {
			if number > heard {
				checkHear(t, d, sequenceOf(number, "info"), dialogAt(d, 60, number), 200)
			} else {
				checkHear(t, d, sequenceOf(number, "info"), d, 500)
			}
		}
	}
}

// Promise 10.
func TestTheGreatestNumberIsTheLastOneHeard(t *testing.T) {
	d := annToBob()
	checkHear(t, dialogAt(d, 0, impl.Great-1), sequenceOf(impl.Great, "info"), dialogAt(d, 0, impl.Great), 200)
	checkHear(t, dialogAt(d, 0, impl.Great-1), sequenceOf(impl.Great-1, "info"), dialogAt(d, 0, impl.Great-1), 500)
	for _, number := range sequenceNumbers() {
		for _, asks := range dialogWords() {
			checkHear(t, dialogAt(d, 0, impl.Great), sequenceOf(number, asks), dialogAt(d, 0, impl.Great), 500)
		}
	}
}

// Promise 10.
func TestNothingIsHeardAfterTheEnd(t *testing.T) {
	for _, d := range endedDialogs() {
		for _, number := range []int{1, d.Heard - 1, d.Heard, d.Heard + 1, d.Heard + 2, impl.Great} {
			for _, asks := range []string{"info", "invite", "ack", "cancel", "bye"} {
				if number >= 1 && number <= impl.Great {
					checkHear(t, d, sequenceOf(number, asks), d, 481)
				}
			}
		}
	}
}

// Promise 10.
func TestByeThatComesTooLateEndsNothing(t *testing.T) {
	d := dialogAt(annToBob(), 1, 5)
	checkHear(t, d, sequenceOf(5, "bye"), d, 500)
	checkHear(t, d, sequenceOf(4, "bye"), d, 500)
	checkHear(t, d, sequenceOf(6, "info"), dialogAt(d, 1, 6), 200)
}

// Promise 10.
func TestByeThatComesTooEarlyEndsTheDialog(t *testing.T) {
	d, first := impl.DialogAsk(annToBob(), "invite")
	d, second := impl.DialogAsk(d, "info")
	_, third := impl.DialogAsk(d, "bye")
	there := impl.OtherSide(annToBob())
	ended := endedDialog(dialogAt(there, 0, 3))
	checkHear(t, there, third, ended, 200)
	checkHear(t, ended, first, ended, 481)
	checkHear(t, ended, second, ended, 481)
	checkHear(t, ended, third, ended, 481)
}

// Promise 10.
func TestInvalidSequencesAreNotHeard(t *testing.T) {
	for _, d := range []impl.Dialog{annToBob(), dialogAt(annToBob(), 3, 5), dialogAt(annToBob(), 0, impl.Great), endedDialog(annToBob()), endedDialog(dialogAt(annToBob(), impl.Great, impl.Great))} {
		for _, s := range invalidSequences() {
			checkHear(t, d, s, impl.Dialog{}, 0)
		}
		for _, none := range noDialogWords() {
			for _, number := range sequenceNumbers() {
				checkHear(t, d, sequenceOf(number, none), impl.Dialog{}, 0)
			}
		}
	}
}

// Promise 10.
func TestNothingIsHeardInInvalidDialogs(t *testing.T) {
	for _, d := range invalidDialogs() {
		for _, s := range []impl.Sequence{{}, sequenceOf(1, "info"), sequenceOf(6, "bye"), sequenceOf(impl.Great, "info"), sequenceOf(0, "info"), sequenceOf(7, "A")} {
			checkHear(t, d, s, impl.Dialog{}, 0)
		}
	}
}

// Promise 69.
func TestValidDialogs(t *testing.T) {
	for _, d := range validDialogs() {
		checkDialog(t, d, true)
	}
	for _, a := range validAddresses() {
		checkDialog(t, impl.Dialog{Call: "c1", Here: a, There: addressOf("bob", "home")}, true)
		checkDialog(t, impl.Dialog{Call: "c1", Here: addressOf("bob", "home"), There: a}, true)
		checkDialog(t, impl.Dialog{Call: "c1", Here: a, There: a}, true)
	}
}

// Promise 69.
func TestInvalidDialogs(t *testing.T) {
	for _, d := range invalidDialogs() {
		checkDialog(t, d, false)
	}
}

// Promise 69.
func TestDialogsHaveAWord(t *testing.T) {
	for _, d := range validDialogs() {
		without := d
		without.Call = ""
		checkDialog(t, without, false)
		checkOtherSide(t, without, impl.Dialog{})
		checkAsk(t, without, "info", impl.Dialog{}, impl.Sequence{})
		checkHear(t, without, sequenceOf(impl.Great, "info"), impl.Dialog{}, 0)
	}
}

// Promise 69.
func TestDialogsAreValidAtTheirBeginning(t *testing.T) {
	for _, d := range validDialogs() {
		checkDialog(t, dialogAt(d, 0, 0), true)
		checkDialog(t, dialogAt(d, 0, d.Heard), true)
		checkDialog(t, dialogAt(d, d.Sent, 0), true)
		checkHeardThere(t, dialogAt(d, 0, 0), "invite")
	}
}

// Promise 69.
func TestWordsOfDialogs(t *testing.T) {
	for b := 0; b < 256; b++ {
		d := annToBob()
		d.Call = oneByte(b)
		checkDialog(t, d, strings.Contains(letters, oneByte(b)))
		d.Call = "c" + oneByte(b)
		checkDialog(t, d, strings.Contains(letters+digits, oneByte(b)))
	}
	for length := 0; length <= 300; length++ {
		d := annToBob()
		d.Call = strings.Repeat("c", length)
		checkDialog(t, d, length >= 1 && length <= impl.MaxWord)
	}
}

// Promise 69.
func TestNumbersAroundTheLimitsOfDialogs(t *testing.T) {
	for _, limit := range []int{0, impl.Great} {
		for number := limit - 300; number <= limit+300; number++ {
			want := number >= 0 && number <= impl.Great
			checkDialog(t, dialogAt(annToBob(), number, 0), want)
			checkDialog(t, dialogAt(annToBob(), 0, number), want)
			checkDialog(t, dialogAt(annToBob(), number, number), want)
			checkDialog(t, endedDialog(dialogAt(annToBob(), number, 5)), want)
			checkDialog(t, endedDialog(dialogAt(annToBob(), 5, number)), want)
		}
	}
}

// Promise 69.
func TestWhatFollowsADialogIsOne(t *testing.T) {
	for _, d := range validDialogs() {
		for _, asks := range []string{"info", "bye"} {
			after, _ := impl.DialogAsk(d, asks)
			checkDialog(t, after, true)
			for _, number := range []int{1, impl.Great - 1, impl.Great} {
				heard, _ := impl.DialogHear(d, sequenceOf(number, asks))
				checkDialog(t, heard, true)
			}
		}
		checkDialog(t, impl.OtherSide(d), true)
	}
}

// Promise 70.
func TestOtherSidesHaveOtherSides(t *testing.T) {
	for _, d := range validDialogs() {
		checkOtherSide(t, impl.OtherSide(d), d)
	}
}

// Promise 70.
func TestOtherSidesAreExchanged(t *testing.T) {
	for _, d := range validDialogs() {
		checkOtherSide(t, d, impl.Dialog{Call: d.Call, Here: d.There, There: d.Here, Sent: d.Heard, Heard: d.Sent, Ended: d.Ended})
	}
	d := impl.Dialog{Call: "c1", Here: addressOf("ann", "hall"), There: addressOf("bob", "home"), Sent: 3, Heard: 5, Ended: true}
	checkOtherSide(t, d, impl.Dialog{Call: "c1", Here: addressOf("bob", "home"), There: addressOf("ann", "hall"), Sent: 5, Heard: 3, Ended: true})
}

// Promise 70.
func TestSomeDialogsAreTheirOwnOtherSide(t *testing.T) {
	for _, a := range validAddresses() {
		for _, number := range dialogNumbers() {
			d := impl.Dialog{Call: "c1", Here: a, There: a, Sent: number, Heard: number}
			checkOtherSide(t, d, d)
			checkOtherSide(t, endedDialog(d), endedDialog(d))
		}
	}
}

// Promise 70.
func TestInvalidDialogsHaveNoOtherSide(t *testing.T) {
	for _, d := range invalidDialogs() {
		checkOtherSide(t, d, impl.Dialog{})
		checkOtherSide(t, exchangedDialog(d), impl.Dialog{})
	}
}
