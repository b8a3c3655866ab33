package tests

import (
	"math"
	"slices"
	"testing"

	"loop.example/conferencehall/impl"
)

// mostThings is how many things may happen in one run.
const mostThings = 20

// toldStep is one of the steps that the document tells: what makes a state of another one, or leaves it.
type toldStep struct {
	state int
	hears int
	next  int
}

// toldSteps are all steps that the document tells, by their numbers; nothing else is heard.
func toldSteps() []toldStep {
	return []toldStep{
		{0, 0, 1}, {1, 0, 1},
		{0, 1, 4}, {1, 1, 4},
		{0, 2, 2}, {1, 2, 2}, {2, 2, 2},
		{2, 3, 3}, {3, 3, 3},
		{0, 4, 4}, {2, 4, 4}, {3, 4, 4},
	}
}

func transStates() []int {
	return []int{impl.TransTrying, impl.TransWaiting, impl.TransDone, impl.TransSure, impl.TransEnded}
}

func heardThings() []int {
	return []int{impl.HearEarly, impl.HearGood, impl.HearBad, impl.HearAck, impl.HearLate}
}

// noStates are numbers of no state, and of nothing that happens, either.
func noStates() []int {
	return []int{-1, -2, -3, -4, -5, -100, 5, 6, 7, 8, 10, 20, 100, 200, 255, 256, 257, 260, impl.Great, 1 << 32, 1<<32 + 1, 1<<32 + 4, -1 << 32, math.MaxInt32, math.MinInt32, math.MaxInt - 1, math.MaxInt, math.MinInt, math.MinInt + 1}
}

// stepByHand tells what TransStep returns for a state and something that happens to it.
func stepByHand(state int, hears int) (int, bool) {
	for _, told := range toldSteps() {
		if told.state == state && told.hears == hears {
			return told.next, true
		}
	}
	return state, false
}

// runByHand tells what TransRun returns for a list of things that happen.
func runByHand(list []int) (int, int) {
	state, heard := 0, 0
	for _, hears := range list {
		next, ok := stepByHand(state, hears)
		if ok {
			heard++
		}
		state = next
	}
	return state, heard
}

// kindByHand tells what an answer with any code is to a transaction: its first digit says it.
func kindByHand(code int) int {
	if code < 100 || code > 699 {
		return -1
	}
	return []int{-1, 0, 1, 2, 2, 2, 2}[code/100]
}

// eachRun calls check with every list of so many things that happen.
func eachRun(length int, check func([]int)) {
	list := make([]int, length)
	for {
		check(slices.Clone(list))
		place := length - 1
		for place >= 0 && list[place] == impl.HearLate {
			list[place] = 0
			place--
		}
		if place < 0 {
			return
		}
		list[place]++
	}
}

// longRuns are lists of so many things each, mixed by a fixed rule; most of them do not end early.
func longRuns(length int) [][]int {
	var all [][]int
	x := uint32(1)
	for round := 0; round < 500; round++ {
		// The first lists of a round hear few kinds of things, so that some go on for long.
		kinds := [][]int{{0}, {0, 3}, {0, 4}, {0, 2}, {2}, {2, 0, 1}, {2, 3}, {3, 2}, {0, 2, 3}, {0, 1, 2, 3}, {4, 3, 2, 1, 0}}[round%11]
		var list []int
		for len(list) < length {
			x = x*1664525 + 1013904223
			list = append(list, kinds[int(x>>16)%len(kinds)])
		}
		all = append(all, list)
	}
	return all
}

func checkStep(t *testing.T, state int, hears int, want int, told bool) {
	t.Helper()
	if got, ok := impl.TransStep(state, hears); got != want || ok != told {
		t.Errorf("TransStep(%d, %d) is %d and %v, not %d and %v", state, hears, got, ok, want, told)
	}
}

func checkRun(t *testing.T, list []int, want int, heard int) {
	t.Helper()
	if got, count := impl.TransRun(list); got != want || count != heard {
		t.Errorf("TransRun(%v), of %d things, is %d and %d, not %d and %d", list[:min(len(list), 30)], len(list), got, count, want, heard)
	}
}

func checkRunByHand(t *testing.T, list []int) {
	t.Helper()
	state, heard := runByHand(list)
	checkRun(t, list, state, heard)
}

func checkHears(t *testing.T, code int, want int) {
	t.Helper()
	if got := impl.HearsOf(code); got != want {
		t.Errorf("HearsOf(%d) is %d, not %d", code, got, want)
	}
}

func checkStateText(t *testing.T, state int, want string) {
	t.Helper()
	if got := impl.StateText(state); got != want {
		t.Errorf("StateText(%d) is %q, not %q", state, got, want)
	}
}

// Promises 8, 63, 64 and 65.
func TestNumbersOfStates(t *testing.T) {
	if !slices.Equal(transStates(), []int{0, 1, 2, 3, 4}) {
		t.Errorf("the states are %v", transStates())
	}
	if !slices.Equal(heardThings(), []int{0, 1, 2, 3, 4}) {
		t.Errorf("the things that happen are %v", heardThings())
	}
}

// Promise 8.
func TestNothingChangesWhatHasEnded(t *testing.T) {
	for _, hears := range heardThings() {
		checkStep(t, impl.TransEnded, hears, impl.TransEnded, false)
	}
	for code := 100; code <= 699; code++ {
		checkStep(t, impl.TransEnded, impl.HearsOf(code), impl.TransEnded, false)
	}
}

// Promise 8.
func TestNoStateBecomesALesserOne(t *testing.T) {
	for _, state := range transStates() {
		for _, hears := range heardThings() {
			next, ok := impl.TransStep(state, hears)
			if next < state || next > impl.TransEnded {
				t.Errorf("TransStep(%d, %d) is %d", state, hears, next)
			}
			if !ok && next != state {
				t.Errorf("TransStep(%d, %d) is %d and false", state, hears, next)
			}
		}
	}
}

// Promise 8.
func TestEndedRunsHaveEnded(t *testing.T) {
	ends := [][]int{{1}, {4}, {0, 1}, {2, 4}, {0, 2, 4}, {2, 3, 4}, {0, 0, 2, 2, 3, 3, 4}, {0, 4, 1}}
	for _, end := range ends {
		state, heard := runByHand(end)
		if state != impl.TransEnded {
			t.Fatalf("%v does not end", end)
		}
		checkRun(t, end, impl.TransEnded, heard)
		for length := 1; length <= 4; length++ {
			eachRun(length, func(after []int) {
				checkRun(t, slices.Concat(end, after), impl.TransEnded, heard)
			})
		}
		for _, after := range longRuns(mostThings - len(end)) {
			checkRun(t, slices.Concat(end, after), impl.TransEnded, heard)
		}
	}
}

// Promise 8.
func TestRunsNeverGoBack(t *testing.T) {
	for _, list := range longRuns(mostThings) {
		before, heard := impl.TransRun(nil)
		for length := 1; length <= len(list); length++ {
			state, count := impl.TransRun(list[:length])
			if state < before || count < heard || count > heard+1 {
				t.Errorf("TransRun(%v) is %d and %d, after %d and %d", list[:length], state, count, before, heard)
			}
			if before == impl.TransEnded && (state != before || count != heard) {
				t.Errorf("TransRun(%v) goes on after the end: %d and %d, after %d", list[:length], state, count, heard)
			}
			before, heard = state, count
		}
	}
}

// Promise 63.
func TestStepsThatAreTold(t *testing.T) {
	checkStep(t, impl.TransTrying, impl.HearEarly, impl.TransWaiting, true)
	checkStep(t, impl.TransWaiting, impl.HearEarly, impl.TransWaiting, true)
	checkStep(t, impl.TransTrying, impl.HearGood, impl.TransEnded, true)
	checkStep(t, impl.TransWaiting, impl.HearGood, impl.TransEnded, true)
	checkStep(t, impl.TransTrying, impl.HearBad, impl.TransDone, true)
	checkStep(t, impl.TransWaiting, impl.HearBad, impl.TransDone, true)
	checkStep(t, impl.TransDone, impl.HearBad, impl.TransDone, true)
	checkStep(t, impl.TransDone, impl.HearAck, impl.TransSure, true)
	checkStep(t, impl.TransSure, impl.HearAck, impl.TransSure, true)
	checkStep(t, impl.TransTrying, impl.HearLate, impl.TransEnded, true)
	checkStep(t, impl.TransDone, impl.HearLate, impl.TransEnded, true)
	checkStep(t, impl.TransSure, impl.HearLate, impl.TransEnded, true)
}

// Promise 63.
func TestAllElseChangesNothing(t *testing.T) {
	told := 0
	for _, state := range transStates() {
		for _, hears := range heardThings() {
			want, ok := stepByHand(state, hears)
			checkStep(t, state, hears, want, ok)
			if ok {
				told++
			}
		}
	}
	if told != len(toldSteps()) {
		t.Errorf("%d steps are told twice", len(toldSteps())-told)
	}
}

// Promise 63.
func TestAnswersThatComeTooLate(t *testing.T) {
	// After a bad answer, neither an early nor a good one is heard; after its ack, no answer is.
	checkStep(t, impl.TransDone, impl.HearEarly, impl.TransDone, false)
	checkStep(t, impl.TransDone, impl.HearGood, impl.TransDone, false)
	checkStep(t, impl.TransSure, impl.HearEarly, impl.TransSure, false)
	checkStep(t, impl.TransSure, impl.HearGood, impl.TransSure, false)
	checkStep(t, impl.TransSure, impl.HearBad, impl.TransSure, false)
	checkRun(t, []int{2, 0, 1}, impl.TransDone, 1)
	checkRun(t, []int{2, 1, 3}, impl.TransSure, 2)
	checkRun(t, []int{2, 3, 0, 1, 2}, impl.TransSure, 2)
	checkRun(t, []int{2, 3, 2, 3}, impl.TransSure, 3)
	checkRun(t, []int{1, 0, 1, 2, 3, 4}, impl.TransEnded, 1)
	checkRun(t, []int{4, 0, 1, 2, 3, 4}, impl.TransEnded, 1)
}

// Promise 63.
func TestWaitingIsNeverTooLong(t *testing.T) {
	checkStep(t, impl.TransWaiting, impl.HearLate, impl.TransWaiting, false)
	checkRun(t, []int{0, 4}, impl.TransWaiting, 1)
	checkRun(t, []int{0, 4, 4, 0, 4, 1}, impl.TransEnded, 3)
	checkRun(t, []int{0, 4, 2, 4, 4}, impl.TransEnded, 3)
}

// Promise 63.
func TestAcksBeforeBadAnswers(t *testing.T) {
	checkStep(t, impl.TransTrying, impl.HearAck, impl.TransTrying, false)
	checkStep(t, impl.TransWaiting, impl.HearAck, impl.TransWaiting, false)
	checkStep(t, impl.TransEnded, impl.HearAck, impl.TransEnded, false)
	checkRun(t, []int{3}, impl.TransTrying, 0)
	checkRun(t, []int{3, 3, 3}, impl.TransTrying, 0)
	checkRun(t, []int{3, 0, 3}, impl.TransWaiting, 1)
	checkRun(t, []int{3, 2}, impl.TransDone, 1)
	checkRun(t, []int{3, 2, 3}, impl.TransSure, 2)
	checkRun(t, []int{3, 1}, impl.TransEnded, 1)
	checkRun(t, []int{1, 3}, impl.TransEnded, 1)
}

// Promise 63.
func TestOtherStatesHaveNoSteps(t *testing.T) {
	for _, none := range noStates() {
		for _, hears := range append(heardThings(), noStates()...) {
			checkStep(t, none, hears, -1, false)
		}
		for _, state := range transStates() {
			checkStep(t, state, none, -1, false)
		}
	}
	for number := -300; number <= 300; number++ {
		if number < 0 || number > 4 {
			checkStep(t, number, impl.HearEarly, -1, false)
			checkStep(t, impl.TransTrying, number, -1, false)
			checkStep(t, impl.TransEnded, number, -1, false)
			checkStep(t, number, number, -1, false)
		}
	}
}

// Promise 63.
func TestRunsGoOnStepByStep(t *testing.T) {
	for length := 1; length <= 7; length++ {
		eachRun(length, func(list []int) {
			before, heard := impl.TransRun(list[:length-1])
			state, ok := impl.TransStep(before, list[length-1])
			if ok {
				heard++
			}
			checkRun(t, list, state, heard)
			checkRunByHand(t, list)
		})
	}
}

// Promise 63.
func TestLongRunsGoOnStepByStep(t *testing.T) {
	for _, list := range longRuns(mostThings) {
		state, heard := impl.TransTrying, 0
		for length := 0; length <= len(list); length++ {
			checkRun(t, list[:length], state, heard)
			checkRunByHand(t, list[:length])
			if length < len(list) {
				next, ok := impl.TransStep(state, list[length])
				state = next
				if ok {
					heard++
				}
			}
		}
	}
}

// Promise 63.
func TestSomeRuns(t *testing.T) {
	checkRun(t, nil, impl.TransTrying, 0)
	checkRun(t, []int{}, impl.TransTrying, 0)
	checkRun(t, []int{0}, impl.TransWaiting, 1)
	checkRun(t, []int{1}, impl.TransEnded, 1)
	checkRun(t, []int{2}, impl.TransDone, 1)
	checkRun(t, []int{4}, impl.TransEnded, 1)
	checkRun(t, []int{2, 3}, impl.TransSure, 2)
	checkRun(t, []int{0, 1}, impl.TransEnded, 2)
	checkRun(t, []int{0, 0, 2, 3, 1, 4}, impl.TransEnded, 5)
	checkRun(t, []int{0, 0, 0, 2, 2, 3, 3, 3, 4}, impl.TransEnded, 9)
	checkRun(t, []int{4, 4}, impl.TransEnded, 1)
}

// Promise 63.
func TestRunsHaveAtMostTwentyThings(t *testing.T) {
	for length := 0; length <= 300; length++ {
		for _, hears := range heardThings() {
			list := slices.Repeat([]int{hears}, length)
			if length <= mostThings {
				checkRunByHand(t, list)
			} else {
				checkRun(t, list, -1, 0)
			}
		}
	}
	checkRun(t, slices.Repeat([]int{0}, 20), impl.TransWaiting, 20)
	checkRun(t, slices.Repeat([]int{2}, 20), impl.TransDone, 20)
	checkRun(t, slices.Repeat([]int{3}, 20), impl.TransTrying, 0)
	checkRun(t, slices.Repeat([]int{1}, 20), impl.TransEnded, 1)
	for _, list := range longRuns(mostThings + 1) {
		checkRun(t, list, -1, 0)
	}
	checkRun(t, make([]int, 1000000), -1, 0)
	checkRun(t, slices.Repeat([]int{5}, 21), -1, 0)
}

// Promise 63.
func TestRunsWithThingsThatAreNone(t *testing.T) {
	for _, none := range append(noStates(), 99, 180, 300, 486) {
		checkRun(t, []int{none}, -1, 0)
		checkRun(t, slices.Repeat([]int{none}, mostThings), -1, 0)
		checkRun(t, slices.Repeat([]int{none}, mostThings+1), -1, 0)
		for _, list := range longRuns(mostThings)[:33] {
			for place := range list {
				broken := slices.Clone(list)
				broken[place] = none
				checkRun(t, broken, -1, 0)
				checkRun(t, broken[:place+1], -1, 0)
				checkRunByHand(t, broken[:place])
			}
			checkRun(t, append(slices.Clone(list), none), -1, 0)
		}
		// It does not matter that the transaction has ended before.
		for _, list := range [][]int{{1, none}, {4, none}, {1, none, 0}, {2, 3, 4, none}, {0, 1, 2, none, 3}, {none, 1}} {
			checkRun(t, list, -1, 0)
		}
	}
}

// Promise 63.
func TestListsOfRunsAreUnwritten(t *testing.T) {
	lists := append(longRuns(mostThings)[:22], nil, []int{0}, []int{0, 0, 2, 3, 1, 4}, []int{1, 5, 1}, []int{-1}, make([]int, 21), slices.Repeat([]int{4}, 30))
	for _, list := range lists {
		argument := roomy(list, 7)
		state, heard := impl.TransRun(argument)
		checkUnwritten(t, argument, list, 7)
		// Nothing is kept of the list, so neither what follows it nor a second run makes a difference.
		checkRun(t, list, state, heard)
		checkRun(t, argument, state, heard)
		overwrite(argument, 1)
		checkRun(t, list, state, heard)
	}
}

// Promise 64.
func TestAnswersAreOfThreeKinds(t *testing.T) {
	for code := 100; code <= 699; code++ {
		checkHears(t, code, kindByHand(code))
		if kind := impl.HearsOf(code); kind != impl.HearEarly && kind != impl.HearGood && kind != impl.HearBad {
			t.Errorf("HearsOf(%d) is %d, not one of the three kinds", code, kind)
		}
	}
}

// Promise 64.
func TestCodesAtTheLimitsOfTheKinds(t *testing.T) {
	checkHears(t, 99, -1)
	checkHears(t, 100, impl.HearEarly)
	checkHears(t, 101, impl.HearEarly)
	checkHears(t, 180, impl.HearEarly)
	checkHears(t, 199, impl.HearEarly)
	checkHears(t, 200, impl.HearGood)
	checkHears(t, 201, impl.HearGood)
	checkHears(t, 299, impl.HearGood)
	checkHears(t, 300, impl.HearBad)
	checkHears(t, 301, impl.HearBad)
	checkHears(t, 486, impl.HearBad)
	checkHears(t, 699, impl.HearBad)
	checkHears(t, 700, -1)
}

// Promise 64.
func TestOtherCodesAreNotHeard(t *testing.T) {
	for code := -2000; code <= 2000; code++ {
		checkHears(t, code, kindByHand(code))
	}
	for _, code := range append(otherCodes(), otherNumbers()...) {
		checkHears(t, code, -1)
		// What is none is nothing that happens, either.
		for _, state := range transStates() {
			checkStep(t, state, impl.HearsOf(code), -1, false)
		}
		checkRun(t, []int{impl.HearsOf(code)}, -1, 0)
	}
	for code := 100; code <= 699; code++ {
		checkHears(t, -code, -1)
		checkHears(t, code+1<<32, -1)
		checkHears(t, code-1<<32, -1)
		checkHears(t, code+600, -1)
	}
}

// Promise 64.
func TestAnswersToRequestsThatWaitAreHeard(t *testing.T) {
	after := []int{impl.TransWaiting, impl.TransEnded, impl.TransDone}
	for code := 100; code <= 699; code++ {
		next := after[kindByHand(code)]
		checkStep(t, impl.TransTrying, impl.HearsOf(code), next, true)
		checkStep(t, impl.TransWaiting, impl.HearsOf(code), next, true)
		checkRun(t, []int{impl.HearsOf(code)}, next, 1)
		checkRun(t, []int{impl.HearEarly, impl.HearsOf(code)}, next, 2)
		checkRun(t, []int{impl.HearEarly, impl.HearAck, impl.HearLate, impl.HearsOf(code)}, next, 2)
	}
}

// Promise 64.
func TestCodesOfAnswersAreThoseOfMessages(t *testing.T) {
	for code := -10; code <= 1000; code++ {
		if valid := impl.MessageValid(impl.Message{Code: code}); valid != (impl.HearsOf(code) >= 0) {
			t.Errorf("an answer with the code %d is valid: %v, but HearsOf is %d", code, valid, impl.HearsOf(code))
		}
	}
}

// Promise 65.
func TestNamesOfStates(t *testing.T) {
	checkStateText(t, impl.TransTrying, "trying")
	checkStateText(t, impl.TransWaiting, "waiting")
	checkStateText(t, impl.TransDone, "done")
	checkStateText(t, impl.TransSure, "sure")
	checkStateText(t, impl.TransEnded, "ended")
}

// Promise 65.
func TestStatesHaveDifferentNames(t *testing.T) {
	var names []string
	for _, state := range transStates() {
		name := impl.StateText(state)
		if !impl.WordValid(name) {
			t.Errorf("the name of the state %d is %q", state, name)
		}
		if slices.Contains(names, name) {
			t.Errorf("two states have the name %q", name)
		}
		names = append(names, name)
	}
}

// Promise 65.
func TestOtherStatesHaveNoNames(t *testing.T) {
	for _, none := range noStates() {
		checkStateText(t, none, "")
	}
	for number := -300; number <= 300; number++ {
		if number < 0 || number > 4 {
			checkStateText(t, number, "")
		}
	}
}
