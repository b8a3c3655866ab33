package tests

import (
	"math"
	"slices"
	"testing"

	"loop.example/conferencehall/impl"
)

// endOfTimes is when a request is given up, and lastSending when it is sent for the last time before that.
const (
	endOfTimes  = 32000
	lastSending = 31500
)

// sendings are all times at which a request is sent before it is given up.
func sendings() []int {
	return []int{0, 500, 1500, 3500, 7500, 11500, 15500, 19500, 23500, 27500, 31500}
}

// otherTimes are times at which no request is sent, and after which none is sent next.
func otherTimes() []int {
	return []int{-1, -2, -3, -499, -500, -501, -1500, -31500, -endOfTimes, -endOfTimes - 1, endOfTimes + 1, endOfTimes + 2, 32499, 32500, 35499, 35500, 35501, 39500, 2 * endOfTimes, 65536, 65536 + 500, impl.Great, 1 << 32, 1<<32 + 1, 1<<32 + 500, -1 << 32, math.MaxInt32, math.MinInt32, math.MaxInt - 1, math.MaxInt, math.MinInt, math.MinInt + 1}
}

// manyRetries are numbers of retries after which the wait is the longest one.
func manyRetries() []int {
	return []int{3, 4, 5, 6, 7, 8, 9, 10, 11, 20, 30, 31, 32, 33, 54, 55, 56, 60, 61, 62, 63, 64, 65, 127, 128, 129, 255, 256, 257, 65535, 65536, impl.Great, 1000000000, math.MaxInt32 - 1, math.MaxInt32, math.MaxInt32 + 1, 1 << 32, 1<<32 + 1, 1 << 62, math.MaxInt - 1, math.MaxInt}
}

// waitByHand tells how long is waited after so many retries, at least 0.
func waitByHand(retries int) int {
	if waits := []int{500, 1000, 2000}; retries < len(waits) {
		return waits[retries]
	}
	return 4000
}

// timesByHand tells the times at which a request is sent before any time up to the end.
func timesByHand(until int) []int {
	var list []int
	for _, at := range sendings() {
		if at < until {
			list = append(list, at)
		}
	}
	return list
}

// nextByHand tells when a request is sent next after a time up to the end.
func nextByHand(now int) int {
	all := sendings()
	if place := slices.IndexFunc(all, func(at int) bool { return at > now }); place >= 0 {
		return all[place]
	}
	return -1
}

func checkWait(t *testing.T, retries int, want int) {
	t.Helper()
	if got := impl.RetryWait(retries); got != want {
		t.Errorf("RetryWait(%d) is %d, not %d", retries, got, want)
	}
}

func checkTimes(t *testing.T, until int, want []int) {
	t.Helper()
	if got := impl.RetryTimes(until); !slices.Equal(got, want) {
		t.Errorf("RetryTimes(%d) is %v, not %v", until, got, want)
	}
}

func checkNext(t *testing.T, now int, want int) {
	t.Helper()
	if got := impl.NextRetry(now); got != want {
		t.Errorf("NextRetry(%d) is %d, not %d", now, got, want)
	}
}

// Promises 66, 67 and 68.
func TestNumbersOfRetries(t *testing.T) {
	if impl.WaitFirst != 500 || impl.WaitMost != 4000 || impl.GiveUp != endOfTimes {
		t.Errorf("the waits are %d to %d, and it is given up at %d", impl.WaitFirst, impl.WaitMost, impl.GiveUp)
	}
}

// Promise 66.
func TestWaitsAreDoubled(t *testing.T) {
	checkWait(t, 0, 500)
	checkWait(t, 1, 1000)
	checkWait(t, 2, 2000)
	checkWait(t, 3, 4000)
}

// Promise 66.
func TestWaitsAreNotLongerThanTheLongest(t *testing.T) {
	for retries := 3; retries <= 5000; retries++ {
		checkWait(t, retries, 4000)
	}
	for _, retries := range manyRetries() {
		checkWait(t, retries, impl.WaitMost)
	}
	for shift := 2; shift < 63; shift++ {
		checkWait(t, 1<<shift, impl.WaitMost)
		checkWait(t, 1<<shift-1, impl.WaitMost)
		checkWait(t, 1<<shift+1, impl.WaitMost)
	}
}

// Promise 66.
func TestWaitsDoNotBecomeShorter(t *testing.T) {
	check := func(retries int) {
		wait, after := impl.RetryWait(retries), impl.RetryWait(retries+1)
		if after < wait || after > 2*wait {
			t.Errorf("RetryWait(%d) is %d, and after one retry more it is %d", retries, wait, after)
		}
		if wait < impl.WaitFirst || wait > impl.WaitMost {
			t.Errorf("RetryWait(%d) is %d", retries, wait)
		}
		if want := min(2*wait, impl.WaitMost); after != want {
			t.Errorf("RetryWait(%d) is %d, not %d", retries+1, after, want)
		}
	}
	for retries := 0; retries <= 5000; retries++ {
		check(retries)
	}
	for _, retries := range manyRetries() {
		if retries < math.MaxInt {
			check(retries)
		}
	}
}

// Promise 66.
func TestFewerRetriesThanNoneHaveNoWait(t *testing.T) {
	for retries := -5000; retries <= -1; retries++ {
		checkWait(t, retries, -1)
	}
	for _, retries := range manyRetries() {
		checkWait(t, -retries, -1)
	}
	checkWait(t, math.MinInt, -1)
	checkWait(t, math.MinInt+1, -1)
	checkWait(t, math.MinInt32, -1)
	checkWait(t, -1<<32, -1)
}

// Promise 67.
func TestAllTimesOfSending(t *testing.T) {
	checkTimes(t, endOfTimes, sendings())
	checkTimes(t, impl.GiveUp, sendings())
	checkTimes(t, 9000, []int{0, 500, 1500, 3500, 7500})
	checkTimes(t, 2, []int{0})
	checkTimes(t, 1, []int{0})
}

// Promise 67.
func TestNothingIsSentBeforeTheBeginning(t *testing.T) {
	checkTimes(t, 0, nil)
}

// Promise 67.
func TestTheEndIsExcluded(t *testing.T) {
	for place, at := range sendings() {
		checkTimes(t, at, sendings()[:place])
		checkTimes(t, at+1, sendings()[:place+1])
		if at > 0 {
			checkTimes(t, at-1, sendings()[:place])
		}
	}
	checkTimes(t, lastSending-1, sendings()[:10])
	checkTimes(t, lastSending, sendings()[:10])
	checkTimes(t, lastSending+1, sendings())
	checkTimes(t, endOfTimes-1, sendings())
}

// Promise 67.
func TestTimesBeforeEachEnd(t *testing.T) {
	for until := 0; until <= endOfTimes; until++ {
		checkTimes(t, until, timesByHand(until))
	}
}

// Promise 67.
func TestRetriesAreApartByTheirWaits(t *testing.T) {
	for until := 0; until <= endOfTimes; until++ {
		times := impl.RetryTimes(until)
		at := 0
		for retries, sent := range times {
			if sent != at || sent >= until {
				t.Fatalf("RetryTimes(%d) is %v, with %d instead of %d at the place %d", until, times, sent, at, retries)
			}
			if wait := impl.RetryWait(retries); wait != waitByHand(retries) {
				t.Fatalf("the wait after the place %d is %d", retries, wait)
			}
			at = at + impl.RetryWait(retries)
		}
		// The next one would not be before the end, so none is left out.
		if at < until {
			t.Fatalf("RetryTimes(%d) is %v, without %d", until, times, at)
		}
	}
}

// Promise 67.
func TestEarlierEndsHaveTheFirstTimes(t *testing.T) {
	all := impl.RetryTimes(endOfTimes)
	before := 0
	for until := 0; until <= endOfTimes; until++ {
		count := len(impl.RetryTimes(until))
		if count < before || count > before+1 || count > len(all) {
			t.Fatalf("RetryTimes(%d) has %d times, after %d", until, count, before)
		}
		checkTimes(t, until, all[:count])
		before = count
	}
	if before != len(sendings()) {
		t.Errorf("a request is sent %d times", before)
	}
}

// Promise 67.
func TestOtherEndsHaveNoTimes(t *testing.T) {
	for _, until := range otherTimes() {
		checkTimes(t, until, nil)
	}
	for more := 1; more <= 5000; more++ {
		checkTimes(t, -more, nil)
		checkTimes(t, endOfTimes+more, nil)
	}
}

// Promise 67.
func TestTimesShareNoMemory(t *testing.T) {
	ends := append(sendings(), 1, 501, 3501, 9000, lastSending+1, endOfTimes, endOfTimes+1, -1)
	for _, until := range ends {
		want := slices.Clone(impl.RetryTimes(until))
		first, second := impl.RetryTimes(until), impl.RetryTimes(until)
		overwrite(first, 7)
		if !slices.Equal(second, want) {
			t.Errorf("two results of RetryTimes(%d) share memory: %v became %v", until, want, second)
		}
		overwrite(second, 8)
		for _, other := range ends {
			if other <= endOfTimes {
				checkTimes(t, other, timesByHand(other))
			}
		}
		// Nothing is kept of a result, so the next time is not found in what was written.
		checkNext(t, 0, 500)
		checkNext(t, lastSending-1, lastSending)
		checkNext(t, lastSending, -1)
	}
}

// Promise 68.
func TestSomeNextRetries(t *testing.T) {
	checkNext(t, 0, 500)
	checkNext(t, 1, 500)
	checkNext(t, 499, 500)
	checkNext(t, 500, 1500)
	checkNext(t, 501, 1500)
	checkNext(t, 3499, 3500)
	checkNext(t, 3500, 7500)
	checkNext(t, 27499, 27500)
	checkNext(t, 27500, lastSending)
	checkNext(t, lastSending-1, lastSending)
}

// Promise 68.
func TestTheFirstSendingIsNoRetry(t *testing.T) {
	for now := 0; now <= endOfTimes; now++ {
		if impl.NextRetry(now) == 0 {
			t.Fatalf("NextRetry(%d) is 0", now)
		}
	}
	checkNext(t, -1, -1)
}

// Promise 68.
func TestTheLastSendingHasNoNextOne(t *testing.T) {
	for now := lastSending; now <= endOfTimes; now++ {
		checkNext(t, now, -1)
	}
	checkNext(t, endOfTimes-1, -1)
	checkNext(t, endOfTimes, -1)
	checkNext(t, impl.GiveUp, -1)
}

// Promise 68.
func TestNextRetriesFollowEachOther(t *testing.T) {
	all := sendings()
	for place, at := range all[:len(all)-1] {
		checkNext(t, at, all[place+1])
	}
	list := []int{0}
	// It ends because each one is later, or there is none.
	for at := impl.NextRetry(0); at > list[len(list)-1]; at = impl.NextRetry(at) {
		list = append(list, at)
	}
	if !slices.Equal(list, impl.RetryTimes(endOfTimes)) || !slices.Equal(list, all) {
		t.Errorf("one after the other, the times are %v", list)
	}
}

// Promise 68.
func TestTheNextRetryIsARetry(t *testing.T) {
	all := impl.RetryTimes(endOfTimes)
	for now := 0; now <= endOfTimes; now++ {
		next := impl.NextRetry(now)
		if next == -1 {
			if all[len(all)-1] > now {
				t.Fatalf("NextRetry(%d) is none, but %v are the times", now, all)
			}
			continue
		}
		if next <= now || !slices.Contains(all, next) {
			t.Fatalf("NextRetry(%d) is %d, but %v are the times", now, next, all)
		}
		for _, at := range all {
			if at > now && at < next {
				t.Fatalf("NextRetry(%d) is %d, but %d is between", now, next, at)
			}
		}
	}
}

// Promise 68.
func TestNextRetriesAfterEachTime(t *testing.T) {
	for now := 0; now <= endOfTimes; now++ {
		checkNext(t, now, nextByHand(now))
	}
}

// Promise 68.
func TestOtherTimesHaveNoNextRetry(t *testing.T) {
	for _, now := range otherTimes() {
		checkNext(t, now, -1)
	}
	for more := 1; more <= 5000; more++ {
		checkNext(t, -more, -1)
		checkNext(t, endOfTimes+more, -1)
	}
}
