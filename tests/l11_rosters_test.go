package tests

import (
	"fmt"
	"math"
	"regexp"
	"slices"
	"strings"
	"testing"

	"loop.example/conferencehall/impl"
)

var wordsOfPeople = regexp.MustCompile(`\A[a-z][a-z0-9]{0,9}\z`)

// markedPerson is no valid person, so that what is written behind the end of a list cannot be taken for a part of it.
var markedPerson = impl.Person{Word: "MARKED", Role: -7, Muted: true}

var namesOfRoles = []string{"guest", "member", "host"}

// peopleOf returns people written as a word and a role, and muted, if they are so.
func peopleOf(texts ...string) []impl.Person {
	var list []impl.Person
	for _, text := range texts {
		parts := strings.Fields(text)
		list = append(list, impl.Person{Word: parts[0], Role: slices.Index(namesOfRoles, parts[1]), Muted: len(parts) > 2})
	}
	return list
}

func personOf(text string) impl.Person {
	return peopleOf(text)[0]
}

func withRole(p impl.Person, role int) impl.Person {
	p.Role = role
	return p
}

func withWord(p impl.Person, word string) impl.Person {
	p.Word = word
	return p
}

// eachPerson returns people with a word in all roles, muted and not.
func eachPerson(word string) []impl.Person {
	return peopleOf(word+" guest", word+" member", word+" host", word+" guest muted", word+" member muted", word+" host muted")
}

// rostersOver returns all valid rosters of people with some of these words, which ascend.
func rostersOver(words ...string) [][]impl.Person {
	lists := [][]impl.Person{nil}
	for _, word := range words {
		for _, list := range slices.Clone(lists) {
			for _, p := range eachPerson(word) {
				lists = append(lists, append(slices.Clone(list), p))
			}
		}
	}
	return lists
}

// rosterOfCount returns so many people with words that ascend; the first one has a role, and the others have the next ones in turn.
func rosterOfCount(count int, role int) []impl.Person {
	var list []impl.Person
	for k := range count {
		list = append(list, impl.Person{Word: fmt.Sprintf("p%04d", k), Role: (role + k) % 3, Muted: k%2 == 1})
	}
	return list
}

// allInRole returns the same people, all in one role.
func allInRole(list []impl.Person, role int) []impl.Person {
	same := slices.Clone(list)
	for k := range same {
		same[k].Role = role
	}
	return same
}

// someRosters are valid rosters of every count, with and without a host.
func someRosters() [][]impl.Person {
	lists := [][]impl.Person{nil, {}, peopleOf("ann guest", "bob host", "eve member muted")}
	for count := 1; count <= impl.MaxPeople; count++ {
		for role := impl.RoleGuest; role <= impl.RoleHost; role++ {
			lists = append(lists, rosterOfCount(count, role), allInRole(rosterOfCount(count, 0), role))
		}
	}
	return append(lists, peopleOf("a guest", "a0 member", "a00 host", "aa guest muted", "ab guest", "abcdefghij guest", "z member", "zzzzzzzzzz guest"))
}

func validRosters() [][]impl.Person {
	return append(rostersOver("a", "ab", "b"), someRosters()...)
}

func otherRoles() []int {
	return []int{-1, -2, -3, 3, 4, 255, 256, 258, math.MaxInt32, math.MinInt32, 1 << 32, math.MaxInt, math.MinInt}
}

// wrongPeople are nobody a roster may have.
func wrongPeople() []impl.Person {
	list := []impl.Person{{}, {Role: impl.RoleHost}, {Word: "ANN", Role: impl.RoleHost, Muted: true}, {Word: "0", Role: -1}}
	for _, word := range invalidWords() {
		list = append(list, impl.Person{Word: word}, impl.Person{Word: word, Role: impl.RoleHost, Muted: true})
	}
	for _, role := range otherRoles() {
		list = append(list, impl.Person{Word: "c", Role: role}, impl.Person{Word: "c", Role: role, Muted: true})
	}
	return list
}

// wrongRosters are too long, not in order, with somebody twice, or with one who is wrong in each place.
func wrongRosters() [][]impl.Person {
	var lists [][]impl.Person
	for _, list := range someRosters() {
		lists = append(lists, rostersOutOfOrder(list)...)
		for place := range list {
			for _, p := range []impl.Person{withWord(list[place], ""), withWord(list[place], "0"), withWord(list[place], list[place].Word+"-"), withWord(list[place], "P0"), withRole(list[place], -1), withRole(list[place], 3)} {
				wrong := slices.Clone(list)
				wrong[place] = p
				lists = append(lists, wrong)
			}
		}
	}
	for _, p := range wrongPeople() {
		lists = append(lists, []impl.Person{p})
	}
	for _, count := range []int{impl.MaxPeople + 1, impl.MaxPeople + 2, 2 * impl.MaxPeople, 256, 257, 264, 1000} {
		lists = append(lists, rosterOfCount(count, 0), rosterOfCount(count, 2), slices.Repeat(peopleOf("ann host"), count), make([]impl.Person, count))
	}
	return lists
}

// rostersOutOfOrder returns lists made of a valid roster in which words do not ascend, or come twice.
func rostersOutOfOrder(list []impl.Person) [][]impl.Person {
	var lists [][]impl.Person
	for place, p := range list {
		for other := range list {
			twice := slices.Clone(list)
			if other == place {
				twice = slices.Insert(twice, place, p)
			} else {
				twice[other].Word = p.Word
			}
			lists = append(lists, twice)
		}
		if place > 0 {
			exchanged := slices.Clone(list)
			exchanged[place-1], exchanged[place] = exchanged[place], exchanged[place-1]
			lists = append(lists, exchanged, append(slices.Clone(list[place:]), list[:place]...))
		}
	}
	return lists
}

func byWord(a impl.Person, b impl.Person) int {
	return strings.Compare(a.Word, b.Word)
}

// rosterValidByHand sorts the people: a valid roster is the same then, with everybody once.
func rosterValidByHand(list []impl.Person) bool {
	sorted := slices.SortedFunc(slices.Values(list), byWord)
	once := slices.CompactFunc(sorted, func(a impl.Person, b impl.Person) bool { return a.Word == b.Word })
	wrong := func(p impl.Person) bool {
		return !wordsOfPeople.MatchString(p.Word) || !slices.Contains([]int{0, 1, 2}, p.Role)
	}
	return len(list) <= 8 && slices.Equal(once, list) && !slices.ContainsFunc(list, wrong)
}

// joinByHand puts somebody behind a valid roster, and sorts it.
func joinByHand(list []impl.Person, p impl.Person) ([]impl.Person, bool) {
	joined := slices.SortedFunc(slices.Values(append(slices.Clone(list), p)), byWord)
	if rosterValidByHand(joined) {
		return joined, true
	}
	return list, false
}

// leaveByHand takes everybody with a word out of a valid roster; the first one of those with the greatest role is a host then, if it was none before.
func leaveByHand(list []impl.Person, word string) ([]impl.Person, bool) {
	left := slices.DeleteFunc(slices.Clone(list), func(p impl.Person) bool { return p.Word == word })
	if len(left) == len(list) {
		return list, false
	}
	for _, role := range []int{2, 1, 0} {
		place := slices.IndexFunc(left, func(p impl.Person) bool { return p.Role == role })
		if place >= 0 {
			left[place].Role = 2
			break
		}
	}
	return left, true
}

func checkRoster(t *testing.T, list []impl.Person, want bool) {
	t.Helper()
	if impl.RosterValid(list) != want {
		t.Errorf("RosterValid(%.200q) is not %v", fmt.Sprint(list), want)
	}
}

func checkPersonAt(t *testing.T, list []impl.Person, word string, want int) {
	t.Helper()
	if got := impl.PersonAt(list, word); got != want {
		t.Errorf("PersonAt(%.200q, %.40q) is %d, not %d", fmt.Sprint(list), word, got, want)
	}
}

func checkJoin(t *testing.T, list []impl.Person, p impl.Person, want []impl.Person, wantOK bool) {
	t.Helper()
	if got, ok := impl.JoinRoster(list, p); !slices.Equal(got, want) || ok != wantOK {
		t.Errorf("JoinRoster(%.200q, %.60q) is %.200q and %v, not %.200q and %v", fmt.Sprint(list), fmt.Sprint(p), fmt.Sprint(got), ok, fmt.Sprint(want), wantOK)
	}
}

func checkLeave(t *testing.T, list []impl.Person, word string, want []impl.Person, wantOK bool) {
	t.Helper()
	if got, ok := impl.LeaveRoster(list, word); !slices.Equal(got, want) || ok != wantOK {
		t.Errorf("LeaveRoster(%.200q, %.40q) is %.200q and %v, not %.200q and %v", fmt.Sprint(list), word, fmt.Sprint(got), ok, fmt.Sprint(want), wantOK)
	}
}

// checkJoined checks what promise 14 says about somebody who joins a valid roster.
func checkJoined(t *testing.T, list []impl.Person, p impl.Person) {
	t.Helper()
	want, wantOK := joinByHand(list, p)
	checkJoin(t, list, p, want, wantOK)
	if !wantOK {
		return
	}
	got, _ := impl.JoinRoster(list, p)
	checkRoster(t, got, true)
	place := impl.PersonAt(got, p.Word)
	if len(got) != len(list)+1 || place < 0 || got[place] != p || !slices.Equal(slices.Delete(slices.Clone(got), place, place+1), list) {
		t.Errorf("JoinRoster(%.200q, %.60q) is %.200q: more has changed than that it is there", fmt.Sprint(list), fmt.Sprint(p), fmt.Sprint(got))
	}
}

// checkLeft checks what promise 15 says about somebody who leaves a valid roster.
func checkLeft(t *testing.T, list []impl.Person, word string) {
	t.Helper()
	want, wantOK := leaveByHand(list, word)
	checkLeave(t, list, word, want, wantOK)
	if !wantOK {
		return
	}
	got, _ := impl.LeaveRoster(list, word)
	checkRoster(t, got, true)
	checkPersonAt(t, got, word, -1)
	isHost := func(p impl.Person) bool { return p.Role == impl.RoleHost }
	if len(got) != len(list)-1 || len(got) > 0 && !slices.ContainsFunc(got, isHost) {
		t.Errorf("LeaveRoster(%.200q, %.40q) is %.200q", fmt.Sprint(list), word, fmt.Sprint(got))
	}
}

func TestLimitsOfRosters(t *testing.T) {
	if impl.RoleGuest != 0 || impl.RoleMember != 1 || impl.RoleHost != 2 || impl.MaxPeople != 8 {
		t.Fatal("the limits are not those of the document")
	}
}

// Promise 14.
func TestSomePeopleJoin(t *testing.T) {
	bob, ann, eve := personOf("bob host"), personOf("ann guest"), personOf("eve member muted")
	checkJoin(t, nil, bob, peopleOf("bob host"), true)
	checkJoin(t, []impl.Person{}, ann, peopleOf("ann guest"), true)
	// In front of all, between two, and behind all.
	checkJoin(t, peopleOf("bob host"), ann, peopleOf("ann guest", "bob host"), true)
	checkJoin(t, peopleOf("ann guest", "eve member muted"), bob, peopleOf("ann guest", "bob host", "eve member muted"), true)
	checkJoin(t, peopleOf("ann guest", "bob host"), eve, peopleOf("ann guest", "bob host", "eve member muted"), true)
	// Joining makes nobody a host.
	checkJoin(t, nil, ann, peopleOf("ann guest"), true)
	checkJoin(t, peopleOf("ann guest"), eve, peopleOf("ann guest", "eve member muted"), true)
	checkJoin(t, peopleOf("ann host"), bob, peopleOf("ann host", "bob host"), true)
	// Words are in order byte by byte, a word before those that begin with it.
	checkJoin(t, peopleOf("a guest", "ab guest"), personOf("aa host"), peopleOf("a guest", "aa host", "ab guest"), true)
	checkJoin(t, peopleOf("ab guest", "b guest"), personOf("a host"), peopleOf("a host", "ab guest", "b guest"), true)
	checkJoin(t, peopleOf("a guest", "aa guest"), personOf("a9 host muted"), peopleOf("a guest", "a9 host muted", "aa guest"), true)
	checkJoin(t, peopleOf("p2 guest"), personOf("p10 guest"), peopleOf("p10 guest", "p2 guest"), true)
}

// Promise 14.
func TestEverybodyJoins(t *testing.T) {
	for _, list := range validRosters() {
		for _, word := range []string{"a", "a0", "aa", "ab", "ab1", "b", "zzz"} {
			for _, p := range eachPerson(word) {
				checkJoined(t, list, p)
			}
		}
	}
}

// Promise 14.
func TestPeopleJoinInEachPlace(t *testing.T) {
	for _, list := range someRosters() {
		for place, p := range list {
			others := slices.Delete(slices.Clone(list), place, place+1)
			checkJoin(t, others, p, list, true)
			checkJoined(t, others, p)
		}
	}
}

// Promise 14.
func TestTheOrderOfJoiningDoesNotMatter(t *testing.T) {
	want := peopleOf("a guest", "a1 host muted", "ab member", "b guest muted", "ba host")
	for _, words := range orders([]string{"a", "a1", "ab", "b", "ba"}) {
		var list []impl.Person
		for _, word := range words {
			place := slices.IndexFunc(want, func(p impl.Person) bool { return p.Word == word })
			checkJoined(t, list, want[place])
			list, _ = impl.JoinRoster(list, want[place])
		}
		if len(words) == len(want) && !slices.Equal(list, want) {
			t.Errorf("those who joined in the order %q are %v", words, list)
		}
	}
}

// Promise 14.
func TestNobodyJoinsTwice(t *testing.T) {
	for _, list := range validRosters() {
		for _, p := range list {
			for _, again := range append(eachPerson(p.Word), withRole(p, -1), withRole(p, 3)) {
				checkJoin(t, list, again, list, false)
			}
		}
	}
}

// Promise 14.
func TestFullRosters(t *testing.T) {
	for role := impl.RoleGuest; role <= impl.RoleHost; role++ {
		full := rosterOfCount(impl.MaxPeople, role)
		for place := 0; place <= len(full); place++ {
			word := "a"
			if place > 0 {
				word = full[place-1].Word + "x"
			}
			for _, p := range eachPerson(word) {
				checkJoin(t, full, p, full, false)
				checkJoin(t, full[1:], p, slices.Insert(slices.Clone(full[1:]), max(place-1, 0), p), true)
				checkJoin(t, full[:impl.MaxPeople-1], p, slices.Insert(slices.Clone(full[:impl.MaxPeople-1]), min(place, impl.MaxPeople-1), p), true)
			}
		}
	}
}

// Promise 14.
func TestWrongPeopleDoNotJoin(t *testing.T) {
	for _, list := range append(someRosters(), rostersOver("a", "ab")...) {
		for _, p := range wrongPeople() {
			checkJoin(t, list, p, list, false)
		}
	}
}

// Promise 14.
func TestNobodyJoinsWrongRosters(t *testing.T) {
	for _, list := range wrongRosters() {
		for _, p := range append(eachPerson("c"), personOf("p0001x host"), impl.Person{}, personOf("p0001 guest")) {
			checkJoin(t, list, p, nil, false)
		}
		// Whoever is in a valid roster already gets it back, but nobody gets a wrong one.
		for _, p := range list[:min(len(list), 10)] {
			checkJoin(t, list, p, nil, false)
		}
	}
}

// Promise 15.
func TestSomePeopleLeave(t *testing.T) {
	list := peopleOf("ann guest", "bob host", "eve member muted")
	checkLeave(t, list, "ann", peopleOf("bob host", "eve member muted"), true)
	checkLeave(t, list, "eve", peopleOf("ann guest", "bob host"), true)
	// The only host leaves: a member is the next one, even if a guest comes before, and stays muted.
	checkLeave(t, list, "bob", peopleOf("ann guest", "eve host muted"), true)
	// The first one of several members.
	checkLeave(t, peopleOf("a host", "b guest", "c member", "d member", "e guest"), "a", peopleOf("b guest", "c host", "d member", "e guest"), true)
	// There are guests alone.
	checkLeave(t, peopleOf("a guest muted", "b guest", "c host"), "c", peopleOf("a host muted", "b guest"), true)
	checkLeave(t, peopleOf("a host", "b guest", "c guest"), "a", peopleOf("b host", "c guest"), true)
	// Nobody is left.
	checkLeave(t, peopleOf("a host"), "a", nil, true)
	checkLeave(t, peopleOf("a guest muted"), "a", nil, true)
	// One of two hosts leaves, and a guest.
	checkLeave(t, peopleOf("a host", "b member", "c host"), "a", peopleOf("b member", "c host"), true)
	checkLeave(t, peopleOf("a host", "b member", "c host"), "c", peopleOf("a host", "b member"), true)
	checkLeave(t, peopleOf("a host", "b member", "c guest"), "c", peopleOf("a host", "b member"), true)
	// There was no host before, but there is one now.
	checkLeave(t, peopleOf("a guest", "b member", "c guest"), "c", peopleOf("a guest", "b host"), true)
	checkLeave(t, peopleOf("a guest", "b member", "c guest"), "b", peopleOf("a host", "c guest"), true)
}

// Promise 15.
func TestEverybodyLeaves(t *testing.T) {
	for _, list := range append(validRosters(), rostersOver("a", "b", "c", "d")...) {
		for _, p := range list {
			checkLeft(t, list, p.Word)
		}
	}
}

// Promise 15.
func TestEverybodyLeavesInEachOrder(t *testing.T) {
	words := []string{"p0000", "p0001", "p0002", "p0003", "p0004"}
	for role := impl.RoleGuest; role <= impl.RoleHost; role++ {
		for _, order := range orders(words) {
			list := rosterOfCount(len(words), role)
			for _, word := range order {
				checkLeft(t, list, word)
				list, _ = impl.LeaveRoster(list, word)
				checkLeave(t, list, word, list, false)
			}
			if len(list) != len(words)-len(order) {
				t.Errorf("after %q have left, %v are left", order, list)
			}
		}
	}
}

// Promises 14 and 15.
func TestWhoJoinsMayLeave(t *testing.T) {
	for _, list := range validRosters() {
		hosted := slices.ContainsFunc(list, func(p impl.Person) bool { return p.Role == impl.RoleHost })
		for _, p := range append(eachPerson("aaa"), eachPerson("zz")...) {
			joined, ok := impl.JoinRoster(list, p)
			if !ok {
				checkLeave(t, joined, p.Word, joined, false)
			} else if hosted || len(list) == 0 {
				checkLeave(t, joined, p.Word, list, true)
			} else {
				checkLeft(t, joined, p.Word)
			}
		}
	}
}

// otherWords are words and other texts that nobody in a roster has, if it does not have the words themselves.
func otherWords(list []impl.Person) []string {
	words := append(append(validWords(), invalidWords()...), "0", "aaa", "P0000", "p", "p0000 ", "p00000", "p0", "p9999", "ann ", "an", "anna", "host", "*")
	return slices.DeleteFunc(words, func(word string) bool {
		return slices.ContainsFunc(list, func(p impl.Person) bool { return p.Word == word })
	})
}

// Promise 15.
func TestWhoIsNotThereDoesNotLeave(t *testing.T) {
	for _, list := range append(someRosters(), rostersOver("a", "ab")...) {
		for _, word := range otherWords(list) {
			// Without a host it stays without one, too.
			checkLeave(t, list, word, list, false)
		}
	}
	checkLeave(t, nil, "", nil, false)
	checkLeave(t, []impl.Person{}, "ann", nil, false)
	checkLeave(t, peopleOf("ann guest", "bob member"), "tom", peopleOf("ann guest", "bob member"), false)
}

// Promise 15.
func TestNobodyLeavesWrongRosters(t *testing.T) {
	for _, list := range wrongRosters() {
		checkLeave(t, list, "tom", nil, false)
		checkLeave(t, list, "", nil, false)
		// Not even who is wrong there.
		for _, p := range list[:min(len(list), 10)] {
			checkLeave(t, list, p.Word, nil, false)
		}
	}
}

// Promise 76.
func TestValidRosters(t *testing.T) {
	for _, list := range validRosters() {
		checkRoster(t, list, true)
	}
}

// Promise 76.
func TestInvalidRosters(t *testing.T) {
	for _, list := range wrongRosters() {
		checkRoster(t, list, false)
	}
}

// Promise 76.
func TestNobodyIsInARosterTwice(t *testing.T) {
	for _, list := range validRosters() {
		for place, p := range list {
			for _, again := range eachPerson(p.Word) {
				for other := 0; other <= len(list); other++ {
					checkRoster(t, slices.Insert(slices.Clone(list), other, again), false)
				}
			}
			checkRoster(t, slices.Delete(slices.Clone(list), place, place+1), true)
		}
		if len(list) > 0 {
			checkRoster(t, append(list[:1:1], list...), false)
			checkRoster(t, list[1:], true)
			checkRoster(t, list[:len(list)-1], true)
		}
	}
	checkRoster(t, peopleOf("ann host", "ann host"), false)
	checkRoster(t, peopleOf("ann host", "ann guest muted"), false)
	checkRoster(t, peopleOf("ann host", "bob guest", "ann host"), false)
	checkRoster(t, peopleOf("bob guest", "ann host", "bob guest"), false)
}

// Promise 76.
func TestCountsOfPeople(t *testing.T) {
	for count := 0; count <= 300; count++ {
		for role := impl.RoleGuest; role <= impl.RoleHost; role++ {
			checkRoster(t, rosterOfCount(count, role), count <= impl.MaxPeople)
			checkRoster(t, allInRole(rosterOfCount(count, 0), role), count <= impl.MaxPeople)
		}
		checkRoster(t, make([]impl.Person, count), count == 0)
	}
}

// Promise 76.
func TestOrdersOfPeople(t *testing.T) {
	words := []string{"a", "a1", "ab", "b", "ba"}
	for _, order := range orders(words) {
		var list []impl.Person
		for k, word := range order {
			list = append(list, impl.Person{Word: word, Role: k % 3})
		}
		checkRoster(t, list, slices.IsSorted(order))
	}
	for _, first := range words {
		for _, second := range words {
			for _, third := range words {
				list := peopleOf(first+" host", second+" guest", third+" member")
				checkRoster(t, list, first < second && second < third)
			}
		}
	}
}

// Promise 76.
func TestPairsOfWordsOfPeople(t *testing.T) {
	words := append(textsOver("ab1A", 3), append(validWords(), invalidWords()...)...)
	for _, first := range words {
		alone := []impl.Person{{Word: first}}
		checkRoster(t, alone, rosterValidByHand(alone))
		for _, second := range words {
			pair := []impl.Person{{Word: first}, {Word: second, Role: impl.RoleHost}}
			checkRoster(t, pair, rosterValidByHand(pair))
		}
	}
}

// Promise 76.
func TestBytesOfWordsOfPeople(t *testing.T) {
	for b := 0; b < 256; b++ {
		for place := 0; place <= 3; place++ {
			word := insertedAt("mmm", place, oneByte(b))
			for _, list := range [][]impl.Person{{{Word: word}}, {{Word: word}, {Word: "n"}}, {{Word: "l"}, {Word: word}}, {{Word: "l"}, {Word: word}, {Word: "n"}}} {
				checkRoster(t, list, rosterValidByHand(list))
			}
		}
	}
}

// Promise 76.
func TestRolesOfPeople(t *testing.T) {
	for _, list := range someRosters() {
		for place, p := range list {
			altered := slices.Clone(list)
			for role := -300; role <= 300; role++ {
				altered[place] = withRole(p, role)
				checkRoster(t, altered, role >= 0 && role <= 2)
			}
			for _, role := range otherRoles() {
				altered[place] = withRole(p, role)
				checkRoster(t, altered, false)
			}
		}
	}
}

// Promise 77.
func TestPeopleAreFoundByWords(t *testing.T) {
	for _, list := range validRosters() {
		for place, p := range list {
			checkPersonAt(t, list, p.Word, place)
		}
		for _, word := range otherWords(list) {
			checkPersonAt(t, list, word, -1)
		}
	}
}

// Promise 77.
func TestSomePeopleAreFound(t *testing.T) {
	list := peopleOf("ann guest", "bob host", "eve member muted")
	checkPersonAt(t, list, "ann", 0)
	checkPersonAt(t, list, "bob", 1)
	checkPersonAt(t, list, "eve", 2)
	checkPersonAt(t, list, "tom", -1)
	checkPersonAt(t, list, "", -1)
	checkPersonAt(t, list, "Ann", -1)
	checkPersonAt(t, list, "an", -1)
	checkPersonAt(t, list, "anna", -1)
	checkPersonAt(t, nil, "ann", -1)
	checkPersonAt(t, nil, "", -1)
	checkPersonAt(t, []impl.Person{}, "ann", -1)
	checkPersonAt(t, rosterOfCount(impl.MaxPeople, 0), "p0007", 7)
}

// Promise 77.
func TestNobodyIsFoundInWrongRosters(t *testing.T) {
	for _, list := range wrongRosters() {
		for _, p := range list[:min(len(list), 10)] {
			checkPersonAt(t, list, p.Word, -1)
		}
		checkPersonAt(t, list, "", -1)
		checkPersonAt(t, list, "tom", -1)
		if len(list) > 0 {
			checkPersonAt(t, list, list[len(list)-1].Word, -1)
		}
	}
}

// rostersToGuard are rosters of every kind, valid or not, for the tests of memory.
func rostersToGuard() [][]impl.Person {
	lists := append(someRosters(), rostersOver("a", "ab")...)
	return append(lists, peopleOf("bob host", "ann guest"), peopleOf("ann host", "ann host"), peopleOf("bob guest", "ann host", "bob member"), []impl.Person{{}}, []impl.Person{{Word: "ann", Role: 3}}, rosterOfCount(impl.MaxPeople+1, 0))
}

// Promises 76 and 77, and the general rules.
func TestRostersAreNotWrittenTo(t *testing.T) {
	for _, list := range rostersToGuard() {
		argument := roomy(list, markedPerson)
		impl.RosterValid(argument)
		for _, word := range []string{"", "a", "ab", "ann", "p0000", "p0007", "MARKED"} {
			impl.PersonAt(argument, word)
		}
		checkUnwritten(t, argument, list, markedPerson)
	}
}

// Promise 14, and the general rules.
func TestRostersThatAreJoinedShareNoMemory(t *testing.T) {
	for _, list := range rostersToGuard() {
		for _, p := range append(eachPerson("aa"), personOf("a host"), personOf("ab guest"), personOf("p0003x host"), personOf("zzzzzzzzzz guest"), impl.Person{}, impl.Person{Word: "c", Role: -1}) {
			checkApart(t, list, markedPerson, impl.Person{}, func(argument []impl.Person) []impl.Person {
				joined, _ := impl.JoinRoster(argument, p)
				return joined
			})
		}
	}
}

// Promise 15, and the general rules.
func TestRostersThatAreLeftShareNoMemory(t *testing.T) {
	for _, list := range rostersToGuard() {
		for _, word := range []string{"", "a", "ab", "ann", "bob", "eve", "tom", "p0000", "p0001", "p0003", "p0007", "zzzzzzzzzz"} {
			checkApart(t, list, markedPerson, impl.Person{}, func(argument []impl.Person) []impl.Person {
				left, _ := impl.LeaveRoster(argument, word)
				return left
			})
		}
	}
}
