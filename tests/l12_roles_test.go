package tests

import (
	"fmt"
	"math"
	"slices"
	"strings"
	"testing"

	"loop.example/conferencehall/impl"
)

var namesOfDeeds = []string{"speak", "mute", "put", "raise"}

// doneToItself tells what people may do to themselves, as peopleOf writes them.
var doneToItself = map[string]string{
	"guest":        "speak mute",
	"guest muted":  "mute",
	"member":       "speak mute",
	"member muted": "mute",
	"host":         "speak mute put raise",
	"host muted":   "mute put raise",
}

// doneToOthers tells what people in one role may do to those in another one.
var doneToOthers = map[string]string{
	"host guest":  "mute put raise",
	"host member": "mute put raise",
	"host host":   "mute raise",
}

// mayByHand looks into the lists of what is done; whoever is not there once and only once may do nothing.
func mayByHand(list []impl.Person, who string, does int, whom string) bool {
	if !rosterValidByHand(list) || does < 0 || does > 3 {
		return false
	}
	var allowed string
	for _, p := range list {
		for _, other := range list {
			if p.Word == who && other.Word == whom {
				allowed = doneByHand(p, other)
			}
		}
	}
	return slices.Contains(strings.Fields(allowed), namesOfDeeds[does])
}

// doneByHand tells all that a valid person may do to another one, or to itself.
func doneByHand(p impl.Person, other impl.Person) string {
	if p.Word != other.Word {
		return doneToOthers[namesOfRoles[p.Role]+" "+namesOfRoles[other.Role]]
	}
	if p.Muted {
		return doneToItself[namesOfRoles[p.Role]+" muted"]
	}
	return doneToItself[namesOfRoles[p.Role]]
}

// withPerson returns the same people, with somebody in the place of the one who has its word.
func withPerson(list []impl.Person, p impl.Person) []impl.Person {
	other := slices.Clone(list)
	for k := range other {
		if other[k].Word == p.Word {
			other[k] = p
		}
	}
	return other
}

// personWith returns who has a word in a roster, and else the zero value.
func personWith(list []impl.Person, word string) impl.Person {
	for _, p := range list {
		if p.Word == word {
			return p
		}
	}
	return impl.Person{}
}

func withMuted(p impl.Person, muted bool) impl.Person {
	p.Muted = muted
	return p
}

func muteByHand(list []impl.Person, who string, whom string, muted bool) ([]impl.Person, bool) {
	if !rosterValidByHand(list) {
		return nil, false
	}
	if mayByHand(list, who, 1, whom) && (muted || who == whom) {
		return withPerson(list, withMuted(personWith(list, whom), muted)), true
	}
	return list, false
}

// raiseByHand counts the hosts before somebody is raised, and alters the roster only if one of them stays, or a new one comes.
func raiseByHand(list []impl.Person, who string, whom string, role int) ([]impl.Person, bool) {
	if !rosterValidByHand(list) {
		return nil, false
	}
	hosts := 0
	for _, p := range list {
		if p.Role == 2 && p.Word != whom {
			hosts++
		}
	}
	if mayByHand(list, who, 3, whom) && (role == 2 || hosts > 0 && (role == 0 || role == 1)) {
		return withPerson(list, withRole(personWith(list, whom), role)), true
	}
	return list, false
}

// otherDeeds are numbers of nothing that may be done.
func otherDeeds() []int {
	return []int{-1, -2, -3, -4, 4, 5, 6, 7, 8, 255, 256, 257, 258, 259, 1 << 32, 1<<32 + 1, math.MaxInt32, math.MinInt32, math.MaxInt, math.MinInt}
}

// wordsFor are the words of all who are in a roster, and some that nobody there has.
func wordsFor(list []impl.Person) []string {
	words := []string{"", "tom", "A", "a ", "host", "0", "abcdefghijk"}
	for _, p := range list[:min(len(list), impl.MaxPeople)] {
		words = append(words, p.Word)
	}
	return words
}

func checkMay(t *testing.T, list []impl.Person, who string, does int, whom string, want bool) {
	t.Helper()
	if impl.MayAct(list, who, does, whom) != want {
		t.Errorf("MayAct(%.200q, %.40q, %d, %.40q) is not %v", fmt.Sprint(list), who, does, whom, want)
	}
}

func checkMute(t *testing.T, list []impl.Person, who string, whom string, muted bool, want []impl.Person, wantOK bool) {
	t.Helper()
	if got, ok := impl.MutePerson(list, who, whom, muted); !slices.Equal(got, want) || ok != wantOK {
		t.Errorf("MutePerson(%.200q, %.40q, %.40q, %v) is %.200q and %v, not %.200q and %v", fmt.Sprint(list), who, whom, muted, fmt.Sprint(got), ok, fmt.Sprint(want), wantOK)
	}
}

func checkRaise(t *testing.T, list []impl.Person, who string, whom string, role int, want []impl.Person, wantOK bool) {
	t.Helper()
	if got, ok := impl.RaisePerson(list, who, whom, role); !slices.Equal(got, want) || ok != wantOK {
		t.Errorf("RaisePerson(%.200q, %.40q, %.40q, %d) is %.200q and %v, not %.200q and %v", fmt.Sprint(list), who, whom, role, fmt.Sprint(got), ok, fmt.Sprint(want), wantOK)
	}
}

// checkOthers checks that all people but one are in a valid roster as they were before.
func checkOthers(t *testing.T, list []impl.Person, got []impl.Person, whom string) {
	t.Helper()
	checkRoster(t, got, true)
	if !slices.Equal(withPerson(got, personWith(list, whom)), list) {
		t.Errorf("%.200q became %.200q: not only %q has changed", fmt.Sprint(list), fmt.Sprint(got), whom)
	}
}

// checkMuted checks what promise 16 says about somebody who mutes somebody in a roster, or makes it speak again.
func checkMuted(t *testing.T, list []impl.Person, who string, whom string, muted bool) {
	t.Helper()
	want, wantOK := muteByHand(list, who, whom, muted)
	checkMute(t, list, who, whom, muted, want, wantOK)
	if !wantOK {
		return
	}
	got, _ := impl.MutePerson(list, who, whom, muted)
	checkOthers(t, list, got, whom)
	checkMay(t, got, whom, impl.DoSpeak, whom, !muted)
	if personWith(got, whom).Role != personWith(list, whom).Role {
		t.Errorf("MutePerson(%.200q, %q, %q, %v) has changed a role: %.200q", fmt.Sprint(list), who, whom, muted, fmt.Sprint(got))
	}
	for k, p := range got {
		if list[k].Muted && !p.Muted && p.Word != who {
			t.Errorf("MutePerson(%.200q, %q, %q, %v) lets %q speak again", fmt.Sprint(list), who, whom, muted, p.Word)
		}
	}
}

// checkRaised checks what promise 17 says about somebody who gives a role to somebody in a roster.
func checkRaised(t *testing.T, list []impl.Person, who string, whom string, role int) {
	t.Helper()
	want, wantOK := raiseByHand(list, who, whom, role)
	checkRaise(t, list, who, whom, role, want, wantOK)
	if !wantOK {
		return
	}
	got, _ := impl.RaisePerson(list, who, whom, role)
	checkOthers(t, list, got, whom)
	raised := personWith(got, whom)
	if raised.Role != role || raised.Muted != personWith(list, whom).Muted || !hasHost(got) {
		t.Errorf("RaisePerson(%.200q, %q, %q, %d) is %.200q", fmt.Sprint(list), who, whom, role, fmt.Sprint(got))
	}
}

func hasHost(list []impl.Person) bool {
	return slices.ContainsFunc(list, func(p impl.Person) bool { return p.Role == impl.RoleHost })
}

func TestNumbersOfDeeds(t *testing.T) {
	if impl.DoSpeak != 0 || impl.DoMute != 1 || impl.DoPut != 2 || impl.DoRaise != 3 {
		t.Fatal("the numbers are not those of the document")
	}
}

// Promise 78.
func TestWhatIsDoneToOneself(t *testing.T) {
	for _, text := range []string{"guest", "guest muted", "member", "member muted", "host", "host muted"} {
		for _, list := range [][]impl.Person{peopleOf("b " + text), peopleOf("a host", "b "+text), peopleOf("a guest muted", "b "+text, "c member")} {
			for does, name := range namesOfDeeds {
				checkMay(t, list, "b", does, "b", strings.Contains(doneToItself[text], name))
			}
			for _, does := range otherDeeds() {
				checkMay(t, list, "b", does, "b", false)
			}
		}
	}
}

// Promise 78.
func TestWhatIsDoneToOthers(t *testing.T) {
	for _, p := range eachPerson("ann") {
		for _, other := range eachPerson("bob") {
			list := []impl.Person{p, other}
			host, over := p.Role == impl.RoleHost, other.Role != impl.RoleHost
			checkMay(t, list, "ann", impl.DoSpeak, "bob", false)
			checkMay(t, list, "ann", impl.DoMute, "bob", host)
			checkMay(t, list, "ann", impl.DoPut, "bob", host && over)
			checkMay(t, list, "ann", impl.DoRaise, "bob", host)
			// The other way round the roles are the others' ones.
			checkMay(t, list, "bob", impl.DoSpeak, "ann", false)
			checkMay(t, list, "bob", impl.DoMute, "ann", !over)
			checkMay(t, list, "bob", impl.DoPut, "ann", !over && !host)
			checkMay(t, list, "bob", impl.DoRaise, "ann", !over)
			for _, does := range otherDeeds() {
				checkMay(t, list, "ann", does, "bob", false)
			}
		}
	}
}

// Promise 78.
func TestWhatEverybodyMayDo(t *testing.T) {
	for _, list := range validRosters() {
		for _, who := range wordsFor(list) {
			for _, whom := range wordsFor(list) {
				for does := -6; does <= 10; does++ {
					checkMay(t, list, who, does, whom, mayByHand(list, who, does, whom))
				}
			}
		}
	}
}

// Promise 78.
func TestHostsMayDoWhatOthersMay(t *testing.T) {
	for _, list := range validRosters() {
		for _, p := range list {
			hosted := withPerson(list, withRole(p, impl.RoleHost))
			for _, other := range list {
				for does := impl.DoSpeak; does <= impl.DoRaise; does++ {
					if impl.MayAct(list, p.Word, does, other.Word) {
						checkMay(t, hosted, p.Word, does, other.Word, true)
					}
				}
				if other != p {
					checkMay(t, list, p.Word, impl.DoSpeak, other.Word, false)
					checkMay(t, hosted, p.Word, impl.DoSpeak, other.Word, false)
				}
			}
		}
	}
}

// Promise 78.
func TestOtherDeedsAreNotAllowed(t *testing.T) {
	for _, list := range someRosters() {
		for _, who := range wordsFor(list) {
			for _, whom := range wordsFor(list) {
				for _, does := range otherDeeds() {
					checkMay(t, list, who, does, whom, false)
				}
			}
		}
	}
	for does := 4; does <= 1000; does++ {
		checkMay(t, peopleOf("ann host"), "ann", does, "ann", false)
		checkMay(t, peopleOf("ann host", "bob guest"), "ann", does, "bob", false)
		checkMay(t, peopleOf("ann host"), "ann", 3-does, "ann", false)
		checkMay(t, peopleOf("ann host", "bob guest"), "ann", 3-does, "bob", false)
	}
}

// Promises 16, 17 and 78.
func TestWhoIsNotThereMayDoNothing(t *testing.T) {
	for _, list := range append(someRosters(), rostersOver("a", "ab")...) {
		for _, word := range otherWords(list) {
			checkNothingDone(t, list, word, word)
			for _, p := range list {
				checkNothingDone(t, list, word, p.Word)
				checkNothingDone(t, list, p.Word, word)
			}
		}
	}
	checkNothingDone(t, nil, "", "")
	checkNothingDone(t, nil, "ann", "ann")
	checkNothingDone(t, []impl.Person{}, "ann", "bob")
	checkNothingDone(t, peopleOf("ann host"), "bob", "tom")
}

// checkNothingDone checks that somebody may do nothing to another one in a valid roster.
func checkNothingDone(t *testing.T, list []impl.Person, who string, whom string) {
	t.Helper()
	for does := impl.DoSpeak; does <= impl.DoRaise; does++ {
		checkMay(t, list, who, does, whom, false)
	}
	checkMute(t, list, who, whom, true, list, false)
	checkMute(t, list, who, whom, false, list, false)
	for role := impl.RoleGuest - 1; role <= impl.RoleHost+1; role++ {
		checkRaise(t, list, who, whom, role, list, false)
	}
}

// Promises 16, 17 and 78.
func TestNobodyActsInWrongRosters(t *testing.T) {
	for _, list := range wrongRosters() {
		words := []string{"", "tom"}
		for _, p := range list[:min(len(list), 4)] {
			words = append(words, p.Word)
		}
		for _, who := range words {
			for _, whom := range words {
				for does := impl.DoSpeak - 1; does <= impl.DoRaise+1; does++ {
					checkMay(t, list, who, does, whom, false)
				}
				checkMute(t, list, who, whom, true, nil, false)
				checkMute(t, list, who, whom, false, nil, false)
				for role := impl.RoleGuest - 1; role <= impl.RoleHost+1; role++ {
					checkRaise(t, list, who, whom, role, nil, false)
				}
			}
		}
	}
	checkMute(t, peopleOf("ann host", "ann host"), "ann", "ann", true, nil, false)
	checkRaise(t, peopleOf("bob host", "ann host"), "ann", "ann", impl.RoleGuest, nil, false)
}

// Promise 16.
func TestSomePeopleAreMuted(t *testing.T) {
	list := peopleOf("ann host", "bob guest", "eve host muted", "tom member muted")
	// A host mutes everybody, other hosts too, and changes nothing for who is muted already.
	checkMute(t, list, "ann", "bob", true, peopleOf("ann host", "bob guest muted", "eve host muted", "tom member muted"), true)
	checkMute(t, list, "ann", "tom", true, list, true)
	checkMute(t, list, "ann", "eve", true, list, true)
	checkMute(t, list, "eve", "ann", true, peopleOf("ann host muted", "bob guest", "eve host muted", "tom member muted"), true)
	// But it makes nobody speak again, not even who speaks already.
	checkMute(t, list, "ann", "tom", false, list, false)
	checkMute(t, list, "ann", "eve", false, list, false)
	checkMute(t, list, "ann", "bob", false, list, false)
	// Everybody mutes itself, and speaks again.
	checkMute(t, list, "bob", "bob", true, peopleOf("ann host", "bob guest muted", "eve host muted", "tom member muted"), true)
	checkMute(t, list, "bob", "bob", false, list, true)
	checkMute(t, list, "ann", "ann", true, peopleOf("ann host muted", "bob guest", "eve host muted", "tom member muted"), true)
	checkMute(t, list, "tom", "tom", true, list, true)
	checkMute(t, list, "tom", "tom", false, peopleOf("ann host", "bob guest", "eve host muted", "tom member"), true)
	checkMute(t, list, "eve", "eve", false, peopleOf("ann host", "bob guest", "eve host", "tom member muted"), true)
	// Guests and members mute nobody else.
	checkMute(t, list, "bob", "ann", true, list, false)
	checkMute(t, list, "bob", "tom", true, list, false)
	checkMute(t, list, "tom", "bob", true, list, false)
	checkMute(t, list, "tom", "ann", false, list, false)
	checkMute(t, list, "bob", "tom", false, list, false)
}

// Promise 16.
func TestEverybodyMutesEverybody(t *testing.T) {
	for _, list := range validRosters() {
		for _, who := range wordsFor(list) {
			for _, whom := range wordsFor(list) {
				checkMuted(t, list, who, whom, true)
				checkMuted(t, list, who, whom, false)
			}
		}
	}
}

// Promise 16.
func TestTheMutedAreSilentTillTheySpeakAgain(t *testing.T) {
	for _, list := range someRosters() {
		for _, p := range list {
			silenced := list
			for _, other := range list {
				silenced, _ = impl.MutePerson(silenced, other.Word, p.Word, true)
			}
			checkMay(t, silenced, p.Word, impl.DoSpeak, p.Word, false)
			for _, other := range list {
				if other != p {
					checkMute(t, silenced, other.Word, p.Word, false, silenced, false)
				}
			}
			heard, ok := impl.MutePerson(silenced, p.Word, p.Word, false)
			checkMay(t, heard, p.Word, impl.DoSpeak, p.Word, true)
			if want := withPerson(list, withMuted(p, false)); !ok || !slices.Equal(heard, want) {
				t.Errorf("in %v %q speaks again: %v and %v, not %v and true", silenced, p.Word, heard, ok, want)
			}
		}
	}
}

// Promise 16.
func TestRolesDoNotLetPeopleSpeak(t *testing.T) {
	for _, list := range validRosters() {
		for _, p := range list {
			for role := impl.RoleGuest; role <= impl.RoleHost; role++ {
				checkMay(t, withPerson(list, withRole(p, role)), p.Word, impl.DoSpeak, p.Word, !p.Muted)
				for _, other := range list {
					raised, _ := impl.RaisePerson(list, other.Word, p.Word, role)
					checkMay(t, raised, p.Word, impl.DoSpeak, p.Word, !p.Muted)
				}
			}
		}
	}
}

// Promise 17.
func TestSomePeopleAreRaised(t *testing.T) {
	list := peopleOf("ann host", "bob guest muted", "eve host", "tom member")
	// Hosts raise and lower everybody, other hosts and themselves too.
	checkRaise(t, list, "ann", "bob", impl.RoleHost, peopleOf("ann host", "bob host muted", "eve host", "tom member"), true)
	checkRaise(t, list, "ann", "bob", impl.RoleMember, peopleOf("ann host", "bob member muted", "eve host", "tom member"), true)
	checkRaise(t, list, "eve", "tom", impl.RoleGuest, peopleOf("ann host", "bob guest muted", "eve host", "tom guest"), true)
	checkRaise(t, list, "ann", "eve", impl.RoleGuest, peopleOf("ann host", "bob guest muted", "eve guest", "tom member"), true)
	checkRaise(t, list, "eve", "eve", impl.RoleMember, peopleOf("ann host", "bob guest muted", "eve member", "tom member"), true)
	// The role that somebody has already changes nothing.
	checkRaise(t, list, "ann", "bob", impl.RoleGuest, list, true)
	checkRaise(t, list, "ann", "tom", impl.RoleMember, list, true)
	checkRaise(t, list, "ann", "eve", impl.RoleHost, list, true)
	checkRaise(t, list, "ann", "ann", impl.RoleHost, list, true)
	// Guests and members raise nobody, not even to the role that it has already.
	checkRaise(t, list, "bob", "bob", impl.RoleHost, list, false)
	checkRaise(t, list, "tom", "tom", impl.RoleGuest, list, false)
	checkRaise(t, list, "tom", "tom", impl.RoleMember, list, false)
	checkRaise(t, list, "tom", "bob", impl.RoleMember, list, false)
	checkRaise(t, list, "bob", "ann", impl.RoleHost, list, false)
	// There are no other roles.
	checkRaise(t, list, "ann", "bob", impl.RoleGuest-1, list, false)
	checkRaise(t, list, "ann", "bob", impl.RoleHost+1, list, false)
	checkRaise(t, list, "ann", "ann", impl.RoleHost+1, list, false)
}

// Promise 17.
func TestTheOnlyHostStaysOne(t *testing.T) {
	for _, list := range [][]impl.Person{peopleOf("ann host"), peopleOf("ann host muted", "bob member"), peopleOf("a guest", "ann host", "bob member", "eve guest muted")} {
		checkRaise(t, list, "ann", "ann", impl.RoleGuest, list, false)
		checkRaise(t, list, "ann", "ann", impl.RoleMember, list, false)
		checkRaise(t, list, "ann", "ann", impl.RoleHost, list, true)
	}
	// One of two hosts may go, but the other one has to stay then.
	two := peopleOf("ann host", "bob member", "eve host")
	one := peopleOf("ann guest", "bob member", "eve host")
	checkRaise(t, two, "ann", "ann", impl.RoleGuest, one, true)
	checkRaise(t, two, "eve", "ann", impl.RoleGuest, one, true)
	checkRaise(t, one, "eve", "eve", impl.RoleMember, one, false)
	// It may go after another one has become a host.
	again, ok := impl.RaisePerson(one, "eve", "bob", impl.RoleHost)
	if !ok {
		t.Fatal("eve may not raise bob")
	}
	checkRaise(t, again, "eve", "eve", impl.RoleMember, peopleOf("ann guest", "bob host", "eve member"), true)
	// Nobody is raised where nobody is a host.
	none := peopleOf("ann guest", "bob member")
	checkRaise(t, none, "bob", "bob", impl.RoleHost, none, false)
	checkRaise(t, none, "bob", "ann", impl.RoleHost, none, false)
	checkRaise(t, none, "ann", "ann", impl.RoleGuest, none, false)
}

// Promise 17.
func TestEverybodyRaisesEverybody(t *testing.T) {
	for _, list := range validRosters() {
		for _, who := range wordsFor(list) {
			for _, whom := range wordsFor(list) {
				for role := impl.RoleGuest - 2; role <= impl.RoleHost+2; role++ {
					checkRaised(t, list, who, whom, role)
				}
			}
		}
	}
}

// Promise 17.
func TestNobodyIsRaisedToOtherRoles(t *testing.T) {
	for _, list := range someRosters() {
		for _, who := range wordsFor(list) {
			for _, whom := range wordsFor(list) {
				for _, role := range otherRoles() {
					checkRaise(t, list, who, whom, role, list, false)
				}
			}
		}
	}
}

// Promise 17.
func TestSomebodyStaysTheHost(t *testing.T) {
	for _, words := range orders([]string{"p0000", "p0001", "p0002", "p0003", "p0004"}) {
		list := allInRole(rosterOfCount(5, 0), impl.RoleHost)
		for k, word := range words {
			// The last host is not lowered, whoever it is.
			checkRaised(t, list, word, word, impl.RoleGuest)
			list, _ = impl.RaisePerson(list, word, word, impl.RoleGuest)
			hosts := slices.DeleteFunc(slices.Clone(list), func(p impl.Person) bool { return p.Role != impl.RoleHost })
			if len(hosts) != max(5-k-1, 1) {
				t.Errorf("after %q have given up being hosts, %v are hosts", words[:k+1], hosts)
			}
		}
	}
}

// Promise 78, and the general rules.
func TestRostersAreReadAlone(t *testing.T) {
	for _, list := range rostersToGuard() {
		argument := roomy(list, markedPerson)
		for _, who := range wordsFor(list) {
			for _, whom := range wordsFor(list) {
				for does := impl.DoSpeak - 1; does <= impl.DoRaise+1; does++ {
					impl.MayAct(argument, who, does, whom)
				}
			}
		}
		checkUnwritten(t, argument, list, markedPerson)
	}
}

// Promise 16, and the general rules.
func TestRostersThatAreMutedShareNoMemory(t *testing.T) {
	for _, list := range rostersToGuard() {
		for _, who := range wordsFor(list) {
			for _, whom := range wordsFor(list) {
				for _, muted := range []bool{true, false} {
					checkApart(t, list, markedPerson, impl.Person{}, func(argument []impl.Person) []impl.Person {
						changed, _ := impl.MutePerson(argument, who, whom, muted)
						return changed
					})
				}
			}
		}
	}
}

// Promise 17, and the general rules.
func TestRostersThatAreRaisedShareNoMemory(t *testing.T) {
	for _, list := range rostersToGuard() {
		for _, who := range wordsFor(list) {
			for _, whom := range wordsFor(list) {
				for role := impl.RoleGuest - 1; role <= impl.RoleHost+1; role++ {
					checkApart(t, list, markedPerson, impl.Person{}, func(argument []impl.Person) []impl.Person {
						raised, _ := impl.RaisePerson(argument, who, whom, role)
						return raised
					})
				}
			}
		}
	}
}
