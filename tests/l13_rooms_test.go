package tests

import (
	"fmt"
	"math"
	"slices"
	"strings"
	"testing"

	"loop.example/conferencehall/impl"
)

// redRoom returns a locked room for 2 people with a secret, in which some wait.
func redRoom(lobby ...string) impl.Room {
	return impl.Room{Word: "red", Secret: 42, Most: 2, Locked: true, Lobby: lobby}
}

func withLobby(r impl.Room, lobby ...string) impl.Room {
	r.Lobby = lobby
	return r
}

func withSecret(r impl.Room, secret int) impl.Room {
	r.Secret = secret
	return r
}

func withMost(r impl.Room, most int) impl.Room {
	r.Most = most
	return r
}

func withLocked(r impl.Room, locked bool) impl.Room {
	r.Locked = locked
	return r
}

func withRoomWord(r impl.Room, word string) impl.Room {
	r.Word = word
	return r
}

// backwards returns the same words, the last one first.
func backwards(words []string) []string {
	turned := slices.Clone(words)
	slices.Reverse(turned)
	return turned
}

// someLobbies are valid lobbies of every count, in ascending order and in other ones; some have the words of rooms.
func someLobbies() [][]string {
	lobbies := [][]string{nil, {}, {"ann"}, {"red"}, {"abcdefghij"}, {"ann", "bob"}, {"bob", "ann"}, {"tom", "ann", "eve"}, {"a", "ab", "abc", "a1"}, {"zzzzzzzzzz", "zzzzzzzzzy", "zzzzzzzzz", "z", "red"}}
	for count := 2; count <= impl.MaxPeople; count++ {
		lobbies = append(lobbies, differentCodes(count), backwards(differentCodes(count)))
	}
	return append(lobbies, []string{"h", "b", "g", "a", "f", "c", "e", "d"}, []string{"ann", "c1", "bob", "c2", "eve", "c3", "tom"})
}

func validSecrets() []int {
	return []int{0, 1, 2, 9, 42, 255, 256, 65535, 65536, impl.Great - 1, impl.Great}
}

// invalidSecrets are numbers that no room asks for; where arithmetic wraps some of them are small numbers.
func invalidSecrets() []int {
	return []int{-1, -2, -42, -impl.Great, impl.Great + 1, impl.Great + 2, 2 * impl.Great, math.MaxInt32, math.MinInt32, 1 << 32, 1<<32 + 42, math.MaxInt, math.MinInt}
}

func invalidMosts() []int {
	return []int{0, -1, -2, -impl.MaxPeople, impl.MaxPeople + 1, impl.MaxPeople + 2, 2 * impl.MaxPeople, 256, 257, 264, impl.Great, math.MaxInt32, math.MinInt32, 1<<32 + 1, math.MaxInt, math.MinInt}
}

// validRooms are rooms with and without a secret, for few people and for many, locked and open, with all some lobbies.
func validRooms() []impl.Room {
	var rooms []impl.Room
	for _, lobby := range someLobbies() {
		for _, secret := range []int{0, 1, 42, impl.Great} {
			for _, most := range []int{1, 2, 7, impl.MaxPeople} {
				for _, locked := range []bool{true, false} {
					rooms = append(rooms, impl.Room{Word: "red", Secret: secret, Most: most, Locked: locked, Lobby: lobby})
				}
			}
		}
	}
	for _, word := range validWords() {
		rooms = append(rooms, withRoomWord(redRoom(), word), withRoomWord(redRoom("ann", "bob"), word))
	}
	return rooms
}

// fewRooms are rooms of the same kinds as validRooms, but only those for 2 people.
func fewRooms() []impl.Room {
	return slices.DeleteFunc(validRooms(), func(r impl.Room) bool { return r.Most != 2 })
}

// wrongLobbies are too long, have a word twice, or one that is none, in each place.
func wrongLobbies() [][]string {
	lobbies := [][]string{{"ann", "ann"}, {"ann", "bob", "ann"}, {"ann", "bob", "bob"}, {"a", "a", "b", "b"}}
	for _, lobby := range someLobbies() {
		lobbies = append(lobbies, lobbiesThatRepeat(lobby)...)
		for place := range lobby {
			for _, none := range []string{"", "0", "P0", lobby[place] + "-", lobby[place] + " ", " " + lobby[place]} {
				lobbies = append(lobbies, replacedWord(lobby, place, none))
			}
		}
	}
	for _, none := range invalidWords() {
		lobbies = append(lobbies, []string{none}, []string{none, "ann"}, []string{"ann", none}, []string{"ann", none, "bob"})
	}
	for _, count := range []int{impl.MaxPeople + 1, impl.MaxPeople + 2, 2 * impl.MaxPeople, 256, 257, 264, 1000} {
		lobbies = append(lobbies, differentCodes(count), backwards(differentCodes(count)), slices.Repeat([]string{"ann"}, count), make([]string, count))
	}
	return lobbies
}

// lobbiesThatRepeat returns a lobby with one of its words in place of another one, for every two of them, and with one more of each of them in every place.
func lobbiesThatRepeat(lobby []string) [][]string {
	var lobbies [][]string
	for place, word := range lobby {
		for other := range lobby {
			if other != place {
				lobbies = append(lobbies, replacedWord(lobby, other, word))
			}
		}
		for other := 0; other <= len(lobby); other++ {
			lobbies = append(lobbies, slices.Insert(slices.Clone(lobby), other, word))
		}
	}
	return lobbies
}

func replacedWord(list []string, place int, word string) []string {
	replaced := slices.Clone(list)
	replaced[place] = word
	return replaced
}

// wrongRooms are rooms of which exactly one part is not valid, open and locked, and some with nothing valid.
func wrongRooms() []impl.Room {
	rooms := []impl.Room{{}, {Word: "red"}, {Most: 1}, {Word: "red", Secret: 42}, {Word: "red", Locked: true, Lobby: []string{"ann"}}, {Word: "A", Secret: -1, Most: 0, Locked: true, Lobby: []string{""}}}
	for _, locked := range []bool{true, false} {
		for _, secret := range []int{0, 42} {
			for _, r := range []impl.Room{withSecret(withLocked(redRoom(), locked), secret), withSecret(withLocked(redRoom("ann", "bob"), locked), secret)} {
				rooms = append(rooms, alteredRooms(r)...)
			}
		}
		for _, lobby := range wrongLobbies() {
			rooms = append(rooms, withLocked(redRoom(lobby...), locked))
		}
	}
	return rooms
}

// alteredRooms returns a valid room with each wrong word, secret and greatest number of people.
func alteredRooms(r impl.Room) []impl.Room {
	var rooms []impl.Room
	for _, none := range invalidWords() {
		rooms = append(rooms, withRoomWord(r, none))
	}
	for _, secret := range invalidSecrets() {
		rooms = append(rooms, withSecret(r, secret))
	}
	for _, most := range invalidMosts() {
		rooms = append(rooms, withMost(r, most))
	}
	return rooms
}

// roomValidByHand tells valid rooms by a regular expression, and sorts the lobby.
func roomValidByHand(r impl.Room) bool {
	isWord := func(s string) bool { return wordsOfPeople.MatchString(s) }
	isNone := func(s string) bool { return !isWord(s) }
	lobby := len(r.Lobby) <= 8 && !hasWordTwice(r.Lobby) && !slices.ContainsFunc(r.Lobby, isNone)
	return lobby && isWord(r.Word) && max(r.Secret, 0) == min(r.Secret, 1000000) && slices.Contains([]int{1, 2, 3, 4, 5, 6, 7, 8}, r.Most)
}

// enterByHand begins with the answer that is told if nothing else is to be told, and goes back to those that come before all others.
func enterByHand(r impl.Room, word string, number int, people int) (impl.Room, int) {
	after := withLobby(r, append(slices.Clone(r.Lobby), word)...)
	if slices.Contains(r.Lobby, word) {
		after = r
	}
	code := 200
	if r.Locked {
		code = 480
	}
	if r.Locked && len(after.Lobby) <= 8 {
		code = 182
	}
	if people-r.Most >= 0 {
		code = 486
	}
	if !slices.Contains([]int{0, number}, r.Secret) {
		code = 403
	}
	if code == 182 {
		return after, code
	}
	return r, code
}

func sameRoom(a impl.Room, b impl.Room) bool {
	return a.Word == b.Word && a.Secret == b.Secret && a.Most == b.Most && a.Locked == b.Locked && slices.Equal(a.Lobby, b.Lobby)
}

// shownRoom returns the text of a room for reports, with its texts quoted and cut.
func shownRoom(r impl.Room) string {
	return fmt.Sprintf("{%.20q %d %d %v %d: %.100q}", r.Word, r.Secret, r.Most, r.Locked, len(r.Lobby), r.Lobby[:min(len(r.Lobby), 10)])
}

func checkRoom(t *testing.T, r impl.Room, want bool) {
	t.Helper()
	if impl.RoomValid(r) != want {
		t.Errorf("RoomValid of %s is not %v", shownRoom(r), want)
	}
}

func checkEnter(t *testing.T, r impl.Room, word string, number int, people int, want impl.Room, wantCode int) {
	t.Helper()
	if got, code := impl.EnterRoom(r, word, number, people); !sameRoom(got, want) || code != wantCode {
		t.Errorf("EnterRoom(%s, %.40q, %d, %d) is %s and %d, not %s and %d", shownRoom(r), word, number, people, shownRoom(got), code, shownRoom(want), wantCode)
	}
}

func checkNoEnter(t *testing.T, r impl.Room, word string, number int, people int) {
	t.Helper()
	checkEnter(t, r, word, number, people, impl.Room{}, 0)
}

func checkAdmit(t *testing.T, r impl.Room, want impl.Room, wantWord string) {
	t.Helper()
	if got, word := impl.AdmitNext(r); !sameRoom(got, want) || word != wantWord {
		t.Errorf("AdmitNext(%s) is %s and %.40q, not %s and %.40q", shownRoom(r), shownRoom(got), word, shownRoom(want), wantWord)
	}
}

func checkLock(t *testing.T, r impl.Room, locked bool, want impl.Room, wantWords ...string) {
	t.Helper()
	if got, words := impl.LockRoom(r, locked); !sameRoom(got, want) || !slices.Equal(words, wantWords) {
		t.Errorf("LockRoom(%s, %v) is %s and %.100q, not %s and %.100q", shownRoom(r), locked, shownRoom(got), words, shownRoom(want), wantWords)
	}
}

// checkEntered checks what promise 18 says about somebody who wants to come into a valid room.
func checkEntered(t *testing.T, r impl.Room, word string, number int, people int) {
	t.Helper()
	want, wantCode := enterByHand(r, word, number, people)
	checkEnter(t, r, word, number, people, want, wantCode)
	got, code := impl.EnterRoom(r, word, number, people)
	checkRoom(t, got, true)
	switch code {
	case 200:
		if r.Locked || people >= r.Most || r.Secret != 0 && r.Secret != number || !sameRoom(got, r) {
			t.Errorf("EnterRoom(%s, %q, %d, %d) is %s and 200", shownRoom(r), word, number, people, shownRoom(got))
		}
	case 182:
		checkWaits(t, r, got, word)
	case 403, 480, 486:
		if !sameRoom(got, r) {
			t.Errorf("EnterRoom(%s, %q, %d, %d) is %s and %d: the room has changed", shownRoom(r), word, number, people, shownRoom(got), code)
		}
	default:
		t.Errorf("EnterRoom(%s, %q, %d, %d) has the code %d", shownRoom(r), word, number, people, code)
	}
}

// checkWaits checks that somebody waits in a room, behind all who waited before, or where it waited already.
func checkWaits(t *testing.T, r impl.Room, got impl.Room, word string) {
	t.Helper()
	place := slices.Index(got.Lobby, word)
	kept := place >= 0 && place < len(r.Lobby) && slices.Equal(got.Lobby, r.Lobby)
	added := place >= 0 && place == len(r.Lobby) && slices.Equal(got.Lobby[:place], r.Lobby)
	if !r.Locked || !kept && !added || !sameRoom(withLobby(got), withLobby(r)) {
		t.Errorf("%q waits in %s, which became %s", word, shownRoom(r), shownRoom(got))
	}
}

// visitors are words of some who wait in a lobby, and of some who do not.
func visitors(lobby []string) []string {
	words := []string{"a", "new", "red", "zzzzzzzzz0"}
	if len(lobby) == 0 {
		return words
	}
	return append(words, lobby[0], lobby[len(lobby)/2], lobby[len(lobby)-1])
}

// numbersFor are numbers that somebody tells to a room: the secret, those beside it, and others.
func numbersFor(r impl.Room) []int {
	return []int{r.Secret, r.Secret - 1, r.Secret + 1, -r.Secret - 1, 0, 7, impl.Great + 7, r.Secret + 1<<32, math.MaxInt, math.MinInt}
}

// peopleFor are how many people may be in a room when somebody wants to come in.
func peopleFor(r impl.Room) []int {
	return []int{0, r.Most - 1, r.Most, r.Most + 1, impl.MaxPeople, 2 * impl.MaxPeople, 1 << 32, math.MaxInt}
}

// Promise 18.
func TestSomePeopleEnter(t *testing.T) {
	room := redRoom()
	checkEnter(t, room, "ann", 41, 0, room, 403)
	checkEnter(t, room, "ann", 0, 0, room, 403)
	checkEnter(t, room, "ann", 42, 2, room, 486)
	checkEnter(t, room, "ann", 42, 3, room, 486)
	checkEnter(t, room, "ann", 42, 1, redRoom("ann"), 182)
	checkEnter(t, redRoom("ann"), "ann", 42, 1, redRoom("ann"), 182)
	checkEnter(t, redRoom("bob"), "ann", 42, 0, redRoom("bob", "ann"), 182)
	checkEnter(t, redRoom("bob", "ann", "tom"), "ann", 42, 0, redRoom("bob", "ann", "tom"), 182)
	open := withLocked(room, false)
	checkEnter(t, open, "ann", 42, 0, open, 200)
	checkEnter(t, open, "ann", 42, 1, open, 200)
	checkEnter(t, open, "ann", 42, 2, open, 486)
	checkEnter(t, open, "ann", 43, 1, open, 403)
	// Somebody may have the word of the room.
	checkEnter(t, room, "red", 42, 1, redRoom("red"), 182)
	checkEnter(t, open, "red", 42, 1, open, 200)
}

// Promise 18.
func TestEverybodyEnters(t *testing.T) {
	for _, r := range validRooms() {
		for _, word := range visitors(r.Lobby) {
			for _, number := range numbersFor(r) {
				for _, people := range peopleFor(r) {
					checkEntered(t, r, word, number, people)
				}
			}
		}
	}
}

// Promise 18.
func TestSecretsAreTold(t *testing.T) {
	for _, secret := range validSecrets() {
		locked := withSecret(redRoom(), secret)
		open := withLocked(locked, false)
		for _, number := range append(append(numbersFor(locked), validSecrets()...), invalidSecrets()...) {
			if secret == 0 || number == secret {
				checkEnter(t, locked, "ann", number, 0, withLobby(locked, "ann"), 182)
				checkEnter(t, open, "ann", number, 0, open, 200)
			} else {
				checkEnter(t, locked, "ann", number, 0, locked, 403)
				checkEnter(t, open, "ann", number, 0, open, 403)
			}
		}
	}
	for number := -300; number <= 300; number++ {
		checkEntered(t, redRoom(), "ann", number, 1)
		checkEntered(t, withLocked(redRoom(), false), "ann", number, 1)
		checkEntered(t, withSecret(redRoom(), 0), "ann", number, 1)
		checkEntered(t, withLocked(withSecret(redRoom(), 0), false), "ann", number, 1)
	}
}

// Promise 18.
func TestEverySecretIsTold(t *testing.T) {
	for secret := 1; secret <= impl.Great; secret++ {
		open := withSecret(withLocked(redRoom(), false), secret)
		checkEnter(t, open, "ann", secret, 0, open, 200)
		checkEnter(t, open, "ann", secret-1, 0, open, 403)
		if t.Failed() {
			return
		}
	}
}

// Promise 18.
func TestFullRooms(t *testing.T) {
	for most := 1; most <= impl.MaxPeople; most++ {
		locked := withMost(redRoom(), most)
		open := withLocked(locked, false)
		for people := 0; people <= 300; people++ {
			if people < most {
				checkEnter(t, open, "ann", 42, people, open, 200)
				checkEnter(t, locked, "ann", 42, people, withLobby(locked, "ann"), 182)
			} else {
				checkEnter(t, open, "ann", 42, people, open, 486)
				checkEnter(t, locked, "ann", 42, people, locked, 486)
			}
		}
		for _, people := range []int{impl.Great, math.MaxInt32, 1 << 32, 1<<32 + 1, math.MaxInt - 1, math.MaxInt} {
			checkEnter(t, open, "ann", 42, people, open, 486)
			checkEnter(t, locked, "ann", 42, people, locked, 486)
		}
	}
}

// Promise 18.
func TestLobbiesBecomeFull(t *testing.T) {
	room := redRoom()
	for count, word := range differentCodes(impl.MaxPeople) {
		want := redRoom(differentCodes(count + 1)...)
		checkEnter(t, room, word, 42, 0, want, 182)
		room, _ = impl.EnterRoom(room, word, 42, 0)
		for _, again := range differentCodes(count + 1) {
			checkEnter(t, room, again, 42, 1, want, 182)
		}
	}
	// There is no room for another one, but who waits goes on waiting.
	checkEnter(t, room, "new", 42, 0, room, 480)
	checkEnter(t, room, "c", 42, 0, room, 480)
	checkEnter(t, room, "c00", 42, 0, room, 480)
	for _, word := range differentCodes(impl.MaxPeople) {
		checkEnter(t, room, word, 42, 0, room, 182)
	}
	// When one has been let in, there is one place.
	left, _ := impl.AdmitNext(room)
	want := withLobby(room, append(differentCodes(impl.MaxPeople)[1:], "new")...)
	checkEnter(t, left, "new", 42, 0, want, 182)
	checkEnter(t, want, "c0", 42, 0, want, 480)
	checkEnter(t, want, "new", 42, 0, want, 182)
}

// Promise 18.
func TestTheFirstReasonIsTold(t *testing.T) {
	full := differentCodes(impl.MaxPeople)
	for _, lobby := range [][]string{nil, {"ann"}, {"bob"}, full, append([]string{"ann"}, full[1:]...)} {
		for _, locked := range []bool{true, false} {
			room := withLocked(redRoom(lobby...), locked)
			// The number comes before how many people there are, and both before the lobby.
			checkEnter(t, room, "ann", 41, 2, room, 403)
			checkEnter(t, room, "ann", 41, 1, room, 403)
			checkEnter(t, room, "ann", 42, 2, room, 486)
			checkEnter(t, withSecret(room, 0), "ann", 41, 2, withSecret(room, 0), 486)
		}
	}
}

// Promise 18.
func TestNobodyWaitsInOpenRooms(t *testing.T) {
	for _, lobby := range someLobbies() {
		// Whoever waited before the room was open waits there still, even if it comes in now.
		open := withLocked(redRoom(lobby...), false)
		for _, word := range append(visitors(lobby), lobby...) {
			checkEnter(t, open, word, 42, 0, open, 200)
			checkEnter(t, withSecret(open, 0), word, 0, 1, withSecret(open, 0), 200)
		}
	}
}

// Promise 18.
func TestWrongWordsDoNotEnter(t *testing.T) {
	for _, r := range fewRooms() {
		for _, word := range invalidWords() {
			checkNoEnter(t, r, word, r.Secret, 0)
			// It is checked before every answer.
			checkNoEnter(t, r, word, r.Secret+1, 2)
		}
	}
	for b := 0; b < 256; b++ {
		word := "a" + oneByte(b)
		if wordsOfPeople.MatchString(word) {
			checkEnter(t, redRoom(), word, 42, 0, redRoom(word), 182)
		} else {
			checkNoEnter(t, redRoom(), word, 42, 0)
			checkNoEnter(t, withLocked(redRoom(), false), word, 42, 0)
		}
	}
	for _, word := range validWords() {
		checkEnter(t, redRoom(), word, 42, 0, redRoom(word), 182)
	}
	for length := 0; length <= 300; length++ {
		if word := strings.Repeat("a", length); length < 1 || length > impl.MaxWord {
			checkNoEnter(t, redRoom(), word, 42, 0)
		} else {
			checkEnter(t, redRoom(), word, 42, 0, redRoom(word), 182)
		}
	}
}

// Promise 18.
func TestThereAreNotFewerThanNobody(t *testing.T) {
	for _, r := range fewRooms() {
		for _, people := range []int{-1, -2, -8, -impl.Great, math.MinInt32, math.MinInt + 1, math.MinInt} {
			for _, word := range visitors(r.Lobby) {
				checkNoEnter(t, r, word, r.Secret, people)
				checkNoEnter(t, r, word, r.Secret+1, people)
			}
		}
	}
}

// Promise 18.
func TestNobodyEntersWrongRooms(t *testing.T) {
	for _, r := range wrongRooms() {
		for _, word := range []string{"ann", "new", "c0", "", "A"} {
			for _, number := range []int{r.Secret, 0, 42, 41} {
				for _, people := range []int{0, 1, 2, impl.MaxPeople + 1, -1} {
					checkNoEnter(t, r, word, number, people)
				}
			}
		}
	}
}

// Promise 19.
func TestSomePeopleAreAdmitted(t *testing.T) {
	checkAdmit(t, redRoom("ann", "bob"), redRoom("bob"), "ann")
	checkAdmit(t, redRoom("bob", "ann"), redRoom("ann"), "bob")
	checkAdmit(t, redRoom("bob"), redRoom(), "bob")
	checkAdmit(t, redRoom("tom", "ann", "eve", "bob"), redRoom("ann", "eve", "bob"), "tom")
	// Nobody waits.
	checkAdmit(t, redRoom(), redRoom(), "")
	checkAdmit(t, redRoom([]string{}...), redRoom(), "")
	open := withLocked(redRoom(), false)
	checkAdmit(t, open, open, "")
	// Whoever still waits in an open room comes in, too.
	checkAdmit(t, withLocked(redRoom("ann", "bob"), false), withLocked(redRoom("bob"), false), "ann")
}

// Promise 19.
func TestWhoWaitsFirstComesInFirst(t *testing.T) {
	for _, r := range validRooms() {
		room := r
		for place, word := range r.Lobby {
			checkAdmit(t, room, withLobby(r, r.Lobby[place+1:]...), word)
			got, who := impl.AdmitNext(room)
			if !slices.Equal(append([]string{who}, got.Lobby...), room.Lobby) {
				t.Errorf("%q comes in out of %s, and %s is left", who, shownRoom(room), shownRoom(got))
			}
			checkRoom(t, got, true)
			room = got
		}
		checkAdmit(t, room, withLobby(r), "")
		// Nobody else comes in, as often as it is asked.
		room, _ = impl.AdmitNext(room)
		checkAdmit(t, room, withLobby(r), "")
	}
}

// Promise 19.
func TestLobbiesInEachOrder(t *testing.T) {
	for _, words := range orders([]string{"a", "ab", "b", "red", "zz"}) {
		room := redRoom()
		for _, word := range words {
			room, _ = impl.EnterRoom(room, word, 42, 1)
		}
		if !sameRoom(room, redRoom(words...)) {
			t.Errorf("after %q wanted to come in, the room is %s", words, shownRoom(room))
		}
		for place, word := range words {
			checkAdmit(t, room, redRoom(words[place+1:]...), word)
			room, _ = impl.AdmitNext(room)
		}
	}
}

// Promises 18 and 19.
func TestSomeComeWhileOthersAreAdmitted(t *testing.T) {
	words := differentCodes(30)
	for pause := 1; pause <= 5; pause++ {
		room := redRoom()
		var waiting []string
		for k, word := range words {
			if len(waiting) < 8 {
				waiting = append(waiting, word)
				checkEnter(t, room, word, 42, 0, redRoom(waiting...), 182)
			} else {
				checkEnter(t, room, word, 42, 0, redRoom(waiting...), 480)
			}
			room, _ = impl.EnterRoom(room, word, 42, 0)
			if k%pause == 0 {
				checkAdmit(t, room, redRoom(waiting[1:]...), waiting[0])
				room, _ = impl.AdmitNext(room)
				waiting = waiting[1:]
			}
		}
	}
}

// Promise 19.
func TestWhoWasAdmittedWaitsBehindAllOthers(t *testing.T) {
	for _, lobby := range someLobbies() {
		room := redRoom(lobby...)
		for range lobby {
			left, who := impl.AdmitNext(room)
			checkEnter(t, left, who, 42, 1, redRoom(append(slices.Clone(room.Lobby[1:]), who)...), 182)
			room, _ = impl.EnterRoom(left, who, 42, 1)
		}
		// After as many as there are, all wait as they did.
		if !sameRoom(room, redRoom(lobby...)) {
			t.Errorf("after all in %q waited again, the room is %s", lobby, shownRoom(room))
		}
	}
}

// Promise 19.
func TestNobodyIsAdmittedToWrongRooms(t *testing.T) {
	for _, r := range wrongRooms() {
		checkAdmit(t, r, impl.Room{}, "")
	}
}

// Promise 79.
func TestValidRooms(t *testing.T) {
	for _, r := range validRooms() {
		checkRoom(t, r, true)
		checkRoom(t, withLobby(r), true)
		checkRoom(t, withLobby(r, []string{}...), true)
	}
}

// Promise 79.
func TestInvalidRooms(t *testing.T) {
	for _, r := range wrongRooms() {
		checkRoom(t, r, false)
		if roomValidByHand(r) {
			t.Errorf("the test has a room that is valid: %s", shownRoom(r))
		}
	}
}

// Promise 79.
func TestNobodyWaitsTwice(t *testing.T) {
	for _, r := range validRooms() {
		for _, lobby := range lobbiesThatRepeat(r.Lobby) {
			checkRoom(t, withLobby(r, lobby...), false)
		}
		if len(r.Lobby) > 0 {
			checkRoom(t, withLobby(r, append([]string{r.Lobby[0]}, r.Lobby...)...), false)
			checkRoom(t, withLobby(r, append(slices.Clone(r.Lobby), r.Lobby[0])...), false)
			checkRoom(t, withLobby(r, r.Lobby[1:]...), true)
		}
	}
	checkRoom(t, redRoom("ann", "ann"), false)
	checkRoom(t, redRoom("ann", "bob", "ann"), false)
	checkRoom(t, redRoom("bob", "ann", "ann"), false)
	checkRoom(t, withLocked(redRoom("ann", "ann"), false), false)
}

// Promise 79.
func TestOrdersOfLobbies(t *testing.T) {
	for _, words := range orders([]string{"a", "ab", "b", "red", "zz"}) {
		checkRoom(t, redRoom(words...), true)
		checkRoom(t, withLocked(redRoom(words...), false), true)
	}
	for _, first := range textsOver("ab1A", 2) {
		for _, second := range textsOver("ab1A", 2) {
			for _, third := range append(textsOver("ab1A", 1), "ab", "ba") {
				checkRoom(t, redRoom(first, second, third), roomValidByHand(redRoom(first, second, third)))
			}
		}
	}
}

// Promise 79.
func TestCountsOfLobbies(t *testing.T) {
	for count := 0; count <= 300; count++ {
		for _, locked := range []bool{true, false} {
			for most := 1; most <= impl.MaxPeople; most++ {
				// It does not matter to the lobby how many may be in the room.
				checkRoom(t, withMost(withLocked(redRoom(differentCodes(count)...), locked), most), count <= impl.MaxPeople)
			}
			checkRoom(t, withLocked(redRoom(slices.Repeat([]string{"ann"}, count)...), locked), count <= 1)
			checkRoom(t, withLocked(redRoom(make([]string, count)...), locked), count == 0)
		}
	}
}

// Promise 79.
func TestWordsOfRooms(t *testing.T) {
	for _, word := range append(textsOver("ab1A", 3), append(validWords(), invalidWords()...)...) {
		isWord := wordsOfPeople.MatchString(word)
		checkRoom(t, withRoomWord(redRoom(), word), isWord)
		checkRoom(t, withRoomWord(redRoom("mmm", "nnn"), word), isWord)
		checkRoom(t, redRoom(word), isWord)
		checkRoom(t, redRoom(word, "mmm"), isWord)
		checkRoom(t, redRoom("mmm", word), isWord)
		// Who waits may have the word of the room.
		checkRoom(t, withRoomWord(redRoom(word), word), isWord)
	}
	for b := 0; b < 256; b++ {
		for place := 0; place <= 3; place++ {
			word := insertedAt("mmm", place, oneByte(b))
			isWord := wordsOfPeople.MatchString(word)
			checkRoom(t, withRoomWord(redRoom(), word), isWord)
			checkRoom(t, redRoom(word), isWord)
			checkRoom(t, redRoom("l", word, "n"), isWord)
		}
	}
}

// Promise 79.
func TestNumbersOfRooms(t *testing.T) {
	for _, r := range []impl.Room{redRoom(), redRoom("ann", "bob"), withLocked(redRoom(), false), withSecret(redRoom("ann"), 0)} {
		for secret := -300; secret <= 300; secret++ {
			checkRoom(t, withSecret(r, secret), secret >= 0)
			checkRoom(t, withSecret(r, impl.Great+secret), secret <= 0)
		}
		for _, secret := range validSecrets() {
			checkRoom(t, withSecret(r, secret), true)
		}
		for _, secret := range invalidSecrets() {
			checkRoom(t, withSecret(r, secret), false)
		}
		for most := -300; most <= 300; most++ {
			checkRoom(t, withMost(r, most), most >= 1 && most <= 8)
		}
		for _, most := range invalidMosts() {
			checkRoom(t, withMost(r, most), false)
		}
	}
}

// Promise 80.
func TestSomeRoomsAreLocked(t *testing.T) {
	locked, open := redRoom("bob", "ann", "tom"), withLocked(redRoom(), false)
	// All who wait come in when it is opened, in the order in which they waited.
	checkLock(t, locked, false, open, "bob", "ann", "tom")
	checkLock(t, redRoom("ann"), false, open, "ann")
	checkLock(t, redRoom(), false, open)
	checkLock(t, redRoom([]string{}...), false, open)
	// Nobody comes in when it is locked, and a locked room stays as it is.
	checkLock(t, open, true, redRoom())
	checkLock(t, redRoom(), true, redRoom())
	checkLock(t, locked, true, locked)
	// An open room stays open, and who still waits there comes in.
	checkLock(t, open, false, open)
	checkLock(t, withLocked(locked, false), false, open, "bob", "ann", "tom")
	checkLock(t, withLocked(locked, false), true, locked)
}

// Promise 80.
func TestOpenRoomsHaveEmptyLobbies(t *testing.T) {
	for _, r := range validRooms() {
		checkLock(t, r, false, withLobby(withLocked(r, false)), r.Lobby...)
		checkLock(t, r, true, withLocked(r, true))
		opened, words := impl.LockRoom(r, false)
		checkRoom(t, opened, true)
		if opened.Locked || len(opened.Lobby) != 0 || !slices.Equal(words, r.Lobby) {
			t.Errorf("%s was opened: it is %s, and %q come in", shownRoom(r), shownRoom(opened), words)
		}
		locked, nobody := impl.LockRoom(r, true)
		checkRoom(t, locked, true)
		if !locked.Locked || len(nobody) != 0 || !slices.Equal(locked.Lobby, r.Lobby) {
			t.Errorf("%s was locked: it is %s, and %q come in", shownRoom(r), shownRoom(locked), nobody)
		}
		// After that nobody is left who could come in.
		checkLock(t, opened, false, opened)
		checkAdmit(t, opened, opened, "")
	}
}

// Promises 19 and 80.
func TestAllComeInAsOneAfterTheOther(t *testing.T) {
	for _, r := range validRooms() {
		var words []string
		room := r
		for range len(r.Lobby) {
			left, who := impl.AdmitNext(room)
			words = append(words, who)
			room = left
		}
		_, all := impl.LockRoom(r, false)
		if !slices.Equal(words, all) {
			t.Errorf("%s is opened to %q, but one after the other %q come in", shownRoom(r), all, words)
		}
	}
}

// Promises 18 and 80.
func TestOpenedRoomsLetPeopleIn(t *testing.T) {
	for _, r := range validRooms() {
		opened, _ := impl.LockRoom(r, false)
		locked, _ := impl.LockRoom(opened, true)
		for _, word := range visitors(r.Lobby) {
			checkEnter(t, opened, word, r.Secret, r.Most-1, opened, 200)
			checkEnter(t, locked, word, r.Secret, r.Most-1, withLobby(locked, word), 182)
		}
	}
}

// Promise 80.
func TestWrongRoomsAreNotLocked(t *testing.T) {
	for _, r := range wrongRooms() {
		checkLock(t, r, true, impl.Room{})
		checkLock(t, r, false, impl.Room{})
	}
}

// roomsToGuard are rooms of every kind, valid or not, for the tests of memory.
func roomsToGuard() []impl.Room {
	rooms := append(fewRooms(), impl.Room{}, impl.Room{Lobby: []string{"ann"}}, redRoom("ann", "ann"), redRoom("A"), redRoom(differentCodes(9)...))
	return append(rooms, withSecret(redRoom("ann", "bob"), -1), withMost(redRoom("ann", "bob"), 0), withRoomWord(redRoom("ann", "bob"), ""))
}

// checkLobbyApart checks that a function of a room returns a list that shares no memory with the lobby of the room, or with another result.
func checkLobbyApart(t *testing.T, r impl.Room, call func(impl.Room) []string) {
	t.Helper()
	checkApart(t, r.Lobby, markedCode, markedLine, func(list []string) []string { return call(withLobby(r, list...)) })
}

// Promise 79, and the general rules.
func TestLobbiesAreNotWrittenTo(t *testing.T) {
	for _, r := range roomsToGuard() {
		argument := roomy(r.Lobby, markedCode)
		impl.RoomValid(withLobby(r, argument...))
		checkUnwritten(t, argument, r.Lobby, markedCode)
	}
}

// Promise 18, and the general rules.
func TestEnteredRoomsShareNoMemory(t *testing.T) {
	for _, r := range roomsToGuard() {
		for _, word := range append(visitors(r.Lobby), "A") {
			for _, number := range []int{r.Secret, r.Secret + 1} {
				for _, people := range []int{-1, 0, 2} {
					checkLobbyApart(t, r, func(room impl.Room) []string {
						got, _ := impl.EnterRoom(room, word, number, people)
						return got.Lobby
					})
				}
			}
		}
	}
}

// Promise 19, and the general rules.
func TestAdmittingRoomsShareNoMemory(t *testing.T) {
	for _, r := range roomsToGuard() {
		checkLobbyApart(t, r, func(room impl.Room) []string {
			got, _ := impl.AdmitNext(room)
			return got.Lobby
		})
	}
}

// Promise 80, and the general rules.
func TestLockedRoomsShareNoMemory(t *testing.T) {
	for _, r := range roomsToGuard() {
		for _, locked := range []bool{true, false} {
			checkLobbyApart(t, r, func(room impl.Room) []string {
				got, _ := impl.LockRoom(room, locked)
				return got.Lobby
			})
			checkLobbyApart(t, r, func(room impl.Room) []string {
				_, words := impl.LockRoom(room, locked)
				return words
			})
			checkLobbyAndWordsApart(t, r, locked)
		}
	}
}

// checkLobbyAndWordsApart checks that the lobby and the words of one result share no memory, that behind their ends included.
func checkLobbyAndWordsApart(t *testing.T, r impl.Room, locked bool) {
	t.Helper()
	want, wantWords := impl.LockRoom(r, locked)
	got, words := impl.LockRoom(r, locked)
	overwrite(got.Lobby, markedCode)
	if !slices.Equal(words, wantWords) {
		t.Errorf("LockRoom(%s, %v) has a lobby that is memory of its words", shownRoom(r), locked)
	}
	got, words = impl.LockRoom(r, locked)
	overwrite(words, markedCode)
	if !sameRoom(got, want) {
		t.Errorf("LockRoom(%s, %v) has words that are memory of its lobby", shownRoom(r), locked)
	}
}
