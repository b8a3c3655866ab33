package tests

import (
	"slices"
	"strconv"
	"strings"
	"testing"

	"loop.example/conferencehall/impl"
)

// waysOfAnswers tells the way of an answer by the way of the offer and then that of the other one.
var waysOfAnswers = map[string]map[string]string{
	"both": {"both": "both", "send": "send", "hear": "hear", "none": "none"},
	"send": {"both": "hear", "send": "none", "hear": "hear", "none": "none"},
	"hear": {"both": "send", "send": "send", "hear": "none", "none": "none"},
	"none": {"both": "none", "send": "none", "hear": "none", "none": "none"},
}

// waysThatFit tells all ways of answers that fit, by the way of the offer.
var waysThatFit = map[string][]string{
	"both": {"both", "send", "hear", "none"},
	"send": {"hear", "none"},
	"hear": {"send", "none"},
	"none": {"none"},
}

// offerOf returns the offer that has some lines.
func offerOf(lines ...string) []impl.Media {
	offer, ok := readOfferByHand(lines)
	if !ok {
		panic("the test has lines that are no offer: " + strings.Join(lines, ", "))
	}
	return offer
}

func mediaOf(line string) impl.Media {
	return offerOf(line)[0]
}

func allRefused(offer []impl.Media) []impl.Media {
	refused := slices.Clone(offer)
	for k := range refused {
		refused[k].Port = 0
	}
	return refused
}

func allInWay(offer []impl.Media, sends bool, hears bool) []impl.Media {
	list := slices.Clone(offer)
	for k := range list {
		list[k] = withWay(list[k], sends, hears)
	}
	return list
}

// commonByHand takes out of a list what the other one does not have.
func commonByHand(a []string, b []string) []string {
	return slices.DeleteFunc(slices.Clone(a), func(word string) bool { return !slices.Contains(b, word) })
}

// answerMediaByHand returns the line of the answer to valid media by other ones.
func answerMediaByHand(offer impl.Media, own impl.Media) string {
	common := commonByHand(offer.Codes, own.Codes)
	if offer.Kind != own.Kind || offer.Port*own.Port == 0 || len(common) == 0 {
		return strings.Join(append([]string{offer.Kind, "0 none"}, offer.Codes...), " ")
	}
	way := waysOfAnswers[wayByHand(offer.Sends, offer.Hears)][wayByHand(own.Sends, own.Hears)]
	return strings.Join(append([]string{own.Kind, strconv.Itoa(own.Port), way}, common...), " ")
}

// answerOfferByHand returns the lines of the answer to a valid offer by another one: the second media of a kind are answered by the second ones of that kind, and so on.
func answerOfferByHand(offer []impl.Media, own []impl.Media) []string {
	var lines []string
	for k, m := range offer {
		before, others := mediaOfKind(offer[:k], m.Kind), mediaOfKind(own, m.Kind)
		if len(before) < len(others) {
			lines = append(lines, answerMediaByHand(m, others[len(before)]))
		} else {
			lines = append(lines, answerMediaByHand(m, withPort(m, 0)))
		}
	}
	return lines
}

func mediaOfKind(offer []impl.Media, kind string) []impl.Media {
	return slices.DeleteFunc(slices.Clone(offer), func(m impl.Media) bool { return m.Kind != kind })
}

// offerFitsByHand tells whether one valid offer is an answer to another one.
func offerFitsByHand(offer []impl.Media, answer []impl.Media) bool {
	return slices.EqualFunc(offer, answer, mediaFitsByHand)
}

func mediaFitsByHand(offer impl.Media, answer impl.Media) bool {
	switch {
	case offer.Kind != answer.Kind:
		return false
	case answer.Port == 0:
		return true
	case offer.Port == 0 || len(commonByHand(answer.Codes, offer.Codes)) < len(answer.Codes):
		return false
	}
	return slices.Contains(waysThatFit[wayByHand(offer.Sends, offer.Hears)], wayByHand(answer.Sends, answer.Hears))
}

func checkCommonCodes(t *testing.T, a []string, b []string, want ...string) {
	t.Helper()
	if got := impl.CommonCodes(a, b); !slices.Equal(got, want) {
		t.Errorf("CommonCodes(%.200q, %.200q) is %.200q, not %.200q", a, b, got, want)
	}
}

func checkAnswerMedia(t *testing.T, offer impl.Media, own impl.Media, want string) {
	t.Helper()
	if got := impl.AnswerMedia(offer, own); mediaByHand(got) != want {
		t.Errorf("AnswerMedia of %q by %q is %q, not %q", mediaByHand(offer), mediaByHand(own), mediaByHand(got), want)
	}
}

func checkNoAnswerMedia(t *testing.T, offer impl.Media, own impl.Media) {
	t.Helper()
	if got := impl.AnswerMedia(offer, own); !sameMedia(got, impl.Media{}) {
		t.Errorf("AnswerMedia of %s is %s, not the zero value", shownOffer([]impl.Media{offer, own}), shownOffer([]impl.Media{got}))
	}
}

// checkAnswerOffer checks the answer to a valid offer by another one, and what promise 12 says about it.
func checkAnswerOffer(t *testing.T, offer []impl.Media, own []impl.Media, want ...string) {
	t.Helper()
	got := impl.AnswerOffer(offer, own)
	if !slices.Equal(offerByHand(got), want) {
		t.Errorf("AnswerOffer of %q by %q is %q, not %q", offerByHand(offer), offerByHand(own), offerByHand(got), want)
		return
	}
	checkOffer(t, got, true)
	checkAnswerFits(t, offer, got, true)
	for k, m := range got {
		if m.Port != 0 && (m.Sends && !offer[k].Hears || m.Hears && !offer[k].Sends) {
			t.Errorf("AnswerOffer of %q by %q is %q: one side does not hear what the other one sends", offerByHand(offer), offerByHand(own), offerByHand(got))
		}
	}
}

func checkNoAnswerOffer(t *testing.T, offer []impl.Media, own []impl.Media) {
	t.Helper()
	if got := impl.AnswerOffer(offer, own); len(got) != 0 {
		t.Errorf("AnswerOffer of %s by %s is %s, not nil", shownOffer(offer), shownOffer(own), shownOffer(got))
	}
}

func checkAnswerFits(t *testing.T, offer []impl.Media, answer []impl.Media, want bool) {
	t.Helper()
	if impl.AnswerFits(offer, answer) != want {
		t.Errorf("AnswerFits of %s to %s is not %v", shownOffer(answer), shownOffer(offer), want)
	}
}

// offersToAnswer are offers of every count in which kinds come once and several times, in all orders, with much, little and nothing in common.
func offersToAnswer() [][]impl.Media {
	some := offerOf("audio 5000 both opus pcm g7", "audio 6000 send pcm", "audio 0 both opus", "video 7000 hear vp8 h264")
	offers := mediaRuns(append(some, mediaOf("video 8000 both h264")), 3)
	for _, offer := range mediaRuns([]impl.Media{some[0], some[2], some[3]}, impl.MaxMedia) {
		if len(offer) == impl.MaxMedia {
			offers = append(offers, offer)
		}
	}
	return append(offers, someOffers()...)
}

// plainOffers are valid offers with as many media as those of wrongOffers, and of no media.
func plainOffers() [][]impl.Media {
	return [][]impl.Media{nil, {audio()}, {audio(), audio()}, {audio(), fullMedia(), audio()}, {audio(), fullMedia(), audio(), fullMedia()}, {withPort(audio(), 0)}}
}

// mediaRuns returns all offers of some media in all orders, up to a count of media.
func mediaRuns(some []impl.Media, most int) [][]impl.Media {
	offers := [][]impl.Media{nil}
	lasts := offers
	for count := 1; count <= most; count++ {
		var longer [][]impl.Media
		for _, offer := range lasts {
			for _, m := range some {
				longer = append(longer, append(slices.Clone(offer), m))
			}
		}
		offers = append(offers, longer...)
		lasts = longer
	}
	return offers
}

// orders returns all lists of different words among some, in all orders, the empty one included.
func orders(words []string) [][]string {
	lists := [][]string{nil}
	for place, word := range words {
		for _, list := range orders(slices.Delete(slices.Clone(words), place, place+1)) {
			lists = append(lists, append([]string{word}, list...))
		}
	}
	return lists
}

// ordersOfCodes are all valid codes among five words of which some are parts of each other.
func ordersOfCodes() [][]string {
	return slices.DeleteFunc(orders([]string{"a", "ab", "b", "ba", "a1"}), func(codes []string) bool { return len(codes) == 0 || len(codes) > impl.MaxCodes })
}

// listsOfWords are lists of valid words and of other texts; some have a word twice, and some are longer than codes of media may be.
func listsOfWords() [][]string {
	lists := append(orders([]string{"opus", "pcm", "g7"}), codeLists()...)
	lists = append(lists, codeListsThatRepeat()...)
	lists = append(lists, []string{""}, []string{"", ""}, []string{"OPUS"}, []string{"opus "}, []string{"opus pcm"}, []string{"opus", "", "opus"}, []string{"\x00", "\xff", "ü", "opus"})
	return append(lists, invalidWords(), differentCodes(20), append(differentCodes(20), differentCodes(20)...), slices.Repeat([]string{"opus"}, 300))
}

func hasWordTwice(list []string) bool {
	sorted := slices.Sorted(slices.Values(list))
	return len(slices.Compact(sorted)) != len(list)
}

// Promise 74.
func TestListsHaveAllWordsInCommonWithThemselves(t *testing.T) {
	for _, list := range listsOfWords() {
		checkCommonCodes(t, list, list, list...)
		checkCommonCodes(t, list, slices.Clone(list), list...)
		reversed := slices.Clone(list)
		slices.Reverse(reversed)
		checkCommonCodes(t, list, reversed, list...)
		checkCommonCodes(t, reversed, list, reversed...)
		checkCommonCodes(t, list, append([]string{"other"}, list...), list...)
	}
}

// Promise 74.
func TestCommonWordsAreAsManyInTheOtherDirection(t *testing.T) {
	lists := listsOfWords()
	for _, a := range lists {
		for _, b := range lists {
			want := commonByHand(a, b)
			checkCommonCodes(t, a, b, want...)
			if hasWordTwice(a) || hasWordTwice(b) {
				continue
			}
			there, back := impl.CommonCodes(a, b), impl.CommonCodes(b, a)
			if len(there) != len(back) {
				t.Errorf("%.200q and %.200q have %d words in common, but %d in the other direction", a, b, len(there), len(back))
			}
			checkCommonCodes(t, there, back, there...)
		}
	}
}

// Promise 74.
func TestSomeCommonWords(t *testing.T) {
	checkCommonCodes(t, []string{"a", "b"}, []string{"b", "c"}, "b")
	checkCommonCodes(t, []string{"a", "b", "c", "d"}, []string{"d", "b", "x"}, "b", "d")
	checkCommonCodes(t, []string{"d", "b", "x"}, []string{"a", "b", "c", "d"}, "d", "b")
	checkCommonCodes(t, []string{"a", "b"}, []string{"c", "d"})
	checkCommonCodes(t, nil, []string{"a"})
	checkCommonCodes(t, []string{"a"}, nil)
	checkCommonCodes(t, nil, nil)
	checkCommonCodes(t, []string{}, []string{})
	// Words are compared as a whole, byte by byte.
	checkCommonCodes(t, []string{"opus", "a", "pcm"}, []string{"Opus", "ab", "pcm "})
	checkCommonCodes(t, []string{"ab", "a", ""}, []string{"", "abc"}, "")
	// What is twice in the first list stays there twice, and what is twice in the other one does not become so.
	checkCommonCodes(t, []string{"a", "b", "a"}, []string{"a"}, "a", "a")
	checkCommonCodes(t, []string{"a"}, []string{"a", "b", "a"}, "a")
	checkCommonCodes(t, []string{"a", "b", "a", "c"}, []string{"c", "c", "a", "a", "a"}, "a", "a", "c")
}

// Promise 12.
func TestAnswersToSomeMedia(t *testing.T) {
	for _, lines := range [][3]string{
		{"audio 5000 both opus pcm", "audio 7000 both opus pcm", "audio 7000 both opus pcm"},
		{"audio 5000 both opus pcm", "audio 7000 both pcm opus", "audio 7000 both opus pcm"},
		{"audio 5000 both opus pcm", "audio 7000 both g7 pcm", "audio 7000 both pcm"},
		{"audio 65535 both a b c d", "audio 1 both d x b a", "audio 1 both a b d"},
		{"audio 1 both a", "audio 65535 both d c b a", "audio 65535 both a"},
		{"audio 5000 send opus", "audio 7000 both opus", "audio 7000 hear opus"},
		{"audio 5000 both opus", "audio 7000 send opus", "audio 7000 send opus"},
		{"audio 5000 both opus", "video 7000 both opus", "audio 0 none opus"},
		{"audio 5000 both opus pcm", "audio 7000 both g7 g8", "audio 0 none opus pcm"},
		{"audio 0 both opus pcm", "audio 7000 both pcm", "audio 0 none opus pcm"},
		{"audio 5000 both opus pcm", "audio 0 both pcm", "audio 0 none opus pcm"},
		{"audio 0 both opus pcm", "audio 0 both pcm", "audio 0 none opus pcm"},
		// What nobody sends to the other one is not refused.
		{"audio 5000 send opus", "audio 7000 send opus", "audio 7000 none opus"},
		{"audio 5000 hear opus", "audio 7000 hear opus", "audio 7000 none opus"},
		{"audio 5000 none opus", "audio 7000 both opus", "audio 7000 none opus"},
	} {
		checkAnswerMedia(t, mediaOf(lines[0]), mediaOf(lines[1]), lines[2])
		checkAnswerOffer(t, offerOf(lines[0]), offerOf(lines[1]), lines[2])
	}
}

// Promise 12.
func TestWaysOfAnswers(t *testing.T) {
	for _, offer := range eachWay(audio()) {
		for _, own := range eachWay(withPort(audio(), 7000)) {
			way := waysOfAnswers[wayByHand(offer.Sends, offer.Hears)][wayByHand(own.Sends, own.Hears)]
			checkAnswerMedia(t, offer, own, "audio 7000 "+way+" opus pcm")
			got := impl.AnswerMedia(offer, own)
			if got.Sends && !(own.Sends && offer.Hears) || got.Hears && !(own.Hears && offer.Sends) {
				t.Errorf("AnswerMedia of %q by %q is %q", mediaByHand(offer), mediaByHand(own), mediaByHand(got))
			}
			// Refused media are in no way, whatever both sides want.
			checkAnswerMedia(t, withPort(offer, 0), own, "audio 0 none opus pcm")
			checkAnswerMedia(t, offer, withPort(own, 0), "audio 0 none opus pcm")
			checkAnswerMedia(t, offer, withCodes(own, "g7"), "audio 0 none opus pcm")
			checkAnswerMedia(t, offer, withKind(own, "video"), "audio 0 none opus pcm")
		}
	}
}

// Promise 12.
func TestPortsOfAnswers(t *testing.T) {
	for _, port := range ports() {
		for _, other := range ports() {
			want := "audio " + strconv.Itoa(other) + " both opus pcm"
			if port == 0 || other == 0 {
				want = "audio 0 none opus pcm"
			}
			checkAnswerMedia(t, withPort(audio(), port), withPort(audio(), other), want)
		}
	}
}

// Promise 12.
func TestCodesOfAnswers(t *testing.T) {
	lists := ordersOfCodes()
	for _, codes := range lists {
		for _, others := range lists {
			offer, own := withCodes(audio(), codes...), withPort(withCodes(audio(), others...), 7000)
			checkAnswerMedia(t, offer, own, answerMediaByHand(offer, own))
			if t.Failed() {
				return
			}
		}
	}
}

// Promise 12.
func TestMediaOfDifferentKindsAreRefused(t *testing.T) {
	for _, kind := range mediaKinds() {
		for _, other := range mediaKinds() {
			want := kind + " 7000 both opus pcm"
			if kind != other {
				want = kind + " 0 none opus pcm"
			}
			checkAnswerMedia(t, withKind(audio(), kind), withPort(withKind(audio(), other), 7000), want)
		}
	}
}

// Promise 12.
func TestMediaWithNothingInCommonAreRefused(t *testing.T) {
	for _, codes := range codeLists() {
		for _, count := range []int{1, 2, 3, impl.MaxCodes} {
			offer, own := withCodes(audio(), codes...), withCodes(audio(), differentCodes(count)...)
			checkAnswerMedia(t, offer, own, "audio 0 none "+strings.Join(offer.Codes, " "))
			checkAnswerMedia(t, own, offer, "audio 0 none "+strings.Join(own.Codes, " "))
		}
	}
}

// Promise 12.
func TestAnswersToAllMedia(t *testing.T) {
	some := someMedia()
	for _, offer := range some {
		for _, own := range some {
			checkAnswerMedia(t, offer, own, answerMediaByHand(offer, own))
		}
		if t.Failed() {
			return
		}
	}
}

// Promise 12.
func TestInvalidMediaAreNotAnswered(t *testing.T) {
	for _, none := range wrongMedia() {
		for _, m := range []impl.Media{audio(), withPort(audio(), 0), fullMedia(), none, withKind(audio(), "video"), withCodes(audio(), "a")} {
			checkNoAnswerMedia(t, none, m)
			checkNoAnswerMedia(t, m, none)
		}
	}
}

// Promise 12.
func TestAnswersFitOffers(t *testing.T) {
	offers := offersToAnswer()
	for _, offer := range offers {
		for _, own := range offers {
			checkAnswerOffer(t, offer, own, answerOfferByHand(offer, own)...)
		}
		if t.Failed() {
			return
		}
	}
}

// Promise 12.
func TestAnswersToValidOffers(t *testing.T) {
	others := someOffers()
	for _, offer := range validOffers() {
		for _, own := range others {
			checkAnswerOffer(t, offer, own, answerOfferByHand(offer, own)...)
			checkAnswerOffer(t, own, offer, answerOfferByHand(own, offer)...)
		}
	}
}

// Promise 12.
func TestAnswersAreInTheOrderOfTheOffer(t *testing.T) {
	offer := offerOf("audio 5000 both opus pcm g7", "video 5002 send vp8", "text 5004 both t1", "slides 5006 hear p1 p2")
	own := offerOf("slides 7006 both p2 p1", "text 7004 hear t1", "video 7002 both vp8", "audio 7000 send g7 opus")
	want := []string{"audio 7000 send opus g7", "video 7002 hear vp8", "text 7004 hear t1", "slides 7006 send p1 p2"}
	for chosen := 0; chosen < 1<<len(offer); chosen++ {
		lines := offerByHand(chosenMedia(offerOf(want...), chosen))
		checkAnswerOffer(t, chosenMedia(offer, chosen), own, lines...)
	}
	checkAnswerOffer(t, own, offer, "slides 5006 hear p2 p1", "text 5004 send t1", "video 5002 send vp8", "audio 5000 hear g7 opus")
}

// Promise 12.
func TestMediaOfTheSameKindAreUsedInOrder(t *testing.T) {
	first := offerOf("audio 1 both a")
	two := offerOf("audio 1 both a b", "audio 2 both b a")
	// Each is answered by the first one that is not used, even if another one has more in common with it.
	checkAnswerOffer(t, first, offerOf("audio 3 both b", "audio 4 both a"), "audio 0 none a")
	checkAnswerOffer(t, offerOf("audio 1 both a", "audio 2 both b"), offerOf("audio 3 both b", "audio 4 both a"), "audio 0 none a", "audio 0 none b")
	checkAnswerOffer(t, two, offerOf("audio 3 both a", "audio 4 both a"), "audio 3 both a", "audio 4 both a")
	checkAnswerOffer(t, two, offerOf("audio 3 send b", "audio 4 hear a b"), "audio 3 send b", "audio 4 hear b a")
	// It is used whether the answer is refused or not, and by whichever side.
	checkAnswerOffer(t, two, offerOf("audio 3 both c", "audio 4 both a"), "audio 0 none a b", "audio 4 both a")
	checkAnswerOffer(t, two, offerOf("audio 0 both a b", "audio 4 both a"), "audio 0 none a b", "audio 4 both a")
	checkAnswerOffer(t, first, offerOf("audio 0 both a", "audio 4 both a"), "audio 0 none a")
	checkAnswerOffer(t, offerOf("audio 0 both a", "audio 2 both a"), offerOf("audio 3 both a"), "audio 0 none a", "audio 0 none a")
	checkAnswerOffer(t, offerOf("audio 0 both a", "audio 2 both a"), offerOf("audio 3 both a", "audio 4 both a"), "audio 0 none a", "audio 4 both a")
	checkAnswerOffer(t, offerOf("audio 1 both b", "audio 2 both a"), offerOf("audio 3 both a"), "audio 0 none b", "audio 0 none a")
	// Media of other kinds between them are passed over.
	checkAnswerOffer(t, offerOf("audio 1 both a", "video 2 both a", "audio 3 both a"), offerOf("text 4 both a", "audio 5 both a", "audio 6 both a", "video 7 both a"), "audio 5 both a", "video 7 both a", "audio 6 both a")
	checkAnswerOffer(t, offerOf("video 1 both a", "audio 2 both a", "video 3 both a", "audio 4 both a"), offerOf("audio 5 both a", "video 6 both a", "audio 7 both a", "video 8 both a"), "video 6 both a", "audio 5 both a", "video 8 both a", "audio 7 both a")
	// Media that are the same in all are used one after the other, too.
	checkAnswerOffer(t, offerOf("audio 1 both a", "audio 1 both a", "audio 1 both a"), offerOf("audio 2 both a", "audio 2 both a"), "audio 2 both a", "audio 2 both a", "audio 0 none a")
}

// Promise 12.
func TestOffersOfMoreAndFewerMediaAreAnswered(t *testing.T) {
	offer := offerOf("audio 1 both a", "audio 2 send a", "audio 3 hear a b", "audio 4 none a")
	own := offerOf("audio 5 both a", "audio 6 both a", "audio 7 both a", "audio 8 both a")
	answered := []string{"audio 5 both a", "audio 6 hear a", "audio 7 send a", "audio 8 none a"}
	refused := []string{"audio 0 none a", "audio 0 none a", "audio 0 none a b", "audio 0 none a"}
	for count := 0; count <= len(offer); count++ {
		for others := 0; others <= len(own); others++ {
			common := min(count, others)
			want := append(slices.Clone(answered[:common]), refused[common:count]...)
			checkAnswerOffer(t, offer[:count], own[:others], want...)
			checkAnswerOffer(t, offer[:count], allRefused(own[:others]), refused[:count]...)
			checkAnswerOffer(t, allRefused(offer[:count]), own[:others], refused[:count]...)
		}
	}
	for _, list := range validOffers() {
		checkAnswerOffer(t, nil, list)
		checkAnswerOffer(t, []impl.Media{}, list)
		checkAnswerOffer(t, list, nil, answerOfferByHand(list, allRefused(list))...)
	}
}

// Promise 12.
func TestInvalidOffersAreNotAnswered(t *testing.T) {
	for _, none := range wrongOffers() {
		checkNoAnswerOffer(t, none, none)
		for _, other := range plainOffers() {
			checkNoAnswerOffer(t, none, other)
			checkNoAnswerOffer(t, other, none)
		}
	}
}

// Promise 12.
func TestInvalidOffersDoNotFit(t *testing.T) {
	for _, none := range wrongOffers() {
		checkAnswerFits(t, none, none, false)
		checkAnswerFits(t, none, allRefused(none), false)
		checkAnswerFits(t, allRefused(none), none, false)
		for _, other := range plainOffers() {
			checkAnswerFits(t, none, other, false)
			checkAnswerFits(t, other, none, false)
		}
	}
	for _, m := range append(wrongMedia(), audio()) {
		tooMany := slices.Repeat([]impl.Media{m}, impl.MaxMedia+1)
		checkAnswerFits(t, tooMany, tooMany, false)
		checkAnswerFits(t, tooMany, tooMany[:impl.MaxMedia], false)
		checkAnswerFits(t, tooMany[:impl.MaxMedia], tooMany, false)
	}
}

// Promise 12.
func TestSomeAnswersThatFitAndOthers(t *testing.T) {
	for _, c := range []struct {
		offer  string
		answer string
		want   bool
	}{
		{"audio 5000 both opus pcm", "audio 7000 both opus pcm", true},
		{"audio 5000 both opus pcm", "audio 7000 both pcm opus", true},
		{"audio 5000 both opus pcm", "audio 7000 none pcm", true},
		{"audio 5000 both opus pcm", "audio 7000 both opus g7", false},
		{"audio 5000 both opus pcm", "audio 7000 both g7 pcm", false},
		{"audio 5000 both opus", "audio 7000 both opus pcm", false},
		{"audio 5000 both opus", "video 7000 both opus", false},
		{"audio 5000 both opus", "video 0 none opus", false},
		{"audio 0 both opus", "audio 7000 both opus", false},
		{"audio 0 both opus", "audio 7000 none opus", false},
		{"audio 0 both opus", "audio 0 none opus", true},
		{"audio 5000 send opus", "audio 7000 send opus", false},
		{"audio 5000 send opus", "audio 7000 hear opus", true},
		{"audio 5000 send opus", "audio 7000 both opus", false},
		{"audio 5000 hear opus", "audio 7000 hear opus", false},
		{"audio 5000 hear opus", "audio 7000 send opus", true},
		{"audio 5000 hear opus", "audio 7000 both opus", false},
		{"audio 5000 none opus", "audio 7000 none opus", true},
		{"audio 5000 none opus", "audio 7000 hear opus", false},
		{"audio 5000 none opus", "audio 7000 send opus", false},
		// Of what is refused only the kind matters.
		{"audio 5000 none opus", "audio 0 both pcm g7", true},
		{"audio 0 none opus", "audio 0 send pcm", true},
	} {
		offer, answer := mediaOf(c.offer), mediaOf(c.answer)
		checkAnswerFits(t, []impl.Media{offer}, []impl.Media{answer}, c.want)
		other, same := mediaOf("video 1 both vp8"), mediaOf("video 2 both vp8")
		checkAnswerFits(t, []impl.Media{offer, other}, []impl.Media{answer, same}, c.want)
		checkAnswerFits(t, []impl.Media{other, other, other, offer}, []impl.Media{same, same, same, answer}, c.want)
	}
}

// Promise 12.
func TestAllAnswersThatFitAndOthers(t *testing.T) {
	offers := offersToAnswer()
	for _, offer := range offers {
		for _, answer := range offers {
			checkAnswerFits(t, offer, answer, offerFitsByHand(offer, answer))
		}
	}
	some := someMedia()
	for _, offer := range some {
		for _, answer := range some {
			checkAnswerFits(t, []impl.Media{offer}, []impl.Media{answer}, mediaFitsByHand(offer, answer))
		}
	}
}

// Promise 12.
func TestCodesThatFit(t *testing.T) {
	lists := ordersOfCodes()
	for _, codes := range lists {
		offer := []impl.Media{withCodes(audio(), codes...)}
		for _, others := range lists {
			answer := []impl.Media{withCodes(audio(), others...)}
			checkAnswerFits(t, offer, answer, len(commonByHand(others, codes)) == len(others))
		}
	}
}

// Promise 12.
func TestAnswersOfOtherCountsDoNotFit(t *testing.T) {
	for _, offer := range offersToAnswer() {
		for place := range offer {
			fewer := slices.Delete(slices.Clone(offer), place, place+1)
			checkAnswerFits(t, allRefused(offer), allRefused(fewer), false)
			checkAnswerFits(t, allRefused(fewer), allRefused(offer), false)
			checkAnswerFits(t, allInWay(offer, true, true), allInWay(fewer, true, true), false)
		}
		if len(offer) > 0 {
			checkAnswerFits(t, offer, nil, false)
			checkAnswerFits(t, nil, offer, false)
			checkAnswerFits(t, nil, allRefused(offer), false)
		}
	}
}

// Promise 12.
func TestAlteredAnswers(t *testing.T) {
	for _, offer := range someOffers() {
		for _, own := range someOffers() {
			answer := impl.AnswerOffer(offer, own)
			for place, m := range answer {
				for _, other := range alteredMedia(m) {
					altered := slices.Clone(answer)
					altered[place] = other
					checkAnswerFits(t, offer, altered, offerFitsByHand(offer, altered))
				}
			}
		}
	}
}

// alteredMedia returns valid media that differ from others in one part each.
func alteredMedia(m impl.Media) []impl.Media {
	list := append(eachWay(m), withKind(m, "other"), withPort(m, 0), withPort(m, 1), withPort(m, impl.MaxPort))
	for place := range m.Codes {
		codes := slices.Clone(m.Codes)
		codes[place] = "other"
		list = append(list, withCodes(m, codes...), withCodes(m, m.Codes[place]), withCodes(m, m.Codes[:place+1]...))
	}
	if len(m.Codes) < impl.MaxCodes {
		list = append(list, withCodes(m, append(slices.Clone(m.Codes), "other")...), withCodes(m, append([]string{"other"}, m.Codes...)...))
	}
	return list
}

// Promise 13.
func TestOffersAnsweredByThemselves(t *testing.T) {
	for _, offer := range append(validOffers(), offersToAnswer()...) {
		answer := impl.AnswerOffer(offer, offer)
		checkAnswerFits(t, offer, answer, true)
		for k, m := range answer {
			// Each is answered by itself, even if its kind comes several times.
			if got, want := mediaByHand(m), answerMediaByHand(offer[k], offer[k]); got != want {
				t.Errorf("the answer to %q by itself has %q, not %q", offerByHand(offer), got, want)
			}
			if (m.Port == 0) != (offer[k].Port == 0) {
				t.Errorf("the answer to %q by itself is %q", offerByHand(offer), offerByHand(answer))
			}
		}
		if len(answer) != len(offer) {
			t.Errorf("the answer to %q by itself has %d media", offerByHand(offer), len(answer))
		}
	}
}

// Promise 13.
func TestSomeOffersAnsweredByThemselves(t *testing.T) {
	offer := offerOf("audio 5000 both opus pcm", "video 0 both vp8", "text 7 send t1", "slides 65535 hear a b c d")
	checkAnswerOffer(t, offer, offer, "audio 5000 both opus pcm", "video 0 none vp8", "text 7 none t1", "slides 65535 none a b c d")
	checkAnswerOffer(t, allRefused(offer), allRefused(offer), "audio 0 none opus pcm", "video 0 none vp8", "text 0 none t1", "slides 0 none a b c d")
	checkAnswerOffer(t, allInWay(offer, true, true), offer, "audio 5000 both opus pcm", "video 0 none vp8", "text 7 send t1", "slides 65535 hear a b c d")
	same := offerOf("audio 1 both a", "audio 0 both b", "audio 2 both c", "audio 3 both d")
	checkAnswerOffer(t, same, same, "audio 1 both a", "audio 0 none b", "audio 2 both c", "audio 3 both d")
}

// Promise 75.
func TestOffersThatSendAndHearAllFitThemselves(t *testing.T) {
	for _, offer := range append(validOffers(), offersToAnswer()...) {
		checkAnswerFits(t, offer, offer, offerFitsByHand(offer, offer))
		for _, itself := range [][]impl.Media{allInWay(offer, true, true), allRefused(offer), allInWay(allRefused(offer), true, true), allInWay(allRefused(offer), false, false)} {
			checkAnswerFits(t, itself, itself, true)
		}
		// What is refused may be in any way, if all others are sent and heard.
		for chosen := 0; chosen < 1<<len(offer); chosen++ {
			mixed := allInWay(offer, true, true)
			for k := range mixed {
				if chosen>>k&1 == 1 {
					mixed[k] = withPort(offer[k], 0)
				}
			}
			checkAnswerFits(t, mixed, mixed, true)
		}
	}
	checkAnswerFits(t, nil, nil, true)
	checkAnswerFits(t, []impl.Media{}, nil, true)
	checkAnswerFits(t, nil, []impl.Media{}, true)
}

// Promise 75.
func TestOffersThatOnlySendOrHearDoNotFitThemselves(t *testing.T) {
	for _, offer := range someOffers() {
		for place, m := range offer {
			if m.Port == 0 {
				continue
			}
			itself := allInWay(offer, true, true)
			for _, way := range eachWay(m) {
				itself[place] = way
				checkAnswerFits(t, itself, itself, way.Sends == way.Hears)
			}
		}
	}
}

// Promise 75.
func TestRefusingAllIsAlwaysAnAnswer(t *testing.T) {
	for _, offer := range append(validOffers(), offersToAnswer()...) {
		refused := allRefused(offer)
		checkAnswerFits(t, offer, refused, true)
		for _, way := range eachWay(audio()) {
			checkAnswerFits(t, offer, allInWay(refused, way.Sends, way.Hears), true)
			checkAnswerFits(t, allInWay(offer, way.Sends, way.Hears), refused, true)
		}
		for k := range refused {
			refused[k] = withCodes(refused[k], "other", "codes")
		}
		checkAnswerFits(t, offer, refused, true)
		// The kinds are those of the offer, though, in its order.
		for k := range refused {
			altered := slices.Clone(refused)
			altered[k].Kind = "other"
			checkAnswerFits(t, offer, altered, false)
		}
		slices.Reverse(refused)
		checkAnswerFits(t, offer, refused, offerFitsByHand(offer, refused))
	}
}

// Promise 74, and the general rules.
func TestCommonCodesShareNoMemory(t *testing.T) {
	lists := append(orders([]string{"opus", "pcm", "g7"}), []string{"a", "a"}, []string{"", "x"}, differentCodes(9), append(differentCodes(9), "opus"))
	for _, a := range lists {
		for _, b := range lists {
			checkApart(t, a, markedCode, markedLine, func(list []string) []string { return impl.CommonCodes(list, b) })
			checkApart(t, b, markedCode, markedLine, func(list []string) []string { return impl.CommonCodes(a, list) })
		}
		checkApart(t, a, markedCode, markedLine, func(list []string) []string { return impl.CommonCodes(list, list) })
	}
}

// mediaToGuard are media, valid or not, that are answered in every way by each other, for the tests of memory.
func mediaToGuard() []impl.Media {
	return []impl.Media{audio(), withCodes(audio(), "pcm", "opus"), withCodes(audio(), "pcm"), withPort(audio(), 0), withKind(audio(), "video"), withCodes(audio(), "g7", "g8", "g9"), fullMedia(), {}, withCodes(audio(), "opus", "opus"), withCodes(audio(), differentCodes(impl.MaxCodes+1)...)}
}

// Promises 12 and 13, and the general rules.
func TestAnswersToMediaShareNoMemory(t *testing.T) {
	for _, offer := range mediaToGuard() {
		for _, own := range mediaToGuard() {
			checkApart(t, offer.Codes, markedCode, markedLine, func(codes []string) []string { return impl.AnswerMedia(withCodes(offer, codes...), own).Codes })
			checkApart(t, own.Codes, markedCode, markedLine, func(codes []string) []string { return impl.AnswerMedia(offer, withCodes(own, codes...)).Codes })
		}
		checkApart(t, offer.Codes, markedCode, markedLine, func(codes []string) []string {
			return impl.AnswerMedia(withCodes(offer, codes...), withCodes(offer, codes...)).Codes
		})
	}
}

// Promises 12 and 13, and the general rules.
func TestAnswersToOffersShareNoMemory(t *testing.T) {
	for _, offer := range offersToGuard() {
		for _, own := range offersToGuard() {
			argument, other := roomyOffer(offer), roomyOffer(own)
			first, second := impl.AnswerOffer(argument, other), impl.AnswerOffer(argument, other)
			again := impl.AnswerOffer(offer, own)
			checkListsApart(t, first)
			checkOfferUnwritten(t, argument, offer)
			checkOfferUnwritten(t, other, own)
			overwriteOffer(argument)
			overwriteOffer(other)
			if !sameOffer(second, again) {
				t.Errorf("the answer to %s by %s shares memory, or differs: %s and %s", shownOffer(offer), shownOffer(own), shownOffer(second), shownOffer(again))
			}
		}
	}
}

// Promises 12, 13 and 75, and the general rules.
func TestOffersThatAreComparedAreNotWrittenTo(t *testing.T) {
	for _, offer := range offersToGuard() {
		itself := roomyOffer(offer)
		impl.AnswerFits(itself, itself)
		impl.AnswerOffer(itself, itself)
		checkOfferUnwritten(t, itself, offer)
		for _, answer := range append(offersToGuard(), allRefused(offer)) {
			argument, other := roomyOffer(offer), roomyOffer(answer)
			impl.AnswerFits(argument, other)
			checkOfferUnwritten(t, argument, offer)
			checkOfferUnwritten(t, other, answer)
		}
	}
}
