package tests

import (
	"fmt"
	"math"
	"regexp"
	"slices"
	"strconv"
	"strings"
	"testing"

	"loop.example/conferencehall/impl"
)

// linesOfMedia tells the lines of media apart from all others in another way than the program does, but for great ports and codes that come twice.
var linesOfMedia = regexp.MustCompile(`\A([a-z][a-z0-9]{0,9}) (0|[1-9][0-9]{0,4}) (both|send|hear|none)((?: [a-z][a-z0-9]{0,9}){1,4})\z`)

func audio() impl.Media {
	return impl.Media{Kind: "audio", Port: 5000, Sends: true, Hears: true, Codes: []string{"opus", "pcm"}}
}

// fullMedia have words and numbers of the greatest length everywhere.
func fullMedia() impl.Media {
	return impl.Media{Kind: "abcdefghij", Port: impl.MaxPort, Hears: true, Codes: []string{"zzzzzzzzzz", "a123456789", "abcdefghij", "zzzzzzzzzy"}}
}

func withCodes(m impl.Media, codes ...string) impl.Media {
	m.Codes = codes
	return m
}

func withKind(m impl.Media, kind string) impl.Media {
	m.Kind = kind
	return m
}

func withPort(m impl.Media, port int) impl.Media {
	m.Port = port
	return m
}

func withWay(m impl.Media, sends bool, hears bool) impl.Media {
	m.Sends, m.Hears = sends, hears
	return m
}

// eachWay returns media in all four ways: sent and heard, sent, heard, and neither.
func eachWay(m impl.Media) []impl.Media {
	return []impl.Media{withWay(m, true, true), withWay(m, true, false), withWay(m, false, true), withWay(m, false, false)}
}

func ports() []int {
	return []int{0, 1, 2, 9, 10, 11, 80, 99, 100, 999, 1000, 5000, 5060, 9999, 10000, 32767, 32768, 65533, impl.MaxPort - 1, impl.MaxPort}
}

func otherPorts() []int {
	return []int{-1, -2, -5000, -impl.MaxPort, -impl.MaxPort - 1, impl.MaxPort + 1, impl.MaxPort + 2, 70000, 99999, 100000, 2 * impl.MaxPort, impl.Great - 1, impl.Great, impl.Great + 1, math.MaxInt32, math.MinInt32, math.MaxInt, math.MinInt}
}

// codeLists are codes of every valid count; some look like other words of a line, or like parts of each other.
func codeLists() [][]string {
	return [][]string{
		{"a"}, {"opus"}, {"zzzzzzzzzz"}, {"both"}, {"none"}, {"audio"},
		{"opus", "pcm"}, {"pcm", "opus"}, {"a", "ab"}, {"ab", "a"}, {"a1", "a2"}, {"send", "hear"}, {"abcdefghij", "abcdefghi"},
		{"a", "b", "c"}, {"c", "b", "a"}, {"both", "send", "hear"}, {"aa", "a", "aaa"},
		{"a", "b", "c", "d"}, {"d", "c", "b", "a"}, {"both", "send", "hear", "none"}, {"audio", "video", "text", "data"}, {"a", "aa", "aaa", "aaaa"}, {"zzzzzzzzzz", "zzzzzzzzzy", "zzzzzzzzz", "z"},
	}
}

// codeListsThatRepeat are codes of which one comes twice or more, in all places where it may.
func codeListsThatRepeat() [][]string {
	var lists [][]string
	for _, codes := range codeLists() {
		for first := range codes {
			for second := first + 1; second < len(codes); second++ {
				repeated := slices.Clone(codes)
				repeated[second] = repeated[first]
				lists = append(lists, repeated)
			}
		}
	}
	return append(lists, []string{"a", "a", "a"}, []string{"a", "a", "b", "b"}, []string{"a", "b", "b", "a"}, []string{"a", "b", "a", "b"}, slices.Repeat([]string{"a"}, impl.MaxCodes))
}

// differentCodes returns so many codes, no two of which are the same.
func differentCodes(count int) []string {
	var codes []string
	for k := 0; k < count; k++ {
		codes = append(codes, "c"+strconv.Itoa(k))
	}
	return codes
}

// wrongCodes are codes of which exactly one is invalid, in each place, too many, none, and those that repeat one.
func wrongCodes() [][]string {
	lists := append([][]string{nil, {}}, codeListsThatRepeat()...)
	for _, none := range invalidWords() {
		for _, codes := range [][]string{{"a"}, {"a", "b"}, {"a", "b", "c"}, {"a", "b", "c", "d"}} {
			for place := range codes {
				replaced := slices.Clone(codes)
				replaced[place] = none
				lists = append(lists, replaced)
			}
		}
	}
	for _, count := range []int{impl.MaxCodes + 1, impl.MaxCodes + 2, 2 * impl.MaxCodes, 256, 257, 1000} {
		lists = append(lists, differentCodes(count), slices.Repeat([]string{"a"}, count), make([]string, count))
	}
	return lists
}

// someMedia are valid media of every way, refused ones and those that are none of their ways included.
func someMedia() []impl.Media {
	var list []impl.Media
	for _, codes := range codeLists() {
		list = append(list, eachWay(withCodes(audio(), codes...))...)
		list = append(list, eachWay(withPort(withCodes(audio(), codes...), 0))...)
	}
	for _, port := range ports() {
		list = append(list, eachWay(withPort(audio(), port))...)
	}
	for _, kind := range mediaKinds() {
		list = append(list, eachWay(withKind(audio(), kind))...)
	}
	return append(list, eachWay(fullMedia())...)
}

func mediaKinds() []string {
	return append(validWords(), "audio", "video", "text", "both", "send", "hear", "none", "opus")
}

// wrongMedia are media of which exactly one part is invalid, and the zero value.
func wrongMedia() []impl.Media {
	list := []impl.Media{{}, {Kind: "audio"}, {Kind: "audio", Port: 5000}, {Codes: []string{"a"}}, {Port: 5000, Codes: []string{"a"}}}
	for _, none := range invalidWords() {
		list = append(list, eachWay(withKind(audio(), none))...)
		list = append(list, eachWay(withKind(withPort(audio(), 0), none))...)
	}
	for _, port := range otherPorts() {
		list = append(list, eachWay(withPort(audio(), port))...)
	}
	for _, codes := range wrongCodes() {
		list = append(list, withCodes(audio(), codes...), withWay(withCodes(withPort(audio(), 0), codes...), false, false))
	}
	return list
}

// someOffers are valid offers of every count; kinds, ports and whole media may come twice.
func someOffers() [][]impl.Media {
	video := impl.Media{Kind: "video", Hears: true, Codes: []string{"vp8"}}
	text := impl.Media{Kind: "text", Port: 7, Codes: []string{"t1"}}
	return [][]impl.Media{
		nil, {}, {audio()}, {video}, {text}, {fullMedia()},
		{audio(), video}, {video, audio()}, {audio(), audio()}, {audio(), withCodes(audio(), "pcm")}, {audio(), withPort(audio(), 0)},
		{audio(), video, text}, {text, video, audio()}, {audio(), text, audio()}, eachWay(audio())[:3],
		{audio(), video, text, fullMedia()}, {fullMedia(), text, video, audio()}, eachWay(audio()), eachWay(video), eachWay(withPort(fullMedia(), 0)),
		slices.Repeat([]impl.Media{audio()}, impl.MaxMedia), slices.Repeat([]impl.Media{fullMedia()}, impl.MaxMedia),
	}
}

func validOffers() [][]impl.Media {
	offers := someOffers()
	for _, m := range someMedia() {
		offers = append(offers, []impl.Media{m}, []impl.Media{audio(), m}, []impl.Media{m, fullMedia(), audio()}, []impl.Media{fullMedia(), audio(), audio(), m})
	}
	return offers
}

// wrongOffers are offers of which exactly one media is not valid, in each place, and those of too many.
func wrongOffers() [][]impl.Media {
	var offers [][]impl.Media
	for _, none := range wrongMedia() {
		offers = append(offers, []impl.Media{none}, []impl.Media{none, none})
		offers = append(offers, replacedMedia([]impl.Media{audio(), fullMedia(), audio()}, none)...)
		offers = append(offers, replacedMedia([]impl.Media{audio(), fullMedia(), audio(), fullMedia()}, none)...)
	}
	for _, count := range []int{impl.MaxMedia + 1, impl.MaxMedia + 2, 2 * impl.MaxMedia, 256, 257, 1000} {
		offers = append(offers, slices.Repeat([]impl.Media{audio()}, count), slices.Repeat([]impl.Media{withPort(fullMedia(), 0)}, count), make([]impl.Media, count))
	}
	return offers
}

// replacedMedia returns an offer for each media, with another one in its place.
func replacedMedia(offer []impl.Media, m impl.Media) [][]impl.Media {
	var offers [][]impl.Media
	for place := range offer {
		replaced := slices.Clone(offer)
		replaced[place] = m
		offers = append(offers, replaced)
	}
	return offers
}

func sameMedia(a impl.Media, b impl.Media) bool {
	return a.Kind == b.Kind && a.Port == b.Port && a.Sends == b.Sends && a.Hears == b.Hears && slices.Equal(a.Codes, b.Codes)
}

func sameOffer(a []impl.Media, b []impl.Media) bool {
	return slices.EqualFunc(a, b, sameMedia)
}

// wayByHand finds the word for a way in a list, in which sent media stand before the others, and heard ones before the others in turn.
func wayByHand(sends bool, hears bool) string {
	place := 0
	if !sends {
		place += 2
	}
	if !hears {
		place++
	}
	return []string{"both", "send", "hear", "none"}[place]
}

// mediaByHand writes media, valid or not, as their line.
func mediaByHand(m impl.Media) string {
	return strings.Join(append([]string{m.Kind, strconv.Itoa(m.Port), wayByHand(m.Sends, m.Hears)}, m.Codes...), " ")
}

func offerByHand(offer []impl.Media) []string {
	var lines []string
	for _, m := range offer {
		lines = append(lines, mediaByHand(m))
	}
	return lines
}

// readMediaByHand returns the media that have a line, and whether there are any.
func readMediaByHand(s string) (impl.Media, bool) {
	parts := linesOfMedia.FindStringSubmatch(s)
	if parts == nil {
		return impl.Media{}, false
	}
	port, err := strconv.Atoi(parts[2])
	codes := strings.Fields(parts[4])
	distinct := slices.Clone(codes)
	slices.Sort(distinct)
	if err != nil || port > 65535 || len(slices.Compact(distinct)) != len(codes) {
		return impl.Media{}, false
	}
	m := impl.Media{Kind: parts[1], Port: port, Codes: codes}
	m.Sends = parts[3] == "both" || parts[3] == "send"
	m.Hears = parts[3] == "both" || parts[3] == "hear"
	return m, true
}

// readOfferByHand returns the offer that has some lines, and whether there is one.
func readOfferByHand(lines []string) ([]impl.Media, bool) {
	var offer []impl.Media
	for _, s := range lines {
		m, ok := readMediaByHand(s)
		if !ok {
			return nil, false
		}
		offer = append(offer, m)
	}
	return offer, len(lines) <= 4
}

// shownOffer returns the text of an offer for reports, with its texts quoted and cut.
func shownOffer(offer []impl.Media) string {
	var text strings.Builder
	fmt.Fprintf(&text, "%d media", len(offer))
	for k := 0; k < len(offer) && k < 6; k++ {
		m := offer[k]
		fmt.Fprintf(&text, " {%.20q %d %v %v %d: %.60q}", m.Kind, m.Port, m.Sends, m.Hears, len(m.Codes), m.Codes[:min(len(m.Codes), 6)])
	}
	return text.String()
}

func checkMedia(t *testing.T, m impl.Media, want bool) {
	t.Helper()
	if impl.MediaValid(m) != want {
		t.Errorf("MediaValid of %s is not %v", shownOffer([]impl.Media{m}), want)
	}
}

func checkOffer(t *testing.T, offer []impl.Media, want bool) {
	t.Helper()
	if impl.OfferValid(offer) != want {
		t.Errorf("OfferValid of %s is not %v", shownOffer(offer), want)
	}
}

func checkOfferLines(t *testing.T, offer []impl.Media, want []string) {
	t.Helper()
	if got := impl.OfferLines(offer); !slices.Equal(got, want) {
		t.Errorf("OfferLines of %s are %.200q, not %.200q", shownOffer(offer), got, want)
	}
}

func checkReadsOffer(t *testing.T, lines []string, want []impl.Media) {
	t.Helper()
	if got, ok := impl.ReadOffer(lines); !ok || !sameOffer(got, want) {
		t.Errorf("ReadOffer(%.100q) is %s and %v, not %s and true", lines, shownOffer(got), ok, shownOffer(want))
	}
}

func checkRefusesOffer(t *testing.T, lines []string) {
	t.Helper()
	if got, ok := impl.ReadOffer(lines); ok || len(got) != 0 {
		t.Errorf("ReadOffer(%.100q), of %d lines, is %s and %v, not nil and false", lines[:min(len(lines), 6)], len(lines), shownOffer(got), ok)
	}
}

// checkRefusesLine checks that a line is refused alone, and in each place among others that are lines of media.
func checkRefusesLine(t *testing.T, s string) {
	t.Helper()
	checkRefusesOffer(t, []string{s})
	for place := 0; place <= 2; place++ {
		checkRefusesOffer(t, slices.Insert([]string{"audio 5000 both opus pcm", "video 0 none vp8"}, place, s))
	}
}

// checkCanonicalOffer checks that lines are read exactly if they are those of an offer, and are those of the one read.
func checkCanonicalOffer(t *testing.T, lines ...string) {
	t.Helper()
	want, ok := readOfferByHand(lines)
	if !ok {
		checkRefusesOffer(t, lines)
		return
	}
	checkReadsOffer(t, lines, want)
	checkOfferLines(t, want, lines)
	checkOffer(t, want, true)
}

// mediaLinesToAlter are lines of media of every count of codes and every way, with the shortest and the longest words.
func mediaLinesToAlter() []string {
	return []string{"a 0 none b", "audio 5000 both opus pcm", "video 0 hear vp8", "text 7 send t1 t2 t3", "m 65535 send a b c d", mediaByHand(fullMedia()), "both 10 both both"}
}

func TestLimitsOfOffers(t *testing.T) {
	if impl.MaxPort != 65535 || impl.MaxMedia != 4 || impl.MaxCodes != 4 {
		t.Fatal("the limits are not those of the document")
	}
}

// Promise 11.
func TestLinesOfOffersCanBeRead(t *testing.T) {
	for _, offer := range validOffers() {
		lines := offerByHand(offer)
		checkOfferLines(t, offer, lines)
		checkReadsOffer(t, lines, offer)
		checkReadsOffer(t, impl.OfferLines(offer), offer)
	}
}

// Promise 11.
func TestLinesOfSomeOffers(t *testing.T) {
	lines := []string{"audio 5000 both opus pcm", "video 0 hear vp8", "text 7 none t1", "slides 65535 send a b c d"}
	offer := []impl.Media{
		{Kind: "audio", Port: 5000, Sends: true, Hears: true, Codes: []string{"opus", "pcm"}},
		{Kind: "video", Hears: true, Codes: []string{"vp8"}},
		{Kind: "text", Port: 7, Codes: []string{"t1"}},
		{Kind: "slides", Port: 65535, Sends: true, Codes: []string{"a", "b", "c", "d"}},
	}
	for count := range lines {
		checkOfferLines(t, offer[:count+1], lines[:count+1])
		checkReadsOffer(t, lines[:count+1], offer[:count+1])
		checkOfferLines(t, offer[count:], lines[count:])
		checkReadsOffer(t, lines[count:], offer[count:])
	}
}

// Promise 11.
func TestOffersOfNoMediaHaveNoLines(t *testing.T) {
	for _, offer := range [][]impl.Media{nil, {}} {
		checkOffer(t, offer, true)
		checkOfferLines(t, offer, nil)
	}
	for _, lines := range [][]string{nil, {}} {
		checkReadsOffer(t, lines, nil)
	}
}

// Promise 11.
func TestAllPortsOfOffers(t *testing.T) {
	for port := 0; port <= impl.MaxPort; port++ {
		m := withPort(audio(), port)
		checkOfferLines(t, []impl.Media{m}, []string{"audio " + strconv.Itoa(port) + " both opus pcm"})
		checkReadsOffer(t, []string{"audio " + strconv.Itoa(port) + " both opus pcm"}, []impl.Media{m})
		if t.Failed() {
			return
		}
	}
}

// Promise 11.
func TestWaysOfMedia(t *testing.T) {
	for word, m := range map[string]impl.Media{
		"both": {Kind: "audio", Port: 1, Sends: true, Hears: true, Codes: []string{"a"}},
		"send": {Kind: "audio", Port: 1, Sends: true, Codes: []string{"a"}},
		"hear": {Kind: "audio", Port: 1, Hears: true, Codes: []string{"a"}},
		"none": {Kind: "audio", Port: 1, Codes: []string{"a"}},
	} {
		checkOfferLines(t, []impl.Media{m}, []string{"audio 1 " + word + " a"})
		checkReadsOffer(t, []string{"audio 1 " + word + " a"}, []impl.Media{m})
		// A refused media keeps its way in its line, too.
		checkOfferLines(t, []impl.Media{withPort(m, 0)}, []string{"audio 0 " + word + " a"})
		checkReadsOffer(t, []string{"audio 0 " + word + " a"}, []impl.Media{withPort(m, 0)})
	}
}

// Promise 11.
func TestInvalidOffersHaveNoLines(t *testing.T) {
	for _, offer := range wrongOffers() {
		checkOfferLines(t, offer, nil)
		// Written by hand, some of them have the lines of another one, which is valid.
		checkCanonicalOffer(t, offerByHand(offer)...)
	}
}

// Promise 11.
func TestTheOrderOfMediaAndCodesIsKept(t *testing.T) {
	for _, codes := range codeLists() {
		for _, offer := range someOffers() {
			reversed := slices.Clone(offer)
			slices.Reverse(reversed)
			turned := slices.Clone(codes)
			slices.Reverse(turned)
			if len(reversed) > 0 {
				reversed[0] = withCodes(reversed[0], turned...)
			}
			checkOfferLines(t, reversed, offerByHand(reversed))
			checkReadsOffer(t, offerByHand(reversed), reversed)
		}
	}
}

// Promise 71.
func TestValidMedia(t *testing.T) {
	for _, m := range someMedia() {
		checkMedia(t, m, true)
	}
}

// Promise 71.
func TestInvalidMedia(t *testing.T) {
	for _, m := range wrongMedia() {
		checkMedia(t, m, false)
	}
}

// Promise 71.
func TestMediaHaveCodes(t *testing.T) {
	for _, m := range someMedia() {
		for _, codes := range [][]string{nil, {}, {""}, {"", ""}} {
			none := withCodes(m, codes...)
			checkMedia(t, none, false)
			checkMedia(t, withPort(none, 0), false)
			checkOfferLines(t, []impl.Media{none}, nil)
		}
		line := strings.TrimSuffix(mediaByHand(withCodes(m)), " ")
		for _, s := range []string{line, line + " ", line + "  "} {
			checkRefusesLine(t, s)
		}
	}
}

// Promise 71.
func TestRefusedMediaAreValid(t *testing.T) {
	for _, m := range someMedia() {
		for _, refused := range eachWay(withPort(m, 0)) {
			checkMedia(t, refused, true)
			checkOffer(t, []impl.Media{refused}, true)
			checkReadsOffer(t, impl.OfferLines([]impl.Media{refused}), []impl.Media{refused})
		}
	}
}

// Promise 71.
func TestCountsOfCodes(t *testing.T) {
	for count := 0; count <= 300; count++ {
		m := withCodes(audio(), differentCodes(count)...)
		checkMedia(t, m, count >= 1 && count <= impl.MaxCodes)
		checkCanonicalOffer(t, mediaByHand(m))
		if count > impl.MaxCodes {
			checkRefusesLine(t, mediaByHand(m))
		}
	}
}

// Promise 71.
func TestCodesComeOnce(t *testing.T) {
	for _, codes := range codeListsThatRepeat() {
		for _, m := range eachWay(withCodes(audio(), codes...)) {
			checkMedia(t, m, false)
			checkOffer(t, []impl.Media{m}, false)
			checkOfferLines(t, []impl.Media{audio(), m}, nil)
			checkRefusesLine(t, mediaByHand(m))
		}
	}
	// Other media of the offer may have the same codes, and a kind may be a code.
	checkOffer(t, []impl.Media{audio(), withKind(audio(), "video")}, true)
	checkMedia(t, withCodes(audio(), "audio"), true)
}

// Promise 71.
func TestPortsAroundTheLimits(t *testing.T) {
	for _, limit := range []int{0, impl.MaxPort} {
		for port := limit - 300; port <= limit+300; port++ {
			m := withPort(audio(), port)
			checkMedia(t, m, port >= 0 && port <= impl.MaxPort)
			checkCanonicalOffer(t, mediaByHand(m))
		}
	}
	for _, port := range otherPorts() {
		checkMedia(t, withPort(audio(), port), false)
		checkOfferLines(t, []impl.Media{withPort(audio(), port)}, nil)
		checkRefusesLine(t, mediaByHand(withPort(audio(), port)))
	}
}

// Promise 71.
func TestWordsOfMedia(t *testing.T) {
	for b := 0; b < 256; b++ {
		first := strings.Contains(letters, oneByte(b))
		later := strings.Contains(letters+digits, oneByte(b))
		checkMedia(t, withKind(audio(), oneByte(b)), first)
		checkMedia(t, withKind(audio(), "a"+oneByte(b)), later)
		for place := range impl.MaxCodes {
			codes := []string{"aa", "bb", "cc", "dd"}
			codes[place] = oneByte(b)
			checkMedia(t, withCodes(audio(), codes...), first)
			codes[place] = "x" + oneByte(b)
			checkMedia(t, withCodes(audio(), codes...), later)
		}
	}
	for length := 0; length <= 300; length++ {
		word := strings.Repeat("a", length)
		checkMedia(t, withKind(audio(), word), length >= 1 && length <= impl.MaxWord)
		checkMedia(t, withCodes(audio(), "b", word), length >= 1 && length <= impl.MaxWord)
		checkCanonicalOffer(t, mediaByHand(withKind(audio(), word)))
		checkCanonicalOffer(t, mediaByHand(withCodes(audio(), word, "b")))
	}
}

// Promise 72.
func TestValidOffers(t *testing.T) {
	for _, offer := range validOffers() {
		checkOffer(t, offer, true)
	}
}

// Promise 72.
func TestInvalidOffers(t *testing.T) {
	for _, offer := range wrongOffers() {
		checkOffer(t, offer, false)
	}
}

// Promise 72.
func TestOffersHaveValidMedia(t *testing.T) {
	some := []impl.Media{{}, withKind(audio(), ""), withKind(audio(), "Audio"), withPort(audio(), -1), withPort(audio(), impl.MaxPort+1), withCodes(audio()), withCodes(audio(), "a", "a"), withCodes(audio(), differentCodes(impl.MaxCodes+1)...)}
	for _, offer := range someOffers() {
		for _, none := range some {
			for place := 0; place <= len(offer); place++ {
				checkOffer(t, slices.Insert(slices.Clone(offer), place, none), false)
			}
			for _, replaced := range replacedMedia(offer, none) {
				checkOffer(t, replaced, false)
				checkOfferLines(t, replaced, nil)
			}
		}
	}
}

// Promise 72.
func TestPartsOfValidOffersAreValid(t *testing.T) {
	for _, offer := range validOffers() {
		for chosen := 0; chosen < 1<<len(offer); chosen++ {
			checkOffer(t, chosenMedia(offer, chosen), true)
		}
	}
}

// chosenMedia returns the media whose bits are set in a number.
func chosenMedia(offer []impl.Media, chosen int) []impl.Media {
	var part []impl.Media
	for k, m := range offer {
		if chosen>>k&1 == 1 {
			part = append(part, m)
		}
	}
	return part
}

// Promise 72.
func TestCountsOfMedia(t *testing.T) {
	for count := 0; count <= 300; count++ {
		for _, m := range []impl.Media{audio(), fullMedia(), withPort(audio(), 0)} {
			offer := slices.Repeat([]impl.Media{m}, count)
			checkOffer(t, offer, count <= impl.MaxMedia)
			checkCanonicalOffer(t, offerByHand(offer)...)
			if count > impl.MaxMedia {
				checkOfferLines(t, offer, nil)
				checkRefusesOffer(t, offerByHand(offer))
			}
		}
	}
}

// Promise 73.
func TestShortLinesOfOffersAreCanonical(t *testing.T) {
	for _, s := range textsOver("ab01 ", 6) {
		checkCanonicalOffer(t, s)
	}
	for _, s := range textsOver("ab1A ", 5) {
		checkCanonicalOffer(t, "a 1 both"+s)
		checkCanonicalOffer(t, s+" 1 both a")
	}
	for _, s := range textsOver("0156 -", 6) {
		checkCanonicalOffer(t, "a "+s+" both b")
	}
	for _, s := range textsOver("bothsend ", 4) {
		checkCanonicalOffer(t, "a 1 "+s+" b")
	}
}

// Promise 73.
func TestAlteredLinesOfMediaAreCanonical(t *testing.T) {
	for _, s := range mediaLinesToAlter() {
		checkCanonicalOffer(t, s)
		for b := 0; b < 256; b++ {
			for place := 0; place <= len(s); place++ {
				checkCanonicalOffer(t, insertedAt(s, place, oneByte(b)))
			}
			for place := range s {
				checkCanonicalOffer(t, s[:place]+oneByte(b)+s[place+1:])
			}
		}
		for from := 0; from <= len(s); from++ {
			for to := from; to <= len(s); to++ {
				checkCanonicalOffer(t, s[from:to])
				checkCanonicalOffer(t, s[:from]+s[to:])
				checkCanonicalOffer(t, s[:to]+s[from:])
			}
		}
	}
}

// Promise 73.
func TestWordsOfLinesInOtherPlacesAreCanonical(t *testing.T) {
	words := []string{"audio", "opus", "both", "none", "5000", "0", ""}
	for _, line := range wordRuns(words, 6) {
		checkCanonicalOffer(t, line)
	}
}

// wordRuns returns the lines of all words in all orders, up to a count of words, with single spaces between them.
func wordRuns(words []string, most int) []string {
	var lines []string
	lasts := words
	for count := 1; count <= most; count++ {
		lines = append(lines, lasts...)
		var longer []string
		for _, line := range lasts {
			for _, word := range words {
				longer = append(longer, line+" "+word)
			}
		}
		lasts = longer
	}
	return lines
}

// Promise 73.
func TestAlteredLinesOfOffersAreCanonical(t *testing.T) {
	others := append(mediaLinesToAlter(), "", " ", "audio", "audio 5000", "audio 5000 both", "audio 5000 both ", "audio 5000 both a a", "Audio 5000 both a", "audio 70000 both a", "via: x")
	for _, offer := range someOffers() {
		lines := offerByHand(offer)
		for _, other := range others {
			for place := 0; place <= len(lines); place++ {
				checkCanonicalOffer(t, slices.Insert(slices.Clone(lines), place, other)...)
			}
			for place := range lines {
				replaced := slices.Clone(lines)
				replaced[place] = other
				checkCanonicalOffer(t, replaced...)
			}
		}
		for from := 0; from <= len(lines); from++ {
			for to := from; to <= len(lines); to++ {
				checkCanonicalOffer(t, lines[from:to]...)
				checkCanonicalOffer(t, slices.Delete(slices.Clone(lines), from, to)...)
				checkCanonicalOffer(t, slices.Insert(slices.Clone(lines), to, lines[from:to]...)...)
			}
		}
		if len(lines) > 1 {
			checkRefusesOffer(t, []string{strings.Join(lines, "\n")})
			checkRefusesOffer(t, []string{strings.Join(lines, " ")})
		}
	}
}

// Promise 73.
func TestSpacesInLinesOfMediaAreRefused(t *testing.T) {
	for _, m := range someMedia() {
		line := mediaByHand(m)
		for _, s := range []string{line + " ", line + "  ", " " + line, "  " + line, " " + line + " "} {
			checkRefusesLine(t, s)
		}
		for place := range line {
			if line[place] != ' ' {
				continue
			}
			// Without the space, two codes may be one word, which is read as such.
			checkCanonicalOffer(t, line[:place]+line[place+1:])
			for _, other := range []string{"  ", "   ", "\t", "\n", "\r\n", "\x00", "\u00a0", ",", ", ", " ,", ":", "_", "\t "} {
				checkRefusesLine(t, line[:place]+other+line[place+1:])
			}
		}
	}
}

// Promise 73.
func TestPortsWrittenOtherwiseAreRefused(t *testing.T) {
	for _, m := range someMedia() {
		port := strconv.Itoa(m.Port)
		for _, other := range []string{"0" + port, "00" + port, "+" + port, "-" + port, " " + port, port + ".", port + ".0", port + ",", "0x" + port, port + "a", "a" + port, strings.Repeat("0", 100) + port, ""} {
			checkRefusesLine(t, strings.Replace(mediaByHand(m), " "+port+" ", " "+other+" ", 1))
		}
	}
	for _, other := range []string{
		"00", "-0", "-1", "0x5", "5e0", "1e3", "1_0", "1,000", "five", "a", "A", "٥", "both", "5000/2",
		"65536", "65537", "70000", "99999", "100000", "131071", "131072", "999999", "1000000", "1000001", "1065535",
		"2147483648", "4294967296", "4294967297", "9223372036854775807", "9223372036854775808", "18446744073709551616", "18446744073709551621", "36893488147419103237", strings.Repeat("1", 100000),
	} {
		checkRefusesLine(t, "audio "+other+" both opus")
	}
}

// Promise 73.
func TestOtherWaysAreRefused(t *testing.T) {
	others := []string{"", "some", "all", "any", "no", "yes", "true", "0", "1", "Both", "SEND", "sendrecv", "sendonly", "recvonly", "inactive", "receive", "sends", "hears", "sendhear", "opus", "a"}
	for _, way := range []string{"both", "send", "hear", "none"} {
		others = append(others, strings.ToUpper(way), strings.ToUpper(way[:1])+way[1:], way+"s", way+way, "x"+way, way+"1", way+":", way+"\x00", way[1:]+way[:1])
		for end := 0; end < len(way); end++ {
			others = append(others, way[:end], way[end+1:], way[:end]+way[end+1:])
		}
		for _, other := range []string{"both", "send", "hear", "none"} {
			others = append(others, way[:2]+other[2:], way+","+other)
		}
	}
	for _, other := range others {
		if slices.Contains([]string{"both", "send", "hear", "none"}, other) {
			continue
		}
		for _, rest := range []string{" opus", " opus pcm", " a b c d"} {
			checkRefusesLine(t, "audio 5000 "+other+rest)
			checkRefusesLine(t, "audio 0 "+other+rest)
		}
	}
}

// Promise 73.
func TestKindsAndCodesThatAreNoWordsAreRefused(t *testing.T) {
	for _, none := range invalidWords() {
		for _, line := range []string{none + " 5000 both opus", none + " 0 none opus pcm"} {
			checkRefusesLine(t, line)
		}
		// With a space between them, two codes may be meant, which are read as such.
		checkCanonicalOffer(t, "audio 5000 both "+none)
		checkCanonicalOffer(t, "audio 5000 both "+none+" opus")
		checkCanonicalOffer(t, "audio 5000 both opus pcm g711 "+none)
	}
}

// Promise 73.
func TestLinesOfFewerWordsAreRefused(t *testing.T) {
	for _, line := range mediaLinesToAlter() {
		words := strings.Split(line, " ")
		for count := 0; count <= 3; count++ {
			checkRefusesLine(t, strings.Join(words[:count], " "))
			checkRefusesLine(t, strings.Join(words[:count], " ")+" ")
		}
		for place := 0; place < 3; place++ {
			checkRefusesLine(t, strings.Join(slices.Delete(slices.Clone(words), place, place+1), " "))
		}
	}
	for _, line := range []string{"", " ", "  ", "   ", "    ", "     ", "audio", "5000", "both", "audio 5000", "audio both", "audio both opus", "5000 both opus", "audio 5000 opus", "audio 5000 opus pcm", "audio opus both 5000"} {
		checkRefusesLine(t, line)
	}
}

// Promise 73.
func TestLongLinesOfOffersAreRefused(t *testing.T) {
	word := strings.Repeat("a", 100000)
	for _, line := range []string{
		word, strings.Repeat(" ", 100000), strings.Repeat("a ", 100000), strings.Repeat(" a", 100000), word + " 1 both a", "a 1 " + word + " a", "a 1 both " + word, "a " + strings.Repeat("0", 100000) + "1 both a",
		"a 1 both" + strings.Repeat(" a", 100000), "a 1 both a" + strings.Repeat(" ", 100000), "a" + strings.Repeat(" ", 100000) + "1 both a", strings.Repeat("a 1 both b ", 10000), "a 1 both " + strings.Join(differentCodes(10000), " "),
	} {
		checkRefusesLine(t, line)
	}
	for _, count := range []int{impl.MaxMedia + 1, 256, 257, 100000} {
		checkRefusesOffer(t, slices.Repeat([]string{"a 1 both b"}, count))
		checkRefusesOffer(t, make([]string, count))
	}
}

// The marks are no valid values, so that what is written behind the end of a list cannot be taken for a part of it.
const markedCode = "MARKED"

func markedMedia() impl.Media {
	return impl.Media{Kind: markedCode, Port: -7, Codes: []string{markedCode}}
}

// roomyOffer returns an offer with marks behind the ends of all its lists.
func roomyOffer(offer []impl.Media) []impl.Media {
	list := roomy(offer, markedMedia())
	for k := range list {
		list[k].Codes = roomy(list[k].Codes, markedCode)
	}
	return list
}

// checkOfferUnwritten checks that an argument that roomyOffer made of an offer still holds it, and the marks behind all ends.
func checkOfferUnwritten(t *testing.T, argument []impl.Media, offer []impl.Media) {
	t.Helper()
	if want := roomy(offer, markedMedia()); !sameOffer(argument[:cap(argument)], want[:cap(want)]) {
		t.Errorf("the argument %s was written to: it is %s now", shownOffer(offer), shownOffer(argument[:cap(argument)]))
		return
	}
	for k := range offer {
		checkUnwritten(t, argument[k].Codes, offer[k].Codes, markedCode)
	}
}

// offersToGuard are offers of every kind, valid or not, for the tests of memory.
func offersToGuard() [][]impl.Media {
	offers := append(someOffers(), []impl.Media{{}}, []impl.Media{audio(), withCodes(audio(), "a", "a")}, []impl.Media{withCodes(fullMedia(), "a", "b", "c", "d", "e")}, []impl.Media{withCodes(audio()), audio()})
	return append(offers, []impl.Media{withKind(audio(), "A"), audio()}, []impl.Media{audio(), withPort(audio(), -1)}, slices.Repeat([]impl.Media{audio()}, impl.MaxMedia+1))
}

// Promises 11, 71 and 72, and the general rules.
func TestOffersAreNotWrittenTo(t *testing.T) {
	for _, offer := range offersToGuard() {
		argument := roomyOffer(offer)
		for _, m := range argument {
			impl.MediaValid(m)
		}
		impl.OfferValid(argument)
		checkOfferUnwritten(t, argument, offer)
		lines := impl.OfferLines(argument)
		want := slices.Clone(lines)
		again := impl.OfferLines(argument)
		overwrite(lines, markedLine)
		checkOfferUnwritten(t, argument, offer)
		overwrite(argument, markedMedia())
		if !slices.Equal(again, want) {
			t.Errorf("two results of %s share memory, or differ: %.200q and %.200q", shownOffer(offer), want, again)
		}
	}
}

// copiedOffer returns an offer in memory of its own.
func copiedOffer(offer []impl.Media) []impl.Media {
	list := slices.Clone(offer)
	for k := range list {
		list[k].Codes = slices.Clone(list[k].Codes)
	}
	return list
}

// overwriteOffer writes marks to all lists of an offer, and behind their ends.
func overwriteOffer(offer []impl.Media) {
	for k := range offer {
		overwrite(offer[k].Codes, markedCode)
	}
	overwrite(offer, markedMedia())
}

// checkListsApart overwrites the lists of a result one after the other, and checks that none shares memory with another one.
func checkListsApart(t *testing.T, offer []impl.Media) {
	t.Helper()
	before, want := copiedOffer(offer), copiedOffer(offer)
	for k := range offer {
		overwrite(offer[k].Codes, markedCode)
		overwrite(want[k].Codes, markedCode)
		if !sameOffer(offer, want) {
			t.Errorf("the result %s has lists that share memory: it became %s", shownOffer(before), shownOffer(offer))
		}
	}
	overwrite(offer, markedMedia())
}

// Promises 11 and 73, and the general rules.
func TestReadOffersShareNoMemory(t *testing.T) {
	var lists [][]string
	for _, offer := range offersToGuard() {
		lists = append(lists, offerByHand(offer))
	}
	for _, lines := range append(lists, nil, []string{""}, []string{"audio 5000 both opus", "video"}, []string{"audio 5000 both opus", "video 5 some vp8"}) {
		checkReadOfferApart(t, lines)
		for place := range lines {
			checkApart(t, lines, markedLine, markedCode, func(list []string) []string {
				offer, _ := impl.ReadOffer(list)
				if place >= len(offer) {
					return nil
				}
				return offer[place].Codes
			})
		}
	}
}

// checkReadOfferApart checks that no list of an offer that was read shares memory with another one of it, with one that was read from the same lines, or with the lines.
func checkReadOfferApart(t *testing.T, lines []string) {
	t.Helper()
	argument := roomy(lines, markedLine)
	first, _ := impl.ReadOffer(argument)
	second, _ := impl.ReadOffer(argument)
	checkListsApart(t, first)
	checkUnwritten(t, argument, lines, markedLine)
	overwrite(argument, markedLine)
	if again, _ := impl.ReadOffer(lines); !sameOffer(second, again) {
		t.Errorf("two results of ReadOffer(%.200q) share memory, or differ: %s and %s", lines, shownOffer(second), shownOffer(again))
	}
}
