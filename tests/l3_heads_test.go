package tests

import (
	"regexp"
	"slices"
	"strings"
	"testing"

	"loop.example/conferencehall/impl"
)

// linesOfHeads tells the lines of heads apart from all others in another way than the program does.
var linesOfHeads = regexp.MustCompile(`\A([a-z][a-z0-9]{0,9}): ((?:[!-~](?:[ -~]{0,58}[!-~])?)?)\z`)

// The marks are no valid values, so that what is written behind the end of a list cannot be taken for a part of it.
var markedHead = impl.Head{Name: "MARKED", Line: " marked "}

const markedLine = " marked "

// linesWithColons are lines of heads that look like heads, or like parts of them.
func linesWithColons() []string {
	return []string{":", "::", ": :", ":a", "a:", "a:b", "a: b", ": b", "via: x y", "sip:ann@hall", "a: b: c:", strings.Repeat(":", impl.MaxLine)}
}

func headLinesToUse() []string {
	return append(validLines(), linesWithColons()...)
}

func invalidLines() []string {
	return []string{
		" ", "  ", " a", "a ", " a ", "\n", "a\n", "\na", "a\nb", "\t", "a\tb", "\r", "\x00", "a\x00b", "\x1f", "\x7f", "a\x7f", "\x80", "\xff", "é", "a\u00a0b",
		strings.Repeat("a", impl.MaxLine+1), "a" + strings.Repeat(" ", impl.MaxLine-1) + "b", strings.Repeat("a", 1000), strings.Repeat(" ", impl.MaxLine),
	}
}

// headsOf returns heads of names, each with another line.
func headsOf(names ...string) []impl.Head {
	lines := []string{"one", "two", "", "a: b", "five", "six", strings.Repeat("7", impl.MaxLine), "~", "nine", "ten"}
	var list []impl.Head
	for k, name := range names {
		list = append(list, impl.Head{Name: name, Line: lines[k%len(lines)]})
	}
	return list
}

func equalHeads(count int, h impl.Head) []impl.Head {
	return slices.Repeat([]impl.Head{h}, count)
}

// someHeads are valid heads of every count: without a name that comes twice, and with names that come twice or more.
func someHeads() [][]impl.Head {
	return [][]impl.Head{
		nil, {},
		headsOf("a"), headsOf("zzzzzzzzzz"), {{Name: "via"}}, {{Name: "via", Line: "via"}}, {{Name: "to", Line: "to: to"}},
		headsOf("a", "b"), headsOf("b", "a"), headsOf("via", "via"), headsOf("a", "ab"), headsOf("ab", "a"), {{Name: "a"}, {Name: "a"}},
		headsOf("from", "via", "via"), headsOf("via", "from", "via"), headsOf("via", "via", "from"), headsOf("via", "via", "via"),
		headsOf("a", "b", "c", "d"), headsOf("a", "b", "b", "a"), headsOf("a", "b", "a", "b"),
		headsOf("via", "from", "to", "call", "cseq"), headsOf("x", "x", "y", "x", "y"), headsOf("z9", "z", "z8", "z", "z9", "z"),
		headsOf("a", "b", "c", "d", "e", "f", "g"), headsOf("a", "a", "a", "a", "a", "a", "b"),
		headsOf("a", "b", "c", "d", "e", "f", "g", "h"), headsOf("a", "b", "c", "d", "a", "b", "c", "d"), headsOf("a", "b", "c", "d", "e", "f", "g", "g"),
		headsOf("abcdefghij", "abcdefghi", "abcdefghik", "abcdefghij", "a123456789", "a", "a1", "abcdefghij"),
		equalHeads(impl.MaxHeads, impl.Head{Name: "via", Line: "x"}), equalHeads(impl.MaxHeads, impl.Head{Name: "abcdefghij", Line: strings.Repeat("~", impl.MaxLine)}),
	}
}

// validHeadLists are some heads, and one alone with each name and line.
func validHeadLists() [][]impl.Head {
	lists := someHeads()
	for _, name := range validWords() {
		for _, line := range headLinesToUse() {
			lists = append(lists, []impl.Head{{Name: name, Line: line}})
		}
	}
	return lists
}

// invalidHeadLists are heads of which exactly one is invalid, in each place, and too many heads.
func invalidHeadLists() [][]impl.Head {
	lists := [][]impl.Head{{{}}, {{}, {}}, equalHeads(impl.MaxHeads, impl.Head{})}
	for _, none := range invalidWords() {
		lists = append(lists, replacedHeads(headsOf("a"), impl.Head{Name: none, Line: "x"})...)
		lists = append(lists, replacedHeads(headsOf("a", "b", "a"), impl.Head{Name: none})...)
	}
	for _, none := range invalidLines() {
		lists = append(lists, replacedHeads(headsOf("a"), impl.Head{Name: "a", Line: none})...)
		lists = append(lists, replacedHeads(headsOf("a", "b", "a"), impl.Head{Name: "a", Line: none})...)
	}
	full := headsOf("a", "b", "c", "d", "e", "f", "g", "h")
	lists = append(lists, replacedHeads(full, impl.Head{Line: "x"})...)
	lists = append(lists, replacedHeads(full, impl.Head{Name: "a", Line: "x "})...)
	for _, count := range []int{impl.MaxHeads + 1, impl.MaxHeads + 2, 2 * impl.MaxHeads, 1000} {
		lists = append(lists, equalHeads(count, impl.Head{Name: "a", Line: "x"}), equalHeads(count, impl.Head{Name: "a"}), equalHeads(count, impl.Head{}))
	}
	return append(lists, append(headsOf("i"), full...), append(headsOf("A"), full...))
}

// replacedHeads returns a list for each head, with another one in its place.
func replacedHeads(list []impl.Head, h impl.Head) [][]impl.Head {
	var lists [][]impl.Head
	for place := range list {
		replaced := slices.Clone(list)
		replaced[place] = h
		lists = append(lists, replaced)
	}
	return lists
}

// linesByHand writes heads, valid or not, as their lines.
func linesByHand(list []impl.Head) []string {
	var lines []string
	for _, h := range list {
		lines = append(lines, h.Name+": "+h.Line)
	}
	return lines
}

// setByHand returns heads with a line for a name.
func setByHand(list []impl.Head, name string, line string) []impl.Head {
	place := slices.IndexFunc(list, func(h impl.Head) bool { return h.Name == name })
	if place < 0 {
		return append(slices.Clone(list), impl.Head{Name: name, Line: line})
	}
	set := slices.Clone(list)
	set[place].Line = line
	return set
}

func hasName(list []impl.Head, name string) bool {
	return slices.ContainsFunc(list, func(h impl.Head) bool { return h.Name == name })
}

func checkHeads(t *testing.T, list []impl.Head, want bool) {
	t.Helper()
	if impl.HeadsValid(list) != want {
		t.Errorf("HeadsValid(%.200q), of %d heads, is not %v", list, len(list), want)
	}
}

func checkHeadLines(t *testing.T, list []impl.Head, want []string) {
	t.Helper()
	if got := impl.HeadLines(list); !slices.Equal(got, want) {
		t.Errorf("HeadLines(%.200q), of %d heads, are %.200q, not %.200q", list, len(list), got, want)
	}
}

func checkReadsHeads(t *testing.T, lines []string, want []impl.Head) {
	t.Helper()
	if got, ok := impl.ReadHeads(lines); !ok || !slices.Equal(got, want) {
		t.Errorf("ReadHeads(%.200q) are %.200q and %v, not %.200q and true", lines, got, ok, want)
	}
}

func checkRefusesHeads(t *testing.T, lines []string) {
	t.Helper()
	if got, ok := impl.ReadHeads(lines); ok || len(got) != 0 {
		t.Errorf("ReadHeads(%.200q), of %d lines, are %.200q and %v, not nil and false", lines, len(lines), got, ok)
	}
}

func checkFirst(t *testing.T, list []impl.Head, name string, want string, wantOK bool) {
	t.Helper()
	if got, ok := impl.FirstHead(list, name); got != want || ok != wantOK {
		t.Errorf("FirstHead(%.200q, %.40q) is %.200q and %v, not %.200q and %v", list, name, got, ok, want, wantOK)
	}
}

func checkSet(t *testing.T, list []impl.Head, name string, line string, want []impl.Head, wantOK bool) {
	t.Helper()
	if got, ok := impl.SetHead(list, name, line); ok != wantOK || !slices.Equal(got, want) {
		t.Errorf("SetHead(%.200q, %.40q, %.80q) are %.200q and %v, not %.200q and %v", list, name, line, got, ok, want, wantOK)
	}
}

// checkCanonicalHeads checks that lines are read exactly if they are those of heads, and are those of the ones read.
func checkCanonicalHeads(t *testing.T, lines []string) {
	t.Helper()
	var want []impl.Head
	for _, s := range lines {
		parts := linesOfHeads.FindStringSubmatch(s)
		if parts == nil || len(lines) > impl.MaxHeads {
			checkRefusesHeads(t, lines)
			return
		}
		want = append(want, impl.Head{Name: parts[1], Line: parts[2]})
	}
	checkReadsHeads(t, lines, want)
	checkHeadLines(t, want, lines)
}

func TestLimitOfHeads(t *testing.T) {
	if impl.MaxHeads != 8 {
		t.Fatal("the limit is not that of the document")
	}
}

// Promise 3.
func TestLinesOfHeadsCanBeRead(t *testing.T) {
	for _, list := range validHeadLists() {
		lines := linesByHand(list)
		checkHeadLines(t, list, lines)
		checkReadsHeads(t, lines, list)
		checkReadsHeads(t, impl.HeadLines(list), list)
	}
}

// Promise 3.
func TestNoHeadsHaveNoLines(t *testing.T) {
	for _, list := range [][]impl.Head{nil, {}} {
		checkHeads(t, list, true)
		checkHeadLines(t, list, nil)
	}
	for _, lines := range [][]string{nil, {}} {
		checkReadsHeads(t, lines, nil)
	}
}

// Promise 3.
func TestInvalidHeadsHaveNoLines(t *testing.T) {
	for _, list := range invalidHeadLists() {
		checkHeadLines(t, list, nil)
		checkRefusesHeads(t, linesByHand(list))
	}
}

// Promise 4.
func TestSetHeadsAreThere(t *testing.T) {
	for _, list := range someHeads() {
		for _, name := range append(validWords(), "via", "from", "to", "b", "x", "i") {
			if !hasName(list, name) && len(list) == impl.MaxHeads {
				continue
			}
			for _, line := range headLinesToUse() {
				checkHeadIsSet(t, list, name, line)
			}
		}
	}
}

func checkHeadIsSet(t *testing.T, list []impl.Head, name string, line string) {
	t.Helper()
	want := setByHand(list, name, line)
	checkSet(t, list, name, line, want, true)
	set, _ := impl.SetHead(list, name, line)
	checkHeads(t, set, true)
	checkFirst(t, set, name, line, true)
	checkSet(t, set, name, line, set, true)
	if more := len(set) - len(list); (more == 1) == hasName(list, name) || more < 0 || more > 1 {
		t.Errorf("SetHead(%.200q, %.40q, %.80q) has %d heads more", list, name, line, more)
	}
}

// Promise 4.
func TestOnlyTheFirstHeadOfANameIsSet(t *testing.T) {
	list := headsOf("via", "from", "via", "to", "via")
	checkSet(t, list, "via", "new", []impl.Head{{Name: "via", Line: "new"}, list[1], list[2], list[3], list[4]}, true)
	checkSet(t, list[1:], "via", "new", []impl.Head{list[1], {Name: "via", Line: "new"}, list[3], list[4]}, true)
	checkSet(t, list, "to", "", []impl.Head{list[0], list[1], list[2], {Name: "to"}, list[4]}, true)
	checkSet(t, list, "vi", "new", append(slices.Clone(list), impl.Head{Name: "vi", Line: "new"}), true)
	checkSet(t, list, "via1", "new", append(slices.Clone(list), impl.Head{Name: "via1", Line: "new"}), true)
}

// Promise 4.
func TestHeadsAreSetUpToMaxHeads(t *testing.T) {
	var list []impl.Head
	for k := 0; k < impl.MaxHeads; k++ {
		name := letters[k : k+1]
		want := append(slices.Clone(list), impl.Head{Name: name, Line: name})
		checkSet(t, list, name, name, want, true)
		list = want
	}
	for k := 0; k < len(letters); k++ {
		name := letters[k : k+1]
		if k >= impl.MaxHeads {
			checkSet(t, list, name, "x", list, false)
			checkSet(t, list, name, "", list, false)
			continue
		}
		checkSet(t, list, name, "x", setByHand(list, name, "x"), true)
	}
	checkSet(t, equalHeads(impl.MaxHeads, impl.Head{Name: "a", Line: "x"}), "b", "x", equalHeads(impl.MaxHeads, impl.Head{Name: "a", Line: "x"}), false)
}

// Promise 4.
func TestInvalidHeadsAreNotSet(t *testing.T) {
	for _, list := range someHeads() {
		for _, none := range invalidWords() {
			checkSet(t, list, none, "x", list, false)
			checkSet(t, list, none, "", list, false)
			checkSet(t, list, none, " ", list, false)
		}
		for _, none := range invalidLines() {
			for _, name := range []string{"a", "via", "b", "z", "zzzzzzzzzz", "new"} {
				checkSet(t, list, name, none, list, false)
			}
		}
	}
}

// Promise 4.
func TestNothingIsSetInInvalidHeads(t *testing.T) {
	for _, list := range invalidHeadLists() {
		for _, name := range []string{"a", "b", "i", "new", "", "A", "9a", strings.Repeat("a", impl.MaxWord+1)} {
			for _, line := range []string{"x", "", " ", strings.Repeat("a", impl.MaxLine+1)} {
				checkSet(t, list, name, line, nil, false)
			}
		}
	}
	// The heads would be valid if the only one that is not were replaced, but they are not valid before.
	checkSet(t, []impl.Head{{Name: "a", Line: " "}}, "a", "x", nil, false)
}

// Promise 55.
func TestValidHeads(t *testing.T) {
	for _, list := range validHeadLists() {
		checkHeads(t, list, true)
	}
	for count := 0; count <= impl.MaxHeads; count++ {
		checkHeads(t, equalHeads(count, impl.Head{Name: "via", Line: "x"}), true)
	}
}

// Promise 55.
func TestInvalidHeads(t *testing.T) {
	for _, list := range invalidHeadLists() {
		checkHeads(t, list, false)
	}
}

// Promise 55.
func TestHeadsHaveNames(t *testing.T) {
	for _, list := range someHeads() {
		for place := 0; place <= len(list); place++ {
			for _, line := range headLinesToUse() {
				checkHeads(t, slices.Insert(slices.Clone(list), place, impl.Head{Line: line}), false)
			}
		}
		for place := range list {
			nameless := slices.Clone(list)
			nameless[place].Name = ""
			checkHeads(t, nameless, false)
		}
	}
}

// Promise 55.
func TestPartsOfValidHeadsAreValid(t *testing.T) {
	for _, list := range validHeadLists() {
		for from := 0; from <= len(list); from++ {
			for to := from; to <= len(list); to++ {
				checkHeads(t, list[from:to], true)
			}
		}
		for chosen := 0; chosen < 1<<len(list); chosen++ {
			checkHeads(t, chosenHeads(list, chosen), true)
		}
	}
}

// chosenHeads returns the heads whose bits are set in a number.
func chosenHeads(list []impl.Head, chosen int) []impl.Head {
	var part []impl.Head
	for k, h := range list {
		if chosen>>k&1 == 1 {
			part = append(part, h)
		}
	}
	return part
}

// Promise 55.
func TestLengthsOfHeads(t *testing.T) {
	for length := 0; length <= 2*impl.MaxLine; length++ {
		word, line := strings.Repeat("a", length), strings.Repeat("~", length)
		checkHeads(t, []impl.Head{{Name: word}}, length >= 1 && length <= impl.MaxWord)
		checkHeads(t, []impl.Head{{Name: "a", Line: line}}, length <= impl.MaxLine)
		checkCanonicalHeads(t, []string{word + ": "})
		checkCanonicalHeads(t, []string{"a: " + line})
		checkCanonicalHeads(t, []string{"abcdefghij: " + line})
	}
	for count := 0; count <= 3*impl.MaxHeads; count++ {
		checkHeads(t, equalHeads(count, impl.Head{Name: "a", Line: "x"}), count <= impl.MaxHeads)
		checkCanonicalHeads(t, slices.Repeat([]string{"a: x"}, count))
	}
}

// Promise 55.
func TestBytesOfHeads(t *testing.T) {
	for b := 0; b < 256; b++ {
		one := oneByte(b)
		checkHeads(t, []impl.Head{{Name: one, Line: "x"}}, strings.Contains(letters, one))
		checkHeads(t, []impl.Head{{Name: "a" + one, Line: "x"}}, strings.Contains(letters+digits, one))
		checkHeads(t, []impl.Head{{Name: "a", Line: one}}, b > 32 && b <= 126)
		checkHeads(t, []impl.Head{{Name: "a", Line: "x" + one + "y"}}, b >= 32 && b <= 126)
	}
}

// Promise 56.
func TestShortLinesOfHeadsAreCanonical(t *testing.T) {
	for _, s := range textsOver("az9: A~", 5) {
		checkCanonicalHeads(t, []string{s})
	}
	for _, s := range textsOver("a: ", 8) {
		checkCanonicalHeads(t, []string{s})
	}
}

// Promise 56.
func TestAlteredLinesOfHeadsAreCanonical(t *testing.T) {
	longest := "abcdefghij: " + strings.Repeat("~", impl.MaxLine)
	for _, s := range []string{"a: ", "a: b", "via: x y", "from: sip:a@b", "a1: b: c", "a: :", longest} {
		checkCanonicalHeads(t, []string{s})
		for b := 0; b < 256; b++ {
			for place := 0; place <= len(s); place++ {
				checkCanonicalHeads(t, []string{insertedAt(s, place, oneByte(b))})
			}
			for place := range s {
				checkCanonicalHeads(t, []string{s[:place] + oneByte(b) + s[place+1:]})
			}
		}
		for from := 0; from <= len(s); from++ {
			for to := from; to <= len(s); to++ {
				checkCanonicalHeads(t, []string{s[from:to]})
				checkCanonicalHeads(t, []string{s[:from] + s[to:]})
			}
		}
	}
}

// otherLines are lines of no head.
func otherLines() []string {
	return []string{
		"", " ", ":", ": ", "a", "via", "a b", "a:", "a:b", "a :b", "a : b", " a: b", "a:  b", "a:  ", "a: b ", "a:\tb", "a:\u00a0b", ": b", ":: b", "a:: b", "a;: b",
		"A: b", "aB: b", "1: b", "1a: b", "a-b: c", "a b: c", "a@: b", "é: b", "a: b\n", "a: b\r\n", "a: \n", "\na: b", "a: b\x00", "\x00a: b", "a: b\nc: d", "a = b", "a. b", "a; b",
		"abcdefghijk: x", "a: " + strings.Repeat("x", impl.MaxLine+1), strings.Repeat("a", 100000), strings.Repeat(":", 100000), strings.Repeat(": ", 100000), "a: " + strings.Repeat(" ", 100000),
	}
}

// Promise 56.
func TestOtherLinesAreRefused(t *testing.T) {
	for _, other := range otherLines() {
		checkRefusesHeads(t, []string{other})
		checkRefusesHeads(t, []string{other, other})
		for _, list := range someHeads() {
			lines := linesByHand(list)
			for place := 0; place <= len(lines); place++ {
				checkRefusesHeads(t, slices.Insert(slices.Clone(lines), place, other))
			}
			for place := range lines {
				replaced := slices.Clone(lines)
				replaced[place] = other
				checkRefusesHeads(t, replaced)
			}
		}
	}
}

// Promise 56.
func TestLinesWithColonsAreRead(t *testing.T) {
	for _, line := range linesWithColons() {
		checkCanonicalHeads(t, []string{"a: " + line})
		checkReadsHeads(t, []string{"a: " + line}, []impl.Head{{Name: "a", Line: line}})
	}
}

// Promise 56.
func TestNamesThatComeTwiceAreRead(t *testing.T) {
	lines := []string{"from: sip:a@b", "via: x y", "via: ", "via: x y", "from: sip:a@b"}
	checkCanonicalHeads(t, lines)
	checkReadsHeads(t, lines, []impl.Head{{Name: "from", Line: "sip:a@b"}, {Name: "via", Line: "x y"}, {Name: "via"}, {Name: "via", Line: "x y"}, {Name: "from", Line: "sip:a@b"}})
}

// Promise 56.
func TestTooManyLinesOfHeadsAreRefused(t *testing.T) {
	for _, count := range []int{impl.MaxHeads + 1, impl.MaxHeads + 2, 2 * impl.MaxHeads, 256, 257, 100000} {
		checkRefusesHeads(t, slices.Repeat([]string{"a: x"}, count))
		checkRefusesHeads(t, slices.Repeat([]string{"a: "}, count))
		checkRefusesHeads(t, make([]string, count))
	}
}

// Promise 57.
func TestFirstHeadsComeFirst(t *testing.T) {
	for _, list := range validHeadLists() {
		for place, h := range list {
			if !hasName(list[:place], h.Name) {
				checkFirst(t, list, h.Name, h.Line, true)
			}
		}
	}
	checkFirst(t, headsOf("via", "from", "via"), "via", "one", true)
	checkFirst(t, headsOf("from", "via", "to", "via"), "via", "two", true)
	checkFirst(t, []impl.Head{{Name: "via"}, {Name: "via", Line: "x"}}, "via", "", true)
	checkFirst(t, []impl.Head{{Name: "via", Line: "x"}, {Name: "via"}}, "via", "x", true)
}

// Promise 57.
func TestOtherNamesHaveNoFirstHead(t *testing.T) {
	for _, list := range validHeadLists() {
		for _, name := range append(append(validWords(), invalidWords()...), "via", "vi", "via1", "Via", "via:", " via", "one", "MARKED") {
			if !hasName(list, name) {
				checkFirst(t, list, name, "", false)
			}
		}
	}
}

// Promise 57.
func TestInvalidHeadsHaveNoFirstHead(t *testing.T) {
	for _, list := range invalidHeadLists() {
		for _, name := range append(invalidWords(), "a", "b", "c", "h", "i", "new") {
			checkFirst(t, list, name, "", false)
		}
		for _, h := range list[:min(len(list), 2*impl.MaxHeads)] {
			checkFirst(t, list, h.Name, "", false)
		}
	}
}

// namesAndLinesToSet are valid and invalid names, each with a valid and an invalid line.
func namesAndLinesToSet() []impl.Head {
	var list []impl.Head
	for _, name := range []string{"a", "via", "new", "", "A"} {
		list = append(list, impl.Head{Name: name, Line: "set"}, impl.Head{Name: name}, impl.Head{Name: name, Line: " "})
	}
	return list
}

// Promises 3, 4 and 57, and the general rules.
func TestHeadsAreNotWrittenTo(t *testing.T) {
	for _, list := range append(someHeads(), invalidHeadLists()...) {
		argument := roomy(list, markedHead)
		impl.HeadsValid(argument)
		impl.FirstHead(argument, "a")
		impl.FirstHead(argument, "")
		checkUnwritten(t, argument, list, markedHead)
		checkApart(t, list, markedHead, markedLine, impl.HeadLines)
		for _, h := range namesAndLinesToSet() {
			checkApart(t, list, markedHead, markedHead, func(l []impl.Head) []impl.Head {
				set, _ := impl.SetHead(l, h.Name, h.Line)
				return set
			})
		}
	}
}

// Promises 3 and 56, and the general rules.
func TestLinesOfHeadsAreNotWrittenTo(t *testing.T) {
	for _, list := range append(someHeads(), invalidHeadLists()...) {
		checkApart(t, linesByHand(list), markedLine, markedHead, func(l []string) []impl.Head {
			heads, _ := impl.ReadHeads(l)
			return heads
		})
	}
	for _, other := range otherLines() {
		checkApart(t, []string{"a: b", other, "a: b"}, markedLine, markedHead, func(l []string) []impl.Head {
			heads, _ := impl.ReadHeads(l)
			return heads
		})
	}
}
