package tests

import (
	"regexp"
	"slices"
	"strconv"
	"strings"
	"testing"

	"loop.example/g00911/impl"
)

// back makes an affix at the end of words.
func back(name, when, strip, add string) impl.Affix {
	return impl.Affix{Name: name, When: when, Strip: strip, Add: add}
}

// front makes an affix at the beginning of words.
func front(name, when, strip, add string) impl.Affix {
	return impl.Affix{Name: name, Front: true, When: when, Strip: strip, Add: add}
}

// someAffixes are valid affixes that reach the limits, and others.
func someAffixes() []impl.Affix {
	all := []impl.Affix{
		back("plural", ".y", "y", "ies"), front("re", "t", "", "re"), front("un", "", "", "un"), back("er", "t", "", "er"),
		back("a", "", "", "z"), back("a", "", "z", ""), front("a", "", "", "z"), front("a", "", "z", ""),
		back("abcdefghijkl", "abcd", "abcd", "efgh"), front("abcdefghijkl", "abcd", "abcd", "efgh"),
		back("a-1", "....", "wxyz", "stuv"), front("a-1", "....", "wxyz", "stuv"), back("z99", ".", "", "aaaa"), back("z--", "....", "aaaa", ""),
		back("s", "y", "s", "t"), front("s", "y", "s", "t"), back("part", "ab", "cab", "d"), front("part", "ab", "abc", "d"),
		back("grow", "", "a", "aa"), back("shrink", "", "aa", "a"), front("swap", "a.", "ab", "ba"),
		back("one", "b", "ab", "b"), front("one", "b", "ba", "b"), back("dots", "a..b", "b", "bb"),
	}
	next := numbers(6)
	part := func(letters string, most uint32) string {
		var letter []byte
		for range next(most + 1) {
			letter = append(letter, letters[next(uint32(len(letters)))])
		}
		return string(letter)
	}
	for range 300 {
		a := impl.Affix{Name: "x", Front: next(2) == 0, When: part("ab.", 4), Strip: part("ab", 4), Add: part("ab", 4)}
		if a.Strip != a.Add {
			all = append(all, a)
		}
	}
	return all
}

// notAffixes are affixes that are not valid, each for one reason or another.
func notAffixes() []impl.Affix {
	all := []impl.Affix{
		{}, {Front: true}, {Name: "a"}, {Name: "a", Front: true}, back("", "", "", "s"), back("abcdefghijklm", "", "", "s"),
		back("A", "", "", "s"), back("1", "", "", "s"), back("-", "", "", "s"), back("-a", "", "", "s"), back("a b", "", "", "s"),
		back("a.", "", "", "s"), back("a\n", "", "", "s"), back("é", "", "", "s"), back("a\xff", "", "", "s"), back(" a", "", "", "s"),
		back("a", "", "s", "s"), back("a", "s", "s", "s"), back("a", "s", "", ""), front("a", "s", "s", "s"), back("a", "", "abcd", "abcd"),
		back("a", ".....", "", "s"), back("a", "aaaaa", "", "s"), back("a", "", "aaaaa", "s"), back("a", "", "", "aaaaa"),
		front("a", ".....", "", "s"), front("a", "", "aaaaa", "s"), front("a", "", "s", "aaaaa"), back("a", "", "aaaaa", "bbbbb"),
		back("a", "", "", "."), back("a", "", ".", ""), back("a", "", "", "a."), back("a", "", ".a", "a"), back("a", "", ".", ".."),
		back("a", "é", "", "s"), back("a", "", "é", "s"), back("a", "", "", "é"), back("a", "\xff", "", "s"), back("a", "", "\xff", "s"),
		back("a", "", "", "\xff"), back("a", "?", "", "s"), back("a", "*", "", "s"), back("a", "-", "", "s"), back("a", "", "-", "s"),
		back("a", "", "s", "-"), back("a", "", "-", ""), back("a", " ", "", "s"), back("a", "a b", "", "s"), back("a", "", " ", "s"),
		back("a", "", "s", " "), back("a", "", "s", "\n"), back("a", "\n", "s", ""), back("a", "A", "", "s"), back("a", "", "S", "s"),
		back("a", "", "s", "S"), back("a", "\u212a", "", "s"), back("a", "", "", "ſ"), back("a", "1", "", "s"), back("a", "", "", "s1"),
		back("a", strings.Repeat(".", 5000), "", "s"), back("a", "", strings.Repeat("s", 5000), "s"), back("a", "", "", strings.Repeat("s", 5000)),
		back(strings.Repeat("a", 5000), "", "", "s"),
	}
	return all
}

// someLongWords are words of two letters and more.
func someLongWords() []string {
	var all []string
	for _, word := range someWords() {
		if len(word) > 1 {
			all = append(all, word)
		}
	}
	return append(all, "city", "boy", "test", "retest", "cities", "at", "ay", "cab", "abc", "abcd", "xabcd", "abcdx", "aaaaaaaaaaab",
		"baaaaaaaaaaa", "wxyzwxyzwxyz", "zzzzzzzzzzzy", "stuvstuv")
}

// notLongWords are strings that are no words, and words of one letter.
func notLongWords() []string {
	all := notWords()
	for _, c := range alphabet {
		all = append(all, string(c))
	}
	return all
}

// wordsOver returns all words of the letters with so many of them.
func wordsOver(letters string, least, most int) []string {
	var all []string
	longest := []string{""}
	for n := range most {
		var longer []string
		for _, word := range longest {
			for _, c := range letters {
				longer = append(longer, word+string(c))
			}
		}
		longest = longer
		if n+1 >= least {
			all = append(all, longer...)
		}
	}
	return all
}

// affixPattern matches the words that a valid affix matches, as far as When goes; a period means the same in both.
func affixPattern(a impl.Affix) *regexp.Regexp {
	if a.Front {
		return regexp.MustCompile(`\A` + a.When + `[a-z]*\z`)
	}
	return regexp.MustCompile(`\A[a-z]*` + a.When + `\z`)
}

var longWord = regexp.MustCompile(`\A[a-z]{2,12}\z`)

// applied is ApplyAffix for a valid affix and a long word, by a regular expression.
func applied(a impl.Affix, pattern *regexp.Regexp, word string) coded[string] {
	there := strings.HasSuffix(word, a.Strip)
	if a.Front {
		there = strings.HasPrefix(word, a.Strip)
	}
	if !there || !pattern.MatchString(word) {
		return withCode("", impl.ErrNotFound)
	}
	result := word[:len(word)-len(a.Strip)] + a.Add
	if a.Front {
		result = a.Add + word[len(a.Strip):]
	}
	if !longWord.MatchString(result) {
		return withCode("", impl.ErrRange)
	}
	return withCode(result, impl.OK)
}

// told is an affix for messages.
func told(a impl.Affix) string {
	side := "back"
	if a.Front {
		side = "front"
	}
	return a.Name + " " + side + " " + strconv.Quote(a.When) + " " + strconv.Quote(a.Strip) + " " + strconv.Quote(a.Add)
}

func TestLimitsOfAffixes(t *testing.T) {
	same(t, "MaxPart", impl.MaxPart, 4)
	same(t, "MaxAffixes", impl.MaxAffixes, 12)
	same(t, "MaxStems", impl.MaxStems, 30)
	same(t, "MaxSteps", impl.MaxSteps, 2)
	same(t, "MaxDerived", impl.MaxDerived, 200)
}

func TestValidAffix(t *testing.T) {
	for _, a := range someAffixes() {
		same(t, "ValidAffix of "+told(a), impl.ValidAffix(a), true)
	}
	for _, a := range notAffixes() {
		same(t, "ValidAffix of "+told(a), impl.ValidAffix(a), false)
	}
}

// TestValidAffixByPattern puts odd strings into each field of an affix.
func TestValidAffixByPattern(t *testing.T) {
	name := regexp.MustCompile(`\A[a-z][a-z0-9-]{0,11}\z`)
	when := regexp.MustCompile(`\A[a-z.]{0,4}\z`)
	part := regexp.MustCompile(`\A[a-z]{0,4}\z`)
	texts := append(oddStrings(), ".", "..", "...", "....", ".....", "a...", "a....", "abcd", "abcde", "abcdefghijkl", "abcdefghijklm", "zz", "z")
	for _, s := range texts {
		for _, side := range []func(name, when, strip, add string) impl.Affix{back, front} {
			what := strconv.Quote(s)
			same(t, "name "+what, impl.ValidAffix(side(s, "", "", "zz")), name.MatchString(s))
			same(t, "When "+what, impl.ValidAffix(side("a", s, "", "zz")), when.MatchString(s))
			same(t, "Strip "+what, impl.ValidAffix(side("a", "", s, "zz")), part.MatchString(s) && s != "zz")
			same(t, "Add "+what, impl.ValidAffix(side("a", "", "zz", s)), part.MatchString(s) && s != "zz")
			same(t, "both "+what, impl.ValidAffix(side("a", "", s, s)), false)
		}
	}
}

func TestMatchesAffix(t *testing.T) {
	for _, c := range []struct {
		a    impl.Affix
		word string
		want bool
	}{
		{back("a", ".y", "y", "ies"), "city", true}, {back("a", ".y", "y", "ies"), "test", false}, {back("a", ".y", "y", "ies"), "by", true},
		{front("a", "t", "", "re"), "ta", true}, {front("a", "t", "", "re"), "set", false}, {front("a", "t", "", "re"), "at", false},
		{back("a", "t", "", "er"), "at", true}, {back("a", "t", "", "er"), "ta", false},
		{back("a", "", "", "s"), "at", true}, {back("a", "..", "", "s"), "at", true}, {back("a", "...", "", "s"), "at", false},
		{back("a", "....", "", "s"), "test", true}, {back("a", "....", "", "s"), "set", false}, {front("a", "...", "", "s"), "at", false},
		{front("a", "....", "", "s"), "test", true}, {front("a", "....", "", "s"), "set", false}, {front("a", "set", "", "s"), "set", true},
		{back("a", "at", "", "s"), "at", true}, {back("a", "cat", "", "s"), "at", false}, {back("a", ".at", "", "s"), "at", false},
		{back("a", "y", "s", "t"), "ays", false}, {back("a", "y", "s", "t"), "asy", false}, {front("a", "y", "s", "t"), "sya", false},
		{back("a", "s.", "s", "t"), "sass", true}, {back("a", "s.", "s", "t"), "sets", false}, {back("a", ".s", "s", "t"), "sets", true},
		{back("a", "....", "ity", ""), "city", true}, {back("a", "....", "ity", ""), "ity", false}, {back("a", "ty", "city", "x"), "city", true},
		{back("a", "ty", "ity", "x"), "city", true}, {back("a", "ci..", "ty", "x"), "city", true}, {back("a", "ci..", "ty", "x"), "pity", false},
		{front("a", "....", "cit", ""), "city", true}, {front("a", "....", "cit", ""), "cit", false}, {front("a", "ci", "city", "x"), "city", true},
		{front("a", "..ty", "ci", "x"), "city", true}, {front("a", "..ty", "ci", "x"), "cite", false}, {front("a", "..ty", "ci", "x"), "cityx", true},
		{back("a", "", "at", ""), "at", true}, {back("a", "", "t", ""), "at", true}, {back("a", "", "cat", "x"), "at", false},
		{back("a", "", "", "x"), "aaaaaaaaaaaa", true}, {front("a", "a.c.", "", "x"), "abcdefg", true}, {front("a", "a.d.", "", "x"), "abcdefg", false},
		{front("a", "", "a", "x"), "ba", false}, {back("a", "", "b", "x"), "ba", false}, {back("a", ".", "", "x"), "x", false},
	} {
		same(t, "MatchesAffix of "+told(c.a)+" and "+c.word, impl.MatchesAffix(c.a, c.word), c.want)
	}
	for _, a := range someAffixes() {
		for _, word := range notLongWords() {
			same(t, "MatchesAffix of "+told(a)+" and "+strconv.Quote(word), impl.MatchesAffix(a, word), false)
		}
	}
	for _, a := range notAffixes() {
		for _, word := range append(someLongWords(), "", "a", "A") {
			same(t, "MatchesAffix of "+told(a)+" and "+strconv.Quote(word), impl.MatchesAffix(a, word), false)
		}
	}
}

func TestApplyAffix(t *testing.T) {
	for _, c := range []struct {
		a          impl.Affix
		word, want string
		code       int64
	}{
		{back("plural", ".y", "y", "ies"), "city", "cities", impl.OK}, {back("plural", ".y", "y", "ies"), "by", "bies", impl.OK},
		{back("plural", ".y", "y", "ies"), "test", "", impl.ErrNotFound}, {front("re", "t", "", "re"), "test", "retest", impl.OK},
		{front("re", "t", "", "re"), "set", "", impl.ErrNotFound}, {back("er", "t", "", "er"), "test", "tester", impl.OK},
		{back("a", "", "st", ""), "test", "te", impl.OK}, {front("a", "", "te", ""), "test", "st", impl.OK},
		{front("a", "", "te", "ba"), "test", "bast", impl.OK}, {back("a", "", "st", "ba"), "test", "teba", impl.OK},
		{back("a", "", "test", "ba"), "test", "ba", impl.OK}, {front("a", "", "test", "ba"), "test", "ba", impl.OK},
		{back("a", "", "a", "b"), "aaa", "aab", impl.OK}, {front("a", "", "a", "b"), "aaa", "baa", impl.OK},
		{back("a", "", "", "abcd"), "abcd", "abcdabcd", impl.OK}, {front("a", "abcd", "abcd", "efgh"), "abcde", "efghe", impl.OK},
		{back("a", "....", "ity", ""), "icity", "ic", impl.OK}, {back("a", "....", "ity", "x"), "city", "cx", impl.OK},
		{back("a", "....", "ity", "x"), "ity", "", impl.ErrNotFound}, {front("a", "..ty", "ci", "ki"), "city", "kity", impl.OK},
		{back("a", "y", "s", "t"), "ays", "", impl.ErrNotFound}, {back("a", "", "abcd", ""), "bcd", "", impl.ErrNotFound},
		// Results that are too short.
		{back("a", "", "t", ""), "at", "", impl.ErrRange}, {front("a", "", "a", ""), "at", "", impl.ErrRange},
		{back("a", "", "at", ""), "at", "", impl.ErrRange}, {front("a", "", "at", ""), "at", "", impl.ErrRange},
		{back("a", "", "at", "b"), "at", "", impl.ErrRange}, {front("a", "", "at", "b"), "at", "", impl.ErrRange},
		{back("a", "....", "ity", ""), "city", "", impl.ErrRange}, {back("a", "", "abcd", ""), "xabcd", "", impl.ErrRange},
		{back("a", "", "abcd", ""), "xyabcd", "xy", impl.OK}, {back("a", "", "at", "bc"), "at", "bc", impl.OK},
		// Results that are too long.
		{back("a", "", "", "x"), "abcdefghijkl", "", impl.ErrRange}, {front("a", "", "", "x"), "abcdefghijkl", "", impl.ErrRange},
		{back("a", "", "", "x"), "abcdefghijk", "abcdefghijkx", impl.OK}, {front("a", "", "", "x"), "abcdefghijk", "xabcdefghijk", impl.OK},
		{back("a", "", "", "abcd"), "abcdefgh", "abcdefghabcd", impl.OK}, {back("a", "", "", "abcd"), "abcdefghi", "", impl.ErrRange},
		{back("a", ".y", "y", "ies"), "abcdefghijky", "", impl.ErrRange}, {back("a", ".y", "y", "ies"), "abcdefghijy", "", impl.ErrRange},
		{back("a", ".y", "y", "ies"), "abcdefghiy", "abcdefghiies", impl.OK}, {back("a", "", "l", "x"), "abcdefghijkl", "abcdefghijkx", impl.OK},
		{back("a", "", "l", "xy"), "abcdefghijkl", "", impl.ErrRange}, {front("a", "", "a", "xy"), "abcdefghijkl", "", impl.ErrRange},
		// An affix that does not match is told before a length.
		{back("a", "", "t", ""), "ab", "", impl.ErrNotFound}, {back("a", "z", "", "x"), "abcdefghijkl", "", impl.ErrNotFound},
	} {
		sameCoded(t, "ApplyAffix of "+told(c.a)+" to "+c.word, withCode(impl.ApplyAffix(c.a, c.word)), c.want, c.code)
	}
}

func TestUndoAffix(t *testing.T) {
	for _, c := range []struct {
		a          impl.Affix
		word, want string
		code       int64
	}{
		{back("plural", ".y", "y", "ies"), "cities", "city", impl.OK}, {back("plural", ".y", "y", "ies"), "bies", "by", impl.OK},
		{back("plural", ".y", "y", "ies"), "ies", "", impl.ErrNotFound}, {back("plural", "..y", "y", "ies"), "bies", "", impl.ErrNotFound},
		{back("plural", ".y", "y", "ies"), "city", "", impl.ErrNotFound}, {front("re", "t", "", "re"), "retest", "test", impl.OK},
		{front("re", "t", "", "re"), "reset", "", impl.ErrNotFound}, {front("re", "", "", "re"), "reset", "set", impl.OK},
		{front("re", "", "", "re"), "ret", "", impl.ErrNotFound}, {front("re", "", "", "re"), "re", "", impl.ErrNotFound},
		{front("re", "", "", "re"), "rere", "re", impl.OK}, {front("re", "", "", "re"), "tere", "", impl.ErrNotFound},
		{back("er", "t", "", "er"), "tester", "test", impl.OK}, {back("er", "t", "", "er"), "pacer", "", impl.ErrNotFound},
		{back("er", "", "", "er"), "ertest", "", impl.ErrNotFound}, {back("er", "", "", "er"), "er", "", impl.ErrNotFound},
		{back("a", "", "s", ""), "cat", "cats", impl.OK}, {back("a", "s", "s", ""), "cat", "cats", impl.OK}, {back("a", "t", "s", ""), "cat", "", impl.ErrNotFound},
		{back("a", "ts", "s", ""), "cat", "cats", impl.OK}, {front("a", "", "s", ""), "top", "stop", impl.OK}, {front("a", "s.o", "s", ""), "top", "stop", impl.OK},
		{front("a", "s.o", "s", ""), "tip", "", impl.ErrNotFound}, {back("a", "", "abcd", "x"), "xx", "xabcd", impl.OK},
		{back("a", "", "ab", "cd"), "cd", "ab", impl.OK}, {front("a", "", "ab", "cd"), "cd", "ab", impl.OK}, {back("a", "", "a", "cd"), "cd", "", impl.ErrNotFound},
		{back("a", "", "", "cd"), "cd", "", impl.ErrNotFound}, {back("a", "....", "b", "c"), "aaac", "aaab", impl.OK}, {back("a", "....", "b", "c"), "aac", "", impl.ErrNotFound},
		// The word before would be too long.
		{back("a", "", "x", ""), "abcdefghijkl", "", impl.ErrNotFound}, {back("a", "", "x", ""), "abcdefghijk", "abcdefghijkx", impl.OK},
		{front("a", "", "x", ""), "abcdefghijkl", "", impl.ErrNotFound}, {front("a", "", "x", ""), "abcdefghijk", "xabcdefghijk", impl.OK},
		{back("a", "", "wxyz", ""), "abcdefghi", "", impl.ErrNotFound}, {back("a", "", "wxyz", ""), "abcdefgh", "abcdefghwxyz", impl.OK},
		{back("a", "", "xy", "l"), "abcdefghijkl", "", impl.ErrNotFound}, {back("a", "", "x", "l"), "abcdefghijkl", "abcdefghijkx", impl.OK},
		{back("a", "", "", "l"), "abcdefghijkl", "abcdefghijk", impl.OK},
	} {
		sameCoded(t, "UndoAffix of "+told(c.a)+" from "+c.word, withCode(impl.UndoAffix(c.a, c.word)), c.want, c.code)
	}
}

// TestAffixErrors gives affixes that are not valid and strings that are no long words, also both together.
func TestAffixErrors(t *testing.T) {
	for _, a := range notAffixes() {
		for _, word := range append(notLongWords(), "at", "test", "sss", "abcdefghijkl") {
			what := told(a) + " and " + strconv.Quote(word)
			sameCoded(t, "ApplyAffix of "+what, withCode(impl.ApplyAffix(a, word)), "", impl.ErrInvalid)
			sameCoded(t, "UndoAffix of "+what, withCode(impl.UndoAffix(a, word)), "", impl.ErrInvalid)
		}
	}
	for _, a := range someAffixes()[:24] {
		for _, word := range notLongWords() {
			what := told(a) + " and " + strconv.Quote(word)
			sameCoded(t, "ApplyAffix of "+what, withCode(impl.ApplyAffix(a, word)), "", impl.ErrSyntax)
			sameCoded(t, "UndoAffix of "+what, withCode(impl.UndoAffix(a, word)), "", impl.ErrSyntax)
		}
	}
	// One letter and 13 letters that would be right with an affix are told as wrong words.
	sameCoded(t, "ApplyAffix to one letter", withCode(impl.ApplyAffix(back("a", "", "", "s"), "a")), "", impl.ErrSyntax)
	sameCoded(t, "UndoAffix from one letter", withCode(impl.UndoAffix(back("a", "", "at", ""), "c")), "", impl.ErrSyntax)
	sameCoded(t, "ApplyAffix to 13 letters", withCode(impl.ApplyAffix(back("a", "", "s", ""), "aaaaaaaaaaaas")), "", impl.ErrSyntax)
	sameCoded(t, "UndoAffix from 13 letters", withCode(impl.UndoAffix(back("a", "", "", "s"), "aaaaaaaaaaaas")), "", impl.ErrSyntax)
}

// TestAffixesUndone is the part of promise 4 on affixes: what they make is undone, and nothing else is.
func TestAffixesUndone(t *testing.T) {
	words := wordsOver("ab", 2, 9)
	for _, a := range someAffixes() {
		pattern := affixPattern(a)
		before := map[string]string{}
		for _, word := range words {
			want := applied(a, pattern, word)
			if got := withCode(impl.ApplyAffix(a, word)); got != want {
				t.Errorf("ApplyAffix of %s to %s: got %v, want %v", told(a), word, got, want)
			}
			if impl.MatchesAffix(a, word) != (want.code != impl.ErrNotFound) {
				t.Errorf("MatchesAffix of %s and %s: wrong", told(a), word)
			}
			if want.code == impl.OK {
				before[want.value] = word
				sameCoded(t, "UndoAffix of "+told(a), withCode(impl.UndoAffix(a, want.value)), word, impl.OK)
			}
		}
		if strings.Trim(a.Strip, "ab") != "" {
			continue
		}
		// The words before those of at most five letters are among the words that were tried.
		for _, word := range words[:60] {
			want := withCode(before[word], impl.OK)
			if want.value == "" {
				want.code = impl.ErrNotFound
			}
			if got := withCode(impl.UndoAffix(a, word)); got != want {
				t.Errorf("UndoAffix of %s from %s: got %v, want %v", told(a), word, got, want)
			}
		}
	}
}

// TestLongWordsUndone does so for words of all lengths.
func TestLongWordsUndone(t *testing.T) {
	words := someLongWords()
	for _, end := range []string{"", "a", "b", "ab", "ba", "abb", "abab", "bbaa"} {
		for n := range 13 - len(end) {
			if n+len(end) > 1 {
				words = append(words, strings.Repeat("a", n)+end, end+strings.Repeat("b", n))
			}
		}
	}
	for _, a := range someAffixes() {
		pattern := affixPattern(a)
		for _, word := range words {
			want := applied(a, pattern, word)
			sameCoded(t, "ApplyAffix of "+told(a)+" to "+word, withCode(impl.ApplyAffix(a, word)), want.value, want.code)
			if want.code == impl.OK {
				sameCoded(t, "UndoAffix of "+told(a)+" from "+want.value, withCode(impl.UndoAffix(a, want.value)), word, impl.OK)
			}
			if old, code := impl.UndoAffix(a, word); code == impl.OK {
				sameCoded(t, "ApplyAffix of "+told(a)+" to "+old, withCode(impl.ApplyAffix(a, old)), word, impl.OK)
			} else {
				sameCoded(t, "UndoAffix of "+told(a)+" from "+word, withCode(old, code), "", impl.ErrNotFound)
			}
		}
	}
}

// stem makes a stem.
func stem(word string, uses ...string) impl.Stem {
	return impl.Stem{Word: word, Uses: uses}
}

// derivation makes a derivation.
func derivation(word string, names ...string) impl.Derivation {
	return impl.Derivation{Stem: word, Affixes: names}
}

// manyAffixes returns n affixes a, b and so on, each of which adds its name.
func manyAffixes(n int) []impl.Affix {
	var all []impl.Affix
	for i := range n {
		all = append(all, back(alphabet[i:i+1], "", "", alphabet[i:i+1]))
	}
	return all
}

// manyStems returns n stems of three letters, aaa, aab and so on, with the same uses.
func manyStems(n int, uses ...string) []impl.Stem {
	var all []impl.Stem
	for i := range n {
		all = append(all, stem("a"+alphabet[i/26:i/26+1]+alphabet[i%26:i%26+1], uses...))
	}
	return all
}

// letters returns the names of the first n of manyAffixes.
func letters(n int) []string {
	return strings.Split(alphabet[:n], "")
}

// testGrammar has words that are derived in several ways.
func testGrammar() impl.Grammar {
	return impl.Grammar{
		Affixes: []impl.Affix{front("re", "", "", "re"), back("er", "t", "", "er")},
		Stems:   []impl.Stem{stem("an"), stem("test", "er", "re")},
	}
}

// cityGrammar has affixes that fail, some only behind others, and a stem that is derived from another one.
func cityGrammar() impl.Grammar {
	return impl.Grammar{
		Affixes: []impl.Affix{
			back("plural", ".y", "y", "ies"), back("of", "", "s", "sman"), back("s", "t", "", "s"), back("cut", "", "ty", ""), front("mid", "", "", "mid"),
		},
		Stems: []impl.Stem{
			stem("cities", "of"), stem("city", "cut", "mid", "of", "plural"), stem("longestwords", "cut", "mid", "s"), stem("test", "of", "plural", "s"), stem("ty", "cut", "mid"),
		},
	}
}

// validGrammars are grammars that reach the limits, and others.
func validGrammars() []impl.Grammar {
	one := []impl.Affix{back("s", "", "", "s")}
	all := []impl.Grammar{
		{}, {Affixes: one}, {Stems: []impl.Stem{stem("an")}}, {Affixes: one, Stems: []impl.Stem{stem("an", "s")}},
		{Affixes: one, Stems: []impl.Stem{stem("an"), stem("at", "s"), stem("zz")}}, testGrammar(), cityGrammar(),
		{Affixes: manyAffixes(12)}, {Stems: manyStems(30)}, {Affixes: manyAffixes(12), Stems: manyStems(30)},
		{Affixes: manyAffixes(12), Stems: manyStems(30, letters(12)...)}, {Affixes: manyAffixes(3), Stems: manyStems(20, letters(3)...)},
		{Affixes: manyAffixes(3), Stems: manyStems(21, letters(3)...)}, {Affixes: manyAffixes(2), Stems: manyStems(30, letters(2)...)},
		{Affixes: []impl.Affix{back("b", "", "", "s"), front("a", "", "", "s"), back("c", "....", "abcd", "s")}, Stems: []impl.Stem{stem("aa", "a", "b", "c")}},
		{Affixes: []impl.Affix{back("abcdefghijkl", "", "", "s"), back("a-1", "", "", "s"), back("a", "", "", "s")}, Stems: []impl.Stem{stem("abcdefghijkl", "a", "a-1", "abcdefghijkl")}},
		{Affixes: []impl.Affix{back("affix", "", "", "s"), back("stem", "", "", "s"), back("front", "", "", "s"), back("back", "", "", "s")}, Stems: []impl.Stem{stem("affix", "affix", "back"), stem("stem", "front", "stem")}},
	}
	next := numbers(7)
	affixes := someAffixes()
	for range 60 {
		var g impl.Grammar
		var names []string
		for i := range next(7) {
			a := affixes[next(uint32(len(affixes)))]
			a.Name = alphabet[i : i+1]
			g.Affixes = append(g.Affixes, a)
			names = append(names, a.Name)
		}
		for _, word := range []string{"aaaaaaaaaaaa", "aab", "ab", "aba", "abba", "ba", "bb", "bbabbabbab", "city", "test", "zz"} {
			if next(2) == 0 {
				continue
			}
			var uses []string
			for _, name := range names {
				if next(3) > 0 {
					uses = append(uses, name)
				}
			}
			g.Stems = append(g.Stems, stem(word, uses...))
		}
		for i := range g.Affixes {
			k := next(uint32(i + 1))
			g.Affixes[i], g.Affixes[k] = g.Affixes[k], g.Affixes[i]
		}
		all = append(all, g)
	}
	return all
}

// invalidGrammars are grammars that are not valid, each for one reason or another.
func invalidGrammars() []impl.Grammar {
	two := []impl.Affix{back("a", "", "", "s"), back("b", "", "", "s")}
	with := func(stems ...impl.Stem) impl.Grammar { return impl.Grammar{Affixes: two, Stems: stems} }
	all := []impl.Grammar{
		{Affixes: manyAffixes(13)}, {Affixes: manyAffixes(13), Stems: manyStems(3, letters(12)...)}, {Stems: manyStems(31)},
		{Affixes: manyAffixes(12), Stems: manyStems(31, letters(12)...)}, {Affixes: manyAffixes(26), Stems: manyStems(300)},
		{Affixes: []impl.Affix{two[0], two[0]}}, {Affixes: []impl.Affix{two[0], two[1], back("a", "t", "", "er")}},
		{Affixes: []impl.Affix{back("a", "", "", "s"), front("a", "", "", "s")}, Stems: []impl.Stem{stem("an", "a")}},
		with(stem("at"), stem("an")), with(stem("an"), stem("an")), with(stem("an"), stem("at"), stem("as")), with(stem("an", "a"), stem("an", "b")),
		with(stem("at"), stem("ata"), stem("at")), with(stem("b"), stem("cc")), with(stem("ab"), stem("b")), with(stem("abb"), stem("ab")),
		with(stem("an", "b", "a")), with(stem("an", "a", "a")), with(stem("an", "a", "b", "b")), with(stem("an", "a", "b", "a")), with(stem("an", "c")),
		with(stem("an", "a", "c")), with(stem("an", "a", "b", "c")), with(stem("an", "")), with(stem("an", "", "a")), with(stem("an", "A")),
		with(stem("an", "a ")), with(stem("an", "a b")), with(stem("an"), stem("at", "c")), {Stems: []impl.Stem{stem("an", "a")}},
		{Stems: []impl.Stem{stem("test", "er")}}, with(stem("an", make([]string, 5000)...)),
	}
	for _, word := range notLongWords() {
		all = append(all, with(stem(word)))
	}
	for _, a := range notAffixes() {
		all = append(all, impl.Grammar{Affixes: []impl.Affix{a}}, impl.Grammar{Affixes: []impl.Affix{two[1], a}, Stems: []impl.Stem{stem("an", "b")}})
	}
	return all
}

// equalGrammars compares grammars; nil and empty lists are equivalent.
func equalGrammars(a, b impl.Grammar) bool {
	if !slices.Equal(a.Affixes, b.Affixes) || len(a.Stems) != len(b.Stems) {
		return false
	}
	for i, s := range a.Stems {
		if s.Word != b.Stems[i].Word || !slices.Equal(s.Uses, b.Stems[i].Uses) {
			return false
		}
	}
	return true
}

// copied returns a deep copy of a grammar, where the lists have unused capacity that holds marks.
func copied(g impl.Grammar) impl.Grammar {
	h := impl.Grammar{Affixes: roomy(g.Affixes, impl.Affix{Name: "mark"}), Stems: roomy(g.Stems, stem("mark", "mark"))}
	for i := range h.Stems {
		h.Stems[i].Uses = roomy(h.Stems[i].Uses, "mark")
	}
	return h
}

// marked reports whether the unused capacity of a copied grammar still holds marks.
func marked(g impl.Grammar) bool {
	for _, s := range g.Stems {
		if !slices.Equal(s.Uses[len(s.Uses):len(s.Uses)+3], []string{"mark", "mark", "mark"}) {
			return false
		}
	}
	for _, s := range g.Stems[len(g.Stems) : len(g.Stems)+3] {
		if s.Word != "mark" || !slices.Equal(s.Uses, []string{"mark"}) {
			return false
		}
	}
	return !slices.ContainsFunc(g.Affixes[len(g.Affixes):len(g.Affixes)+3], func(a impl.Affix) bool { return a != impl.Affix{Name: "mark"} })
}

// choices returns the derivations of a stem in order: by number of affixes, then by their names.
func choices(s impl.Stem) []impl.Derivation {
	all := []impl.Derivation{derivation(s.Word)}
	for _, name := range s.Uses {
		all = append(all, derivation(s.Word, name))
	}
	for _, first := range s.Uses {
		for _, second := range s.Uses {
			if first != second {
				all = append(all, derivation(s.Word, first, second))
			}
		}
	}
	return all
}

// followed is WordOf for a derivation of a valid grammar, by regular expressions.
func followed(g impl.Grammar, d impl.Derivation) coded[string] {
	result := withCode(d.Stem, impl.OK)
	for _, name := range d.Affixes {
		i := slices.IndexFunc(g.Affixes, func(a impl.Affix) bool { return a.Name == name })
		result = applied(g.Affixes[i], affixPattern(g.Affixes[i]), result.value)
		if result.code != impl.OK {
			return result
		}
	}
	return result
}

// derivationTexts returns a text for each derivation, where nil and empty lists have the same one.
func derivationTexts(list []impl.Derivation) []string {
	var all []string
	for _, d := range list {
		all = append(all, d.Stem+": "+strings.Join(d.Affixes, " "))
	}
	return all
}

// derivationsOf is DerivationsOf with texts.
func derivationsOf(g impl.Grammar, word string) coded[[]string] {
	list, code := impl.DerivationsOf(g, word)
	return withCode(derivationTexts(list), code)
}

// sameWords checks DerivedWords and CompileLexicon, which have the same words and errors.
func sameWords(t *testing.T, what string, g impl.Grammar, want []string, code int64) {
	t.Helper()
	sameCodedList(t, "DerivedWords of "+what, withCode(impl.DerivedWords(g)), want, code)
	l, got := impl.CompileLexicon(g)
	sameCodedList(t, "CompileLexicon of "+what, withCode(l.Words, got), want, code)
}

func TestValidGrammar(t *testing.T) {
	for i, g := range validGrammars() {
		same(t, "ValidGrammar of the valid one "+strconv.Itoa(i), impl.ValidGrammar(g), true)
	}
	for i, g := range invalidGrammars() {
		same(t, "ValidGrammar of the invalid one "+strconv.Itoa(i), impl.ValidGrammar(g), false)
	}
}

// TestInvalidGrammars gives grammars that are not valid to every function that takes one; they are told before all else.
func TestInvalidGrammars(t *testing.T) {
	for i, g := range invalidGrammars() {
		what := "the invalid grammar " + strconv.Itoa(i)
		derivations := []impl.Derivation{{}, derivation("an"), derivation("an", "a"), derivation("none", "none"), derivation("an", "a", "a")}
		for _, s := range g.Stems {
			derivations = append(derivations, derivation(s.Word, s.Uses...))
		}
		for _, d := range derivations {
			sameCoded(t, "WordOf of "+what, withCode(impl.WordOf(g, d)), "", impl.ErrInvalid)
		}
		for _, word := range []string{"an", "test", "", "a", "A", "aaaaaaaaaaaaa"} {
			sameCodedList(t, "DerivationsOf of "+what, withCode(impl.DerivationsOf(g, word)), nil, impl.ErrInvalid)
		}
		sameWords(t, what, g, nil, impl.ErrInvalid)
		same(t, "GrammarText of "+what, impl.GrammarText(g), "")
	}
}

func TestSameGrammar(t *testing.T) {
	base := testGrammar()
	all := append(validGrammars(), invalidGrammars()...)
	all = append(all, base,
		impl.Grammar{Affixes: base.Affixes}, impl.Grammar{Stems: base.Stems}, impl.Grammar{Affixes: base.Affixes[:1], Stems: base.Stems},
		impl.Grammar{Affixes: []impl.Affix{base.Affixes[1], base.Affixes[0]}, Stems: base.Stems}, impl.Grammar{Affixes: base.Affixes, Stems: base.Stems[:1]},
		impl.Grammar{Affixes: base.Affixes, Stems: []impl.Stem{base.Stems[1], base.Stems[0]}},
		impl.Grammar{Affixes: base.Affixes, Stems: []impl.Stem{stem("an"), stem("test", "re", "er")}},
		impl.Grammar{Affixes: base.Affixes, Stems: []impl.Stem{stem("an"), stem("test", "er")}},
		impl.Grammar{Affixes: base.Affixes, Stems: []impl.Stem{stem("an", "er"), stem("test", "er", "re")}},
		impl.Grammar{Affixes: base.Affixes, Stems: []impl.Stem{stem("an", "er", "re"), stem("test")}},
		impl.Grammar{Affixes: base.Affixes, Stems: []impl.Stem{stem("am"), stem("test", "er", "re")}},
	)
	for i := range 5 {
		a := base.Affixes[1]
		switch i {
		case 0:
			a.Name = "es"
		case 1:
			a.Front = true
		case 2:
			a.When = ""
		case 3:
			a.Strip = "t"
		case 4:
			a.Add = "es"
		}
		all = append(all, impl.Grammar{Affixes: []impl.Affix{base.Affixes[0], a}, Stems: base.Stems})
	}
	for i, a := range all {
		if b := copied(a); !impl.SameGrammar(a, b) || !impl.SameGrammar(b, a) {
			t.Errorf("SameGrammar: the grammar %d differs from its copy", i)
		}
		for j, b := range all {
			if impl.SameGrammar(a, b) != equalGrammars(a, b) {
				t.Errorf("SameGrammar of the grammars %d and %d: wrong", i, j)
			}
		}
	}
	empty := impl.Grammar{Affixes: []impl.Affix{}, Stems: []impl.Stem{}}
	same(t, "nil and empty lists", impl.SameGrammar(impl.Grammar{}, empty), true)
	same(t, "nil and empty uses", impl.SameGrammar(impl.Grammar{Stems: []impl.Stem{{Word: "an"}}}, impl.Grammar{Stems: []impl.Stem{{Word: "an", Uses: []string{}}}}), true)
	same(t, "empty and a zero affix", impl.SameGrammar(empty, impl.Grammar{Affixes: []impl.Affix{{}}}), false)
	same(t, "empty and a zero stem", impl.SameGrammar(empty, impl.Grammar{Stems: []impl.Stem{{}}}), false)
	same(t, "no uses and an empty one", impl.SameGrammar(impl.Grammar{Stems: []impl.Stem{{}}}, impl.Grammar{Stems: []impl.Stem{stem("", "")}}), false)
}

func TestWordOf(t *testing.T) {
	for _, c := range []struct {
		g    impl.Grammar
		d    impl.Derivation
		want string
		code int64
	}{
		{testGrammar(), derivation("test", "re", "er"), "retester", impl.OK}, {testGrammar(), derivation("test", "er", "re"), "retester", impl.OK},
		{testGrammar(), derivation("test", "er"), "tester", impl.OK}, {testGrammar(), derivation("test"), "test", impl.OK}, {testGrammar(), derivation("an"), "an", impl.OK},
		{cityGrammar(), derivation("city", "plural"), "cities", impl.OK}, {cityGrammar(), derivation("city", "mid", "plural"), "midcities", impl.OK},
		{cityGrammar(), derivation("city", "cut"), "ci", impl.OK}, {cityGrammar(), derivation("city", "plural", "of"), "citiesman", impl.OK},
		// The first affix fails.
		{cityGrammar(), derivation("city", "of"), "", impl.ErrNotFound}, {cityGrammar(), derivation("city", "of", "plural"), "", impl.ErrNotFound},
		{cityGrammar(), derivation("longestwords", "mid"), "", impl.ErrRange}, {cityGrammar(), derivation("longestwords", "mid", "cut"), "", impl.ErrRange},
		{cityGrammar(), derivation("longestwords", "cut", "mid"), "", impl.ErrNotFound}, {cityGrammar(), derivation("ty", "cut"), "", impl.ErrRange},
		{cityGrammar(), derivation("test", "plural", "of"), "", impl.ErrNotFound}, {cityGrammar(), derivation("ty", "cut", "mid"), "", impl.ErrRange},
		// The second affix fails.
		{cityGrammar(), derivation("city", "cut", "plural"), "", impl.ErrNotFound}, {cityGrammar(), derivation("test", "s", "plural"), "", impl.ErrNotFound},
		{cityGrammar(), derivation("ty", "mid", "cut"), "mid", impl.OK}, {cityGrammar(), derivation("city", "plural", "cut"), "", impl.ErrNotFound},
		{cityGrammar(), derivation("test", "s", "of"), "testsman", impl.OK}, {cityGrammar(), derivation("test", "of", "s"), "", impl.ErrNotFound},
		{impl.Grammar{Affixes: []impl.Affix{back("a", "", "", "bcde"), back("f", "", "", "ghij")}, Stems: []impl.Stem{stem("stems", "a", "f")}},
			derivation("stems", "a", "f"), "", impl.ErrRange},
		{impl.Grammar{Affixes: []impl.Affix{back("a", "", "", "bcde"), back("f", "", "", "ghij")}, Stems: []impl.Stem{stem("stem", "a", "f")}},
			derivation("stem", "a", "f"), "stembcdeghij", impl.OK},
		{impl.Grammar{Affixes: []impl.Affix{back("a", "", "t", ""), front("f", "", "c", "")}, Stems: []impl.Stem{stem("cat", "a", "f")}},
			derivation("cat", "a", "f"), "", impl.ErrRange},
		// A word between that is too long or too short fails, also if the next affix would make it right again.
		{impl.Grammar{Affixes: []impl.Affix{back("a", "", "", "x"), back("f", "", "lx", "m")}, Stems: []impl.Stem{stem("abcdefghijkl", "a", "f")}},
			derivation("abcdefghijkl", "a", "f"), "", impl.ErrRange},
		{impl.Grammar{Affixes: []impl.Affix{back("a", "", "t", ""), back("f", "", "", "bc")}, Stems: []impl.Stem{stem("at", "a", "f")}},
			derivation("at", "a", "f"), "", impl.ErrRange},
		// Both affixes fail: the first error is told.
		{impl.Grammar{Affixes: []impl.Affix{back("a", "", "t", ""), back("f", "z", "", "x")}, Stems: []impl.Stem{stem("at", "a", "f")}},
			derivation("at", "a", "f"), "", impl.ErrRange},
		{impl.Grammar{Affixes: []impl.Affix{back("a", "", "t", ""), back("f", "z", "", "x")}, Stems: []impl.Stem{stem("at", "a", "f")}},
			derivation("at", "f", "a"), "", impl.ErrNotFound},
	} {
		sameCoded(t, "WordOf of "+c.d.Stem+" "+strings.Join(c.d.Affixes, " "), withCode(impl.WordOf(c.g, c.d)), c.want, c.code)
	}
}

// TestWordOfNoDerivations gives derivations that are none of the grammar, with affixes that fail or not.
func TestWordOfNoDerivations(t *testing.T) {
	g := cityGrammar()
	for _, d := range []impl.Derivation{
		{}, derivation("town"), derivation(""), derivation("cit"), derivation("cityx"), derivation("cities", "plural"), derivation("cities", "mid"),
		derivation("ct"), derivation("aa"), derivation("zz"), derivation("City"), derivation("c"), derivation("city "), derivation("midcity"),
		derivation("city", ""), derivation("city", "none"), derivation("city", "s"), derivation("city", "mid", "s"), derivation("city", "s", "mid"),
		derivation("city", "mid", "mid"), derivation("city", "plural", "plural"), derivation("city", "mid", "plural", "of"), derivation("city", "cut", "mid", "of"),
		derivation("city", "of", "of"), derivation("city", "of", "plural", "mid"), derivation("city", "mid", "cut", "mid"), derivation("city", "mid", "of", "plural", "cut"),
		derivation("city", "Mid"), derivation("city", "mid "), derivation("city", "mid", ""), derivation("city", "y"), derivation("test", "mid"),
		derivation("test", "s", "s"), derivation("test", "of", "s", "plural"), derivation("ty", "plural"), derivation("longestwords", "mid", "mid"),
		derivation("none", "mid"), derivation("city", make([]string, 5000)...), derivation("city", slices.Repeat([]string{"mid"}, 5000)...),
	} {
		sameCoded(t, "WordOf of "+d.Stem+" "+strings.Join(d.Affixes, " "), withCode(impl.WordOf(g, d)), "", impl.ErrState)
	}
	for _, s := range append(oddStrings(), notLongWords()...) {
		sameCoded(t, "WordOf of the stem "+strconv.Quote(s), withCode(impl.WordOf(g, derivation(s))), "", impl.ErrState)
		sameCoded(t, "WordOf with "+strconv.Quote(s), withCode(impl.WordOf(g, derivation("city", s))), "", impl.ErrState)
		sameCoded(t, "WordOf with mid and "+strconv.Quote(s), withCode(impl.WordOf(g, derivation("city", "mid", s))), "", impl.ErrState)
	}
	sameCoded(t, "WordOf of the empty grammar", withCode(impl.WordOf(impl.Grammar{}, impl.Derivation{})), "", impl.ErrState)
}

// TestSteps has as many steps as there may be, and one more.
func TestSteps(t *testing.T) {
	g := impl.Grammar{Affixes: manyAffixes(12), Stems: manyStems(30, letters(12)...)}
	sameCoded(t, "WordOf of 1 step", withCode(impl.WordOf(g, derivation("aaa", "l"))), "aaal", impl.OK)
	sameCoded(t, "WordOf of 2 steps", withCode(impl.WordOf(g, derivation("aaa", "l", "c"))), "aaalc", impl.OK)
	sameCoded(t, "WordOf of 3 steps", withCode(impl.WordOf(g, derivation("aaa", "l", "c", "a"))), "", impl.ErrState)
	sameCodedList(t, "DerivationsOf of 2 steps", derivationsOf(g, "abdlc"), []string{"abd: l c"}, impl.OK)
	sameCodedList(t, "DerivationsOf of 3 steps", derivationsOf(g, "abdlca"), nil, impl.OK)
	sameCodedList(t, "DerivationsOf of a step twice", derivationsOf(g, "abdcc"), nil, impl.OK)
}

func TestDerivedWords(t *testing.T) {
	sameWords(t, "no affixes and no stems", impl.Grammar{}, nil, impl.OK)
	sameWords(t, "affixes alone", impl.Grammar{Affixes: manyAffixes(12)}, nil, impl.OK)
	sameWords(t, "stems alone", impl.Grammar{Stems: []impl.Stem{stem("an"), stem("at")}}, []string{"an", "at"}, impl.OK)
	sameWords(t, "test", testGrammar(), []string{"an", "retest", "retester", "test", "tester"}, impl.OK)
	sameWords(t, "city", cityGrammar(), []string{
		"ci", "cities", "citiesman", "city", "longestwords", "mid", "midci", "midcities", "midcity", "midty", "test", "tests", "testsman", "ty",
	}, impl.OK)
	// A word that is reached although another derivation of it fails, and uses that no stem has.
	sameWords(t, "both ways", impl.Grammar{
		Affixes: []impl.Affix{back("a", "", "", "x"), back("b", "x", "", "y"), back("c", "", "", "z")}, Stems: []impl.Stem{stem("at", "a", "b")},
	}, []string{"at", "atx", "atxy"}, impl.OK)
}

// TestDerivedLimit has as many words as there may be, and one more.
func TestDerivedLimit(t *testing.T) {
	full := impl.Grammar{Affixes: manyAffixes(3), Stems: manyStems(20, letters(3)...)}
	var want []string
	for _, s := range full.Stems {
		for _, end := range []string{"", "a", "ab", "ac", "b", "ba", "bc", "c", "ca", "cb"} {
			want = append(want, s.Word+end)
		}
	}
	slices.Sort(want)
	same(t, "number of words", len(want), 200)
	sameWords(t, "200 words", full, want, impl.OK)
	more := func(s impl.Stem) impl.Grammar {
		return impl.Grammar{Affixes: full.Affixes, Stems: append(slices.Clone(full.Stems), s)}
	}
	sameWords(t, "201 words", more(stem("zz")), nil, impl.ErrFull)
	sameWords(t, "203 words", more(stem("zz", "a", "b")), nil, impl.ErrFull)
	// The further stem is a word already, so there are more derivations, but not more words.
	again := full
	again.Stems = slices.Insert(slices.Clone(full.Stems), 1, stem("aaaa"))
	sameWords(t, "200 words with one in two ways", again, want, impl.OK)
	sameWords(t, "most derivations", impl.Grammar{Affixes: manyAffixes(12), Stems: manyStems(30, letters(12)...)}, nil, impl.ErrFull)
	// A grammar with too many words still has derivations.
	sameCodedList(t, "DerivationsOf with 201 words", derivationsOf(more(stem("zz")), "zz"), []string{"zz: "}, impl.OK)
	sameCoded(t, "WordOf with 201 words", withCode(impl.WordOf(more(stem("zz")), derivation("zz"))), "zz", impl.OK)
}

func TestDerivationsOf(t *testing.T) {
	for word, want := range map[string][]string{
		"test": {"test: "}, "an": {"an: "}, "tester": {"test: er"}, "retest": {"test: re"}, "retester": {"test: er re", "test: re er"},
		"rean": nil, "zz": nil, "retesters": nil, "aaaaaaaaaaaa": nil,
	} {
		sameCodedList(t, "DerivationsOf "+word, derivationsOf(testGrammar(), word), want, impl.OK)
	}
	for word, want := range map[string][]string{
		"cities": {"cities: ", "city: plural"}, "citiesman": {"cities: of", "city: plural of"}, "midcities": {"city: mid plural", "city: plural mid"},
		"midci": {"city: cut mid", "city: mid cut"}, "mid": {"ty: mid cut"}, "ci": {"city: cut"}, "ty": {"ty: "}, "testsman": {"test: s of"},
	} {
		sameCodedList(t, "DerivationsOf "+word, derivationsOf(cityGrammar(), word), want, impl.OK)
	}
	// Affixes in another order than their names, one with a name that is the beginning of another one.
	g := impl.Grammar{
		Affixes: []impl.Affix{back("z", "", "", "s"), back("b", "", "", "s"), back("b-", "", "", "s"), back("a", "", "ss", "s")},
		Stems:   []impl.Stem{stem("at", "a", "b", "b-", "z"), stem("ats", "a", "b", "z"), stem("atss", "a", "b")},
	}
	sameCodedList(t, "DerivationsOf ats", derivationsOf(g, "ats"), []string{"at: b", "at: b-", "at: z", "ats: ", "ats: b a", "ats: z a", "atss: a"}, impl.OK)
	sameCodedList(t, "DerivationsOf atss", derivationsOf(g, "atss"), []string{
		"at: b b-", "at: b z", "at: b- b", "at: b- z", "at: z b", "at: z b-", "ats: b", "ats: z", "atss: ", "atss: a b", "atss: b a",
	}, impl.OK)
	// Most derivations of one word.
	equal := impl.Grammar{Stems: []impl.Stem{stem("at", letters(12)...)}}
	for _, name := range letters(12) {
		equal.Affixes = append(equal.Affixes, front(name, "", "", "s"))
	}
	sameWords(t, "equal affixes", equal, []string{"at", "sat", "ssat"}, impl.OK)
	sameCodedList(t, "DerivationsOf sat", derivationsOf(equal, "sat"), derivationTexts(choices(equal.Stems[0])[1:13]), impl.OK)
	sameCodedList(t, "DerivationsOf ssat", derivationsOf(equal, "ssat"), derivationTexts(choices(equal.Stems[0])[13:]), impl.OK)
	same(t, "number of choices", len(choices(equal.Stems[0])), 1+12+132)
}

// TestDerivationsOfNoWords gives strings that are no long words.
func TestDerivationsOfNoWords(t *testing.T) {
	for _, word := range notLongWords() {
		for _, g := range []impl.Grammar{{}, testGrammar(), cityGrammar()} {
			sameCodedList(t, "DerivationsOf "+strconv.Quote(word), withCode(impl.DerivationsOf(g, word)), nil, impl.ErrSyntax)
		}
	}
}

// TestDerived is the part of promise 4 on grammars: a word is derived just if it has a derivation, and each derivation leads to its word.
func TestDerived(t *testing.T) {
	for i, g := range validGrammars() {
		what := "the valid grammar " + strconv.Itoa(i)
		found := map[string][]string{}
		var words []string
		for _, s := range g.Stems {
			for _, d := range choices(s) {
				want := followed(g, d)
				sameCoded(t, "WordOf of "+what, withCode(impl.WordOf(g, d)), want.value, want.code)
				if want.code == impl.OK {
					found[want.value] = append(found[want.value], derivationTexts([]impl.Derivation{d})[0])
					words = append(words, want.value)
				}
			}
		}
		slices.Sort(words)
		words = slices.Compact(words)
		if len(words) > 200 {
			sameWords(t, what, g, nil, impl.ErrFull)
			words = words[:20]
		} else {
			sameWords(t, what, g, words, impl.OK)
		}
		for _, word := range append(words, "aa", "abab", "zzz", "aaaaaaaaaaab", "testing") {
			sameCodedList(t, "DerivationsOf "+word+" of "+what, derivationsOf(g, word), found[word], impl.OK)
		}
	}
}

// textGrammar has every kind of line.
const textGrammar = "affix re front - - re\naffix er back t - er\naffix plural back .y y ies\naffix cut back .... abcd -\nstem an\nstem city plural\nstem test er re\n"

// grammarLine has the words of a line of a grammar, those of an affix or those of a stem.
var grammarLine = regexp.MustCompile(`\A(?:affix ([a-z][a-z0-9-]{0,11}) (?:front|back) (?:-|[a-z.]{1,4}) (-|[a-z]{1,4}) (-|[a-z]{1,4})|stem ([a-z]{2,12})((?: [a-z][a-z0-9-]{0,11})*))\z`)

// isGrammarText reports whether s is the text of a valid grammar, line by line.
func isGrammarText(s string) bool {
	lines := strings.Split(s, "\n")
	if lines[len(lines)-1] != "" {
		return false
	}
	names := map[string]bool{}
	stems, last := 0, ""
	for _, line := range lines[:len(lines)-1] {
		m := grammarLine.FindStringSubmatch(line)
		if m == nil {
			return false
		}
		if m[1] != "" {
			if names[m[1]] || m[2] == m[3] || stems > 0 {
				return false
			}
			names[m[1]] = true
			continue
		}
		uses := strings.Fields(m[5])
		if m[4] <= last || !slices.IsSorted(uses) || len(slices.Compact(slices.Clone(uses))) != len(uses) {
			return false
		}
		for _, name := range uses {
			if !names[name] {
				return false
			}
		}
		last = m[4]
		stems++
	}
	return len(names) <= 12 && stems <= 30
}

// sameRead checks ReadGrammar of a text, be it one of a grammar or not.
func sameRead(t *testing.T, s string) {
	t.Helper()
	g, ok := impl.ReadGrammar(s)
	if ok != isGrammarText(s) {
		t.Errorf("ReadGrammar(%q): got %t", s, ok)
	}
	if ok && (!impl.ValidGrammar(g) || impl.GrammarText(g) != s) {
		t.Errorf("ReadGrammar(%q): got another grammar, %#v", s, g)
	}
	if !ok && (g.Affixes != nil || g.Stems != nil) {
		t.Errorf("ReadGrammar(%q): got %#v with false", s, g)
	}
}

// TestGrammarTexts reads the texts of grammars back.
func TestGrammarTexts(t *testing.T) {
	for want, g := range map[string]impl.Grammar{
		"": {}, "stem an\n": {Stems: []impl.Stem{stem("an")}}, "affix a back - - s\n": {Affixes: []impl.Affix{back("a", "", "", "s")}},
		"affix re front - - re\naffix er back t - er\nstem an\nstem test er re\n":      testGrammar(),
		"affix a front .... s -\naffix b back a..b abcd efgh\nstem abcdefghijkl a b\n": {Affixes: []impl.Affix{front("a", "....", "s", ""), back("b", "a..b", "abcd", "efgh")}, Stems: []impl.Stem{stem("abcdefghijkl", "a", "b")}},
		textGrammar: {
			Affixes: []impl.Affix{front("re", "", "", "re"), back("er", "t", "", "er"), back("plural", ".y", "y", "ies"), back("cut", "....", "abcd", "")},
			Stems:   []impl.Stem{stem("an"), stem("city", "plural"), stem("test", "er", "re")},
		},
		"affix front front - - s\naffix stem back - - s\nstem affix stem\nstem stem front\n": {
			Affixes: []impl.Affix{front("front", "", "", "s"), back("stem", "", "", "s")}, Stems: []impl.Stem{stem("affix", "stem"), stem("stem", "front")},
		},
	} {
		same(t, "GrammarText", impl.GrammarText(g), want)
		read, ok := impl.ReadGrammar(want)
		if !ok || !equalGrammars(read, g) {
			t.Errorf("ReadGrammar(%q): got %#v and %t", want, read, ok)
		}
	}
	for i, g := range validGrammars() {
		text := impl.GrammarText(g)
		same(t, "text of the valid grammar "+strconv.Itoa(i), isGrammarText(text), true)
		read, ok := impl.ReadGrammar(text)
		if !ok || !equalGrammars(read, g) || !impl.SameGrammar(read, g) {
			t.Errorf("ReadGrammar(%q): got %#v and %t", text, read, ok)
		}
	}
}

// TestReadGrammarFails has texts that are nearly right.
func TestReadGrammarFails(t *testing.T) {
	affix := "affix a back - - s\n"
	for _, s := range append(oddStrings()[1:],
		"\n", "\n\n", "stem an", "affix a back - - s", "stem an\n\n", "\nstem an\n", affix+"\nstem an\n", "stem an\r\n", "stem an\nstem at", "stem\n", "stem \n",
		"stem an \n", " stem an\n", "stem  an\n", "stem\tan\n", "stem an\tat\n", "Stem an\n", "stems an\n", "ste an\n", "stem An\n", "stem a\n", "stem an-\n", "stem -\n",
		"stem abcdefghijklm\n", "stem an a\n", "stem an -\n", "stem test er\n", "an\n", "stem at\nstem an\n", "stem an\nstem an\n", "stem an\n"+affix,
		"affix a back - - s -\n", "affix a back - -\n", "affix a back - s\n", "affix a - - s\n", "affix back - - s\n", "affix\n", "affix a\n", "affix a back\n",
		"affix a back  - s\n", "affix a back - - s \n", " affix a back - - s\n", "affix  a back - - s\n", "affix a back - - S\n", "affix A back - - s\n",
		"affix a Back - - s\n", "affix a middle - - s\n", "affix a  - - s\n", "affix a true - - s\n", "affix a - - - s\n", "affix a backs - - s\n",
		"affix a back - - -\n", "affix a back - s s\n", "affix a back - . s\n", "affix a back - s .\n", "affix a back ..... - s\n", "affix a back - abcde s\n",
		"affix a back - s abcde\n", "affix a back -- - s\n", "affix a back - -- s\n", "affix a back - - --\n", "affix a back a- - s\n", "affix 1 back - - s\n",
		"affix abcdefghijklm back - - s\n", "affix - back - - s\n", "Affix a back - - s\n", "affixes a back - - s\n", "a back - - s\n", affix+affix,
		affix+"stem an b\n", affix+"stem an a a\n", affix+"stem an  a\n", affix+"stem an a \n", affix+"stem an A\n", affix+"stem an a b\n",
		affix+"affix b back - - s\nstem an b a\n", affix+"affix a front - - re\n", affix+"stem an a\naffix b back - - s\n", affix+"stem an a\nnone\n",
		"none\n"+affix, affix+"none\nstem an a\n", affix+"-\n", affix+"stem an a\n ", affix+"stem an a\n\x00", "\ufeff"+affix,
		strings.Repeat(affix, 5000), strings.Repeat("stem an\n", 5000), strings.Repeat("\n", 5000), strings.Repeat(" ", 5000), "stem an"+strings.Repeat(" a", 5000)+"\n",
	) {
		g, ok := impl.ReadGrammar(s)
		if ok || g.Affixes != nil || g.Stems != nil {
			t.Errorf("ReadGrammar(%q): got %#v and %t", s, g, ok)
		}
		same(t, "what the pattern says of "+strconv.Quote(s), isGrammarText(s), false)
	}
}

// TestReadGrammarLimits has as many lines of each kind as there may be, and one more.
func TestReadGrammarLimits(t *testing.T) {
	line := func(n int) string {
		return "affix " + alphabet[n:n+1] + " back - - s\n"
	}
	for _, c := range []struct{ affixes, stems int }{{12, 30}, {13, 30}, {12, 31}, {13, 0}, {12, 0}, {0, 30}, {0, 31}, {26, 60}} {
		text := ""
		for i := range c.affixes {
			text += line(i)
		}
		for _, s := range manyStems(c.stems) {
			text += "stem " + s.Word + "\n"
		}
		g, ok := impl.ReadGrammar(text)
		if want := c.affixes <= 12 && c.stems <= 30; ok != want || ok && (len(g.Affixes) != c.affixes || len(g.Stems) != c.stems) {
			t.Errorf("ReadGrammar with %d affixes and %d stems: got %t", c.affixes, c.stems, ok)
		}
		sameRead(t, text)
	}
}

// TestReadGrammarByPattern changes texts of grammars in every place.
func TestReadGrammarByPattern(t *testing.T) {
	for _, text := range []string{textGrammar, "affix a back - - s\nstem an a\n", "stem an\nstem at\n", "affix front front s. s -\naffix s-1 back - a aa\n"} {
		sameRead(t, text)
		for i := range text {
			sameRead(t, text[:i])
			sameRead(t, text[i:])
			sameRead(t, text[:i]+text[i+1:])
			for _, c := range []byte(" \n-.aesrz1A\t\r\x00\xff") {
				sameRead(t, text[:i]+string([]byte{c})+text[i:])
				sameRead(t, text[:i]+string([]byte{c})+text[i+1:])
			}
		}
		lines := strings.SplitAfter(strings.TrimSuffix(text, "\n"), "\n")
		for i := range lines {
			for k := range lines {
				moved := slices.Clone(lines)
				moved[i], moved[k] = moved[k], moved[i]
				sameRead(t, strings.Join(moved, ""))
				sameRead(t, strings.Join(slices.Insert(slices.Clone(lines), i, lines[k]), ""))
			}
		}
	}
}

// TestPurityOfGrammars is promise 1 for chapter 4: arguments stay, also their unused capacity, and results are equal again.
func TestPurityOfGrammars(t *testing.T) {
	for i, g := range append(validGrammars(), invalidGrammars()...) {
		a := copied(g)
		d := derivation("city", "plural", "mid")
		d.Affixes = roomy(d.Affixes, "mark")
		for range 2 {
			same(t, "WordOf", withCode(impl.WordOf(a, d)), withCode(impl.WordOf(g, d)))
			same(t, "DerivedWords", withCode(impl.DerivedWords(a)), withCode(impl.DerivedWords(g)))
			same(t, "CompileLexicon", withCode(impl.CompileLexicon(a)), withCode(impl.CompileLexicon(g)))
			same(t, "DerivationsOf", derivationsOf(a, "abab"), derivationsOf(g, "abab"))
			same(t, "GrammarText", impl.GrammarText(a), impl.GrammarText(g))
			same(t, "ValidGrammar", impl.ValidGrammar(a), impl.ValidGrammar(g))
			same(t, "SameGrammar", impl.SameGrammar(a, g), true)
		}
		if !equalGrammars(a, g) || !marked(a) {
			t.Errorf("the grammar %d has changed", i)
		}
		sameList(t, "derivation", d.Affixes[:5], []string{"plural", "mid", "mark", "mark", "mark"})
	}
}

// TestGrammarsApart spoils each list of a result, and looks at the others, at the argument and at a further result.
func TestGrammarsApart(t *testing.T) {
	g := impl.Grammar{Affixes: manyAffixes(3), Stems: manyStems(3, letters(3)...)}
	for i := range g.Affixes {
		g.Affixes[i].Add = "s"
	}
	kept := copied(g)
	want := []string{"aaa: a b", "aaa: a c", "aaa: b a", "aaa: b c", "aaa: c a", "aaa: c b"}
	for i := range want {
		list, _ := impl.DerivationsOf(g, "aaass")
		sameList(t, "DerivationsOf", derivationTexts(list), want)
		spoil(list[i].Affixes, "spoilt")
		for k, text := range derivationTexts(list) {
			if k != i {
				same(t, "a derivation beside a spoilt one", text, want[k])
			}
		}
		spoil(list, derivation("spoilt"))
	}
	words, _ := impl.DerivedWords(g)
	wanted := slices.Clone(words)
	spoil(words, "spoilt")
	l, _ := impl.CompileLexicon(g)
	sameList(t, "CompileLexicon after spoilt words", l.Words, wanted)
	spoil(l.Words, "spoilt")
	sameWords(t, "a grammar after spoilt words", g, wanted, impl.OK)
	same(t, "the grammar after spoilt results", equalGrammars(g, kept), true)
	text := impl.GrammarText(g)
	for i := range g.Stems {
		read, _ := impl.ReadGrammar(text)
		spoil(read.Stems[i].Uses, "spoilt")
		for k, s := range read.Stems {
			if k != i {
				sameList(t, "uses beside spoilt ones", s.Uses, g.Stems[k].Uses)
			}
		}
		spoil(read.Affixes, impl.Affix{})
		spoil(read.Stems, impl.Stem{})
	}
	again, ok := impl.ReadGrammar(text)
	same(t, "ReadGrammar after spoilt ones", ok && equalGrammars(again, g), true)
}

// TestAffixesAgain calls every function with strings twice, whatever they are.
func TestAffixesAgain(t *testing.T) {
	for _, s := range append(oddStrings(), textGrammar, "cities") {
		for _, a := range []impl.Affix{back("plural", ".y", "y", "ies"), front(s, s, s, ""), back(s, "", "", s), {}} {
			same(t, "ApplyAffix", withCode(impl.ApplyAffix(a, s)), withCode(impl.ApplyAffix(a, s)))
			same(t, "UndoAffix", withCode(impl.UndoAffix(a, s)), withCode(impl.UndoAffix(a, s)))
			same(t, "MatchesAffix", impl.MatchesAffix(a, s), impl.MatchesAffix(a, s))
			same(t, "ValidAffix", impl.ValidAffix(a), impl.ValidAffix(a))
		}
		first, ok := impl.ReadGrammar(s)
		second, again := impl.ReadGrammar(s)
		same(t, "ReadGrammar", ok == again && equalGrammars(first, second), true)
	}
}
