package tests

import (
	"regexp"
	"slices"
	"strconv"
	"strings"
	"testing"

	"loop.example/g00911/impl"
)

// patternBytes matches what consists of bytes of patterns, with as many stars as there may be.
var patternBytes = regexp.MustCompile(`\A[a-z.@#]*(?:\*[a-z.@#]*){0,3}\z`)

// isPattern is ValidPattern by a regular expression.
func isPattern(p string) bool {
	return len(p) > 0 && len(p) < 13 && patternBytes.MatchString(p)
}

// patternFor returns a regular expression that matches the same words as a pattern.
func patternFor(p string) *regexp.Regexp {
	return regexp.MustCompile(`\A` + strings.NewReplacer(".", "[a-z]", "@", "[aeiou]", "#", "[bcdfghjklmnpqrstvwxyz]", "*", "[a-z]*").Replace(p) + `\z`)
}

// sameMatches checks MatchPattern of a pattern and words, be they valid or not.
func sameMatches(t *testing.T, p string, words ...string) {
	t.Helper()
	var pattern *regexp.Regexp
	if isPattern(p) {
		pattern = patternFor(p)
	}
	for _, word := range words {
		want := pattern != nil && wordPattern.MatchString(word) && pattern.MatchString(word)
		if got := impl.MatchPattern(p, word); got != want {
			t.Errorf("MatchPattern of %q and %q: got %v, want %v", p, word, got, want)
		}
	}
}

// somePatterns are patterns that reach the limits, and others.
func somePatterns() []string {
	return append(wordsOver("a.#*", 1, 3),
		"a", "z", ".", "@", "#", "*", "**", "***", "at", "t@#", "t*n", ".a.", "a..", "..a", "*t", "t*", "*t*", "*a*e*", "*e*a*", "a*a", "a**a", "aa*a*a", "*ab", "ba*", "a*b*a",
		"@#@", "#@#", "#*#", "@*@", ".*.", "*.*", "*@", "#*", "@@", "##", "..", "*@*@*", "*##*", "abcdefghijkl", "............", "@@@@@@@@@@@@", "############", "zzzzzzzzzzzz", "***.........",
		".........***", "*...*.....*.", "*a*a*aaaaaaa", "*abcdefghijk", "abcdefghijk*", "***abcdefghi", "*zzzzzzzzzz*", "a*b*c*......", "ab*", "ab.*", "aa.", "a.a", "*a.",
	)
}

// notPatterns are strings that are no patterns, each for one reason or another.
func notPatterns() []string {
	all := []string{
		"", "****", "*a*a*a*", "a****", "****a", "**aa**", "*.*.*.*", "*@*#*.*z", "************", "abcdefghijklm", ".............", "aaaaaaaaaaaaa", "*abcdefghijkl", "abcdefghijkl*", "***..........",
		"A", "T@#", "t@N", "aA", "?", "a?", "?a", "a b", " a", "a ", " ", "a\n", "\na", "a-b", "a1", "1", "[a]", "a+", "a|b", "^a", "a$", "a\\", "(a)", "{", "`", "!", "+", "-", "/", ",", "\"", "$", "a\x00", "\x00",
		"é", "aé", "\xff", "a\xff", "\u212a", "ſ", "＊", "…", "a.\xff", "*\xff", strings.Repeat("a", 5000), strings.Repeat("*", 5000), strings.Repeat(".", 5000), strings.Repeat("a", 256+1), strings.Repeat("*", 256+3),
	}
	for _, s := range oddStrings() {
		if !isPattern(s) {
			all = append(all, s)
		}
	}
	return all
}

func TestLimitsOfPatterns(t *testing.T) {
	same(t, "MaxStars", impl.MaxStars, 3)
}

func TestValidPattern(t *testing.T) {
	for _, p := range somePatterns() {
		same(t, "ValidPattern of "+p, impl.ValidPattern(p), true)
		same(t, "isPattern of "+p, isPattern(p), true)
	}
	for _, p := range notPatterns() {
		same(t, "ValidPattern of "+strconv.Quote(p), impl.ValidPattern(p), false)
		same(t, "isPattern of "+strconv.Quote(p), isPattern(p), false)
	}
	// Of 0, 1, 12 and 13 bytes, with each byte in each place.
	for _, n := range []int{0, 1, 2, 11, 12, 13} {
		for _, filling := range []string{"a", ".", "@", "#"} {
			whole := strings.Repeat(filling, n)
			same(t, "ValidPattern of "+whole, impl.ValidPattern(whole), n >= 1 && n <= 12)
			for i := range whole {
				for c := range 256 {
					p := whole[:i] + string([]byte{byte(c)}) + whole[i+1:]
					same(t, "ValidPattern of "+strconv.Quote(p), impl.ValidPattern(p), n <= 12 && strings.IndexByte(alphabet+".@#*", byte(c)) >= 0)
				}
			}
		}
	}
	for _, p := range wordsOver("a*", 1, 13) {
		same(t, "ValidPattern of "+p, impl.ValidPattern(p), len(p) <= 12 && strings.Count(p, "*") <= 3)
	}
}

// TestMatchPatternByHand has the examples of the document, and stars in every place, also where they stand for nothing.
func TestMatchPatternByHand(t *testing.T) {
	for p, words := range map[string][2]string{
		"t@#":          {"ten tan tin tub tax", "tern tee ttn te t en tena eten ate tea tsn"},
		"t*n":          {"tn ten tern tan ttn tnn tenn twelfthmoon", "t n te en tens nt tent stn"},
		"*":            {"a z an ten abcdefghijkl", ""},
		"**":           {"a z an ten abcdefghijkl", ""},
		"***":          {"a z an ten abcdefghijkl", ""},
		"t":            {"t", "a tt at ta"},
		".":            {"a e t z", "at te ten"},
		"@":            {"a e i o u", "b y t ae at"},
		"#":            {"b y z t", "a e i o u tt ta"},
		"*t":           {"t at tt eat teat ttt", "ta a tea tte"},
		"t*":           {"t ta tt tea teat ttt", "at a eat ett"},
		"*t*":          {"t at ta tt eat tea ate teat", "a e eao"},
		"t**":          {"t ta tt tea", "at eat"},
		"**t":          {"t at tt eat", "ta tea"},
		"t***":         {"t ta tea", "at"},
		"***t":         {"t at eat", "ta"},
		"*t**":         {"t at ta eata", "a aaa"},
		"a*a":          {"aa aaa aba abba", "a ab ba aab baa"},
		"a**a":         {"aa aaa aba abba", "a ab ba aab baa"},
		"a*a*a":        {"aaa aaaa abaa aaba ababa", "a aa aba abba aaab baaa"},
		"*a*b*":        {"ab aab abb cab acb abc cacbc bab", "a b ba bba baa ca"},
		"*aa*":         {"aa aaa baa aab baab abaa", "a ab aba abab"},
		"aa*a":         {"aaa aaaa aaba", "aa aab aba"},
		"a*aa":         {"aaa aaaa abaa", "aa aba aaba"},
		"*.":           {"a at tea", ""},
		".*":           {"a at tea", ""},
		"*..":          {"at tea", "a"},
		".*.":          {"at tea", "a"},
		"*@":           {"a te tea", "t at ten"},
		"#*":           {"t te ten", "a at eat"},
		"*@*":          {"a at ta tat", "t tt"},
		"#*#":          {"tt tat tent", "t at ta"},
		"ab":           {"ab", "a b ba aab abb abab"},
		"a.c":          {"aac abc azc", "ac abbc abcd"},
		"abcdefghijkl": {"abcdefghijkl", "abcdefghijk bcdefghijkl abcdefghijkk a"},
		"............": {"abcdefghijkl", "abcdefghijk a"},
		"***.........": {"abcdefghi abcdefghij abcdefghijk abcdefghijkl", "abcdefgh a"},
		".........***": {"abcdefghi abcdefghij abcdefghijk abcdefghijkl", "abcdefgh a"},
		"***abcdefghi": {"abcdefghi zabcdefghi zzabcdefghi zzzabcdefghi", "abcdefgh abcdefghij bcdefghi"},
		"abcdefghi***": {"abcdefghi abcdefghiz abcdefghizz abcdefghizzz", "abcdefgh zabcdefghi abcdefgh"},
		"abc*def*ghi*": {"abcdefghi abczdefghi abcdefzghi abcdefghiz abczdefzghiz abcdefdefghi", "abcdefgh abcdeghi zabcdefghi"},
		"*abcdefghij*": {"abcdefghij zabcdefghij abcdefghijz zabcdefghijz", "abcdefghi bcdefghij"},
		"*a*b*......":  {"abcdefgh zabcdefgh zazbcdefgh", "abcdefg bacdefgh"},
		"*aaaaaaaaaaa": {"aaaaaaaaaaa aaaaaaaaaaaa baaaaaaaaaaa", "aaaaaaaaaa aaaaaaaaaaab"},
	} {
		for i, want := range []bool{true, false} {
			for _, word := range strings.Fields(words[i]) {
				same(t, "MatchPattern of "+p+" and "+word, impl.MatchPattern(p, word), want)
				sameMatches(t, p, word)
			}
		}
	}
}

// TestMatchPatternByRegexp compares all short patterns with regular expressions, and some long ones.
func TestMatchPatternByRegexp(t *testing.T) {
	words := append(wordsOver("ab", 1, 5), "")
	for _, p := range wordsOver("ab.@#*", 1, 5) {
		sameMatches(t, p, words...)
	}
	for _, p := range append(somePatterns(), notPatterns()...) {
		sameMatches(t, p, someWords()...)
		sameMatches(t, p, notWords()...)
		sameMatches(t, p, "aaaaaaaa", "aaaaaaaaa", "abcdefghi", "abcdefghijk", "zzzzzzzzzz")
	}
	next := numbers(12)
	for range 3000 {
		var p, word []byte
		for range 12 {
			p = append(p, "aab.@#*"[next(7)])
			word = append(word, "aab"[next(3)])
		}
		sameMatches(t, string(p), string(word), string(word[:9]), string(word[:11]))
		sameMatches(t, strings.Replace(string(p), "b", "*", 1), string(word), string(word[:8]))
		// What stands for a part of a word in a pattern matches this word.
		from := next(12)
		to := from + next(uint32(13-from))
		sameMatches(t, string(word[:from])+"*"+string(word[to:]), string(word), string(word[:11]))
	}
}

// TestKindsOfLetters has each letter, and what it may be matched by, alone and among others.
func TestKindsOfLetters(t *testing.T) {
	for _, c := range wordsOver(alphabet, 1, 1) {
		vowel := strings.Contains("a e i o u", c)
		for p, want := range map[string]bool{".": true, "*": true, "@": vowel, "#": !vowel, c: true, "*@": vowel, "#*": !vowel, "*" + c + "*": true} {
			same(t, "MatchPattern of "+p+" and "+c, impl.MatchPattern(p, c), want)
			same(t, "MatchPattern of "+p+" among others and "+c, impl.MatchPattern("q"+p+"u", "q"+c+"u"), want)
		}
		for _, other := range wordsOver(alphabet, 1, 1) {
			same(t, "MatchPattern of "+other+" and "+c, impl.MatchPattern(other, c), other == c)
		}
	}
}

// TestMatchPatternErrors has strings that are no patterns or no words, also where a star would match them.
func TestMatchPatternErrors(t *testing.T) {
	for _, word := range notWords() {
		for _, p := range []string{"*", "**", "***", ".", "@", "#", "a", "a*", "*.*", "............", word} {
			same(t, "MatchPattern of "+strconv.Quote(p)+" and "+strconv.Quote(word), impl.MatchPattern(p, word), false)
		}
	}
	for _, p := range notPatterns() {
		for _, word := range []string{"a", "t", "aa", "aaa", "ten", "aaaaaaaaaaaa", "abcdefghijkl", p} {
			same(t, "MatchPattern of "+strconv.Quote(p)+" and "+strconv.Quote(word), impl.MatchPattern(p, word), false)
		}
	}
}

func TestWordsMatching(t *testing.T) {
	l := lexicon("an", "ant", "at", "eat", "eats", "seat", "tan", "ten", "tern", "tin")
	for p, want := range map[string][]string{
		"t.n": {"tan", "ten", "tin"}, "t@#": {"tan", "ten", "tin"}, "t*n": {"tan", "ten", "tern", "tin"}, "*": l.Words, "***": l.Words, "*.*": l.Words, "..*": l.Words,
		"*at": {"at", "eat", "seat"}, "*at*": {"at", "eat", "eats", "seat"}, "a*": {"an", "ant", "at"}, "..": {"an", "at"}, "...": {"ant", "eat", "tan", "ten", "tin"}, "....": {"eats", "seat", "tern"},
		"@#": {"an", "at"}, "@##": {"ant"}, "@@#": {"eat"}, "#*#": {"seat", "tan", "ten", "tern", "tin"}, "*n*t*": {"ant"}, "ten": {"ten"}, "*tern*": {"tern"}, "t*e*n": {"ten", "tern"},
		"z*": nil, "*z": nil, ".": nil, "@": nil, "a": nil, ".....": nil, "............": nil, "*@@@*": nil, "tens": nil, "*an*an*": nil, "***.........": nil,
	} {
		sameCodedList(t, "WordsMatching "+p, withCode(impl.WordsMatching(l, p)), want, impl.OK)
	}
	for i, l := range append(validLexicons(), fullLexicons()...) {
		for _, p := range somePatterns() {
			pattern := patternFor(p)
			want := wordsWhere(l, pattern.MatchString)
			sameCodedList(t, "WordsMatching "+p+" in the lexicon "+strconv.Itoa(i), withCode(impl.WordsMatching(l, p)), want, impl.OK)
		}
		for _, p := range notPatterns() {
			sameCodedList(t, "WordsMatching "+strconv.Quote(p), withCode(impl.WordsMatching(l, p)), nil, impl.ErrSyntax)
		}
		// A word is a pattern that matches this word alone.
		for _, word := range l.Words {
			sameCodedList(t, "WordsMatching "+word, withCode(impl.WordsMatching(l, word)), []string{word}, impl.OK)
		}
	}
}

// sameHooks checks both hooks of a word, by looking at all words of the lexicon.
func sameHooks(t *testing.T, l impl.Lexicon, word string) {
	t.Helper()
	var front, back []string
	for _, other := range l.Words {
		if other[1:] == word {
			front = append(front, other[:1])
		}
		if n := len(other) - 1; other[:n] == word {
			back = append(back, other[n:])
		}
	}
	sameCoded(t, "FrontHooks of "+word, withCode(impl.FrontHooks(l, word)), strings.Join(front, ""), impl.OK)
	sameCoded(t, "BackHooks of "+word, withCode(impl.BackHooks(l, word)), strings.Join(back, ""), impl.OK)
}

func TestHooksByHand(t *testing.T) {
	l := lexicon("abcdefghijkl", "an", "ant", "at", "ate", "bcdefghijkl", "cat", "eat", "eats", "fat", "oat", "oats", "seat", "tan", "ten", "zbcdefghijkl", "zzzzzzzzzzzz")
	for word, want := range map[string][2]string{
		"at": {"cefo", "e"}, "eat": {"s", "s"}, "an": {"t", "t"}, "oat": {"", "s"}, "en": {"t", ""}, "t": {"a", ""}, "a": {"", "nt"}, "n": {"a", ""}, "ea": {"", "t"}, "ats": {"eo", ""},
		"ta": {"", "n"}, "seat": {"", ""}, "ten": {"", ""}, "z": {"", ""}, "q": {"", ""}, "xyz": {"", ""}, "te": {"a", "n"}, "ca": {"", "t"}, "ant": {"", ""},
		"bcdefghijkl": {"az", ""}, "abcdefghijk": {"", "l"}, "abcdefghijkl": {"", ""}, "zzzzzzzzzzz": {"z", "z"}, "zzzzzzzzzzzz": {"", ""}, "zzzzzzzzzz": {"", ""}, "aaaaaaaaaaaa": {"", ""},
	} {
		sameCoded(t, "FrontHooks of "+word, withCode(impl.FrontHooks(l, word)), want[0], impl.OK)
		sameCoded(t, "BackHooks of "+word, withCode(impl.BackHooks(l, word)), want[1], impl.OK)
		sameHooks(t, l, word)
	}
	var fronts, backs []string
	for _, c := range wordsOver(alphabet, 1, 1) {
		fronts, backs = append(fronts, c+"at"), append(backs, "at"+c)
	}
	sameCoded(t, "FrontHooks with all letters", withCode(impl.FrontHooks(lexicon(fronts...), "at")), alphabet, impl.OK)
	sameCoded(t, "BackHooks with no letter", withCode(impl.BackHooks(lexicon(fronts...), "at")), "", impl.OK)
	sameCoded(t, "BackHooks with all letters", withCode(impl.BackHooks(lexicon(backs...), "at")), alphabet, impl.OK)
	sameCoded(t, "FrontHooks with no letter", withCode(impl.FrontHooks(lexicon(backs...), "at")), "", impl.OK)
}

// nearWords are words of a lexicon, some of them with a letter less or more, and others.
func nearWords(l impl.Lexicon) []string {
	all := []string{"a", "b", "z", "ab", "ba", "aab", "aba", "tea", "ten", "abcdefghijkl", "aaaaaaaaaaaa", "zzzzzzzzzzz"}
	for i, word := range l.Words {
		if len(l.Words) > 60 && i%7 != 0 {
			continue
		}
		all = append(all, word, word[1:], word[:len(word)-1], word[:1]+word[2:], turned(word))
		if len(word) < 12 {
			all = append(all, "a"+word, word+"b")
		}
	}
	return sortedOnce(all)
}

// TestHooksMakeWords is promise 10 for hooks, and compares them with letters of both directions (chapter 9).
func TestHooksMakeWords(t *testing.T) {
	for _, l := range append(validLexicons(), fullLexicons()[1:]...) {
		d, code := impl.BuildBoth(l)
		for i, word := range nearWords(l) {
			sameHooks(t, l, word)
			front, _ := impl.FrontHooks(l, word)
			back, _ := impl.BackHooks(l, word)
			for _, c := range alphabet {
				same(t, "a front hook of "+word, strings.ContainsRune(front, c), slices.Contains(l.Words, string(c)+word))
				same(t, "a back hook of "+word, strings.ContainsRune(back, c), slices.Contains(l.Words, word+string(c)))
			}
			if code == impl.OK && len(d.Nodes) < 200 && i%4 == 0 {
				sameCoded(t, "FrontLetters of "+word, withCode(impl.FrontLetters(d, word)), front, impl.OK)
				sameCoded(t, "BackLetters of "+word, withCode(impl.BackLetters(d, word)), back, impl.OK)
			}
		}
	}
}

// withoutOne returns all strings that arise when a letter is taken from a word.
func withoutOne(word string) []string {
	var all []string
	for i := range word {
		all = append(all, word[:i]+word[i+1:])
	}
	return all
}

// withOneMore returns all strings that arise when a letter is put into a word.
func withOneMore(word string) []string {
	var all []string
	for i := range len(word) + 1 {
		for _, c := range alphabet {
			all = append(all, word[:i]+string(c)+word[i:])
		}
	}
	return all
}

// withOneChanged returns all strings that arise when a letter of a word is replaced by another one.
func withOneChanged(word string) []string {
	var all []string
	for i := range word {
		for _, c := range strings.ReplaceAll(alphabet, word[i:i+1], "") {
			all = append(all, word[:i]+string(c)+word[i+1:])
		}
	}
	return all
}

// sameNear checks all functions that return the words of a lexicon near a word, by making all strings near it.
func sameNear(t *testing.T, l impl.Lexicon, word string) {
	t.Helper()
	sameCodedList(t, "DropsOf "+word, withCode(impl.DropsOf(l, word)), inBoth(sortedOnce(withoutOne(word)), l.Words), impl.OK)
	sameCodedList(t, "InsertsOf "+word, withCode(impl.InsertsOf(l, word)), inBoth(sortedOnce(withOneMore(word)), l.Words), impl.OK)
	sameCodedList(t, "ChangesOf "+word, withCode(impl.ChangesOf(l, word)), inBoth(sortedOnce(withOneChanged(word)), l.Words), impl.OK)
}

// TestNearWordsByHand has words that arise in no way, in one and in several ways, also of the shortest and the greatest length.
func TestNearWordsByHand(t *testing.T) {
	l := lexicon("aa", "aaa", "aaaa", "aab", "ab", "aba", "abb", "an", "ant", "at", "ba", "bb", "eat", "eats", "seat", "tan", "ten", "tent", "test", "tt", "zzzzzzzzzzz", "zzzzzzzzzzzy", "zzzzzzzzzzzz")
	for word, want := range map[string][3][]string{
		"a":            {nil, {"aa", "ab", "an", "at", "ba"}, nil},
		"q":            {nil, nil, nil},
		"b":            {nil, {"ab", "ba", "bb"}, nil},
		"aa":           {nil, {"aaa", "aab", "aba"}, {"ab", "an", "at", "ba"}},
		"ab":           {nil, {"aab", "aba", "abb"}, {"aa", "an", "at", "bb"}},
		"bb":           {nil, {"abb"}, {"ab", "ba"}},
		"tt":           {nil, nil, {"at"}},
		"aaa":          {{"aa"}, {"aaaa"}, {"aab", "aba"}},
		"aaaa":         {{"aaa"}, nil, nil},
		"aaaaa":        {{"aaaa"}, nil, nil},
		"aab":          {{"aa", "ab"}, nil, {"aaa", "abb"}},
		"aba":          {{"aa", "ab", "ba"}, nil, {"aaa", "abb"}},
		"bab":          {{"ab", "ba", "bb"}, nil, {"aab"}},
		"bbb":          {{"bb"}, nil, {"abb"}},
		"aabb":         {{"aab", "abb"}, nil, nil},
		"baaa":         {{"aaa"}, nil, {"aaaa"}},
		"ant":          {{"an", "at"}, nil, nil},
		"tnt":          {{"tt"}, {"tent"}, {"ant"}},
		"eat":          {{"at"}, {"eats", "seat"}, nil},
		"seats":        {{"eats", "seat"}, nil, nil},
		"east":         {{"eat"}, nil, nil},
		"tet":          {{"tt"}, {"tent", "test"}, {"ten"}},
		"tens":         {{"ten"}, nil, {"tent"}},
		"tan":          {{"an"}, nil, {"ten"}},
		"xyz":          {nil, nil, nil},
		"zzzzzzzzzzz":  {nil, {"zzzzzzzzzzzy", "zzzzzzzzzzzz"}, nil},
		"zzzzzzzzzzzz": {{"zzzzzzzzzzz"}, nil, {"zzzzzzzzzzzy"}},
		"zzzzzzyzzzzz": {{"zzzzzzzzzzz"}, nil, {"zzzzzzzzzzzz"}},
		"zzzzzzzzzz":   {nil, {"zzzzzzzzzzz"}, nil},
	} {
		sameCodedList(t, "DropsOf "+word, withCode(impl.DropsOf(l, word)), want[0], impl.OK)
		sameCodedList(t, "InsertsOf "+word, withCode(impl.InsertsOf(l, word)), want[1], impl.OK)
		sameCodedList(t, "ChangesOf "+word, withCode(impl.ChangesOf(l, word)), want[2], impl.OK)
		sameNear(t, l, word)
	}
}

// TestNearWords compares words near others with strings made letter by letter, and holds them against one another.
func TestNearWords(t *testing.T) {
	for _, l := range append(validLexicons(), fullLexicons()...) {
		for _, word := range nearWords(l) {
			sameNear(t, l, word)
			drops, _ := impl.DropsOf(l, word)
			inserts, _ := impl.InsertsOf(l, word)
			changes, _ := impl.ChangesOf(l, word)
			front, _ := impl.FrontHooks(l, word)
			back, _ := impl.BackHooks(l, word)
			for _, c := range front {
				same(t, "a front hook among InsertsOf "+word, slices.Contains(inserts, string(c)+word), true)
			}
			for _, c := range back {
				same(t, "a back hook among InsertsOf "+word, slices.Contains(inserts, word+string(c)), true)
			}
			if !slices.Contains(l.Words, word) {
				continue
			}
			for _, list := range []struct {
				near []string
				back func(l impl.Lexicon, word string) ([]string, int64)
			}{{drops, impl.InsertsOf}, {inserts, impl.DropsOf}, {changes, impl.ChangesOf}} {
				for _, other := range list.near {
					again, code := list.back(l, other)
					same(t, word+" from "+other, code == impl.OK && slices.Contains(again, word), true)
				}
			}
		}
	}
}

// differences returns in how many places words of the same length differ, and -1 for other ones.
func differences(a, b string) int {
	if len(a) != len(b) {
		return -1
	}
	n := 0
	for i := range a {
		if a[i:i+1] != b[i:i+1] {
			n++
		}
	}
	return n
}

// isLadder reports whether a list is a ladder of a lexicon from one word to another one.
func isLadder(l impl.Lexicon, list []string, a, b string) bool {
	if len(list) == 0 || list[0] != a || list[len(list)-1] != b {
		return false
	}
	for i, word := range list {
		if !slices.Contains(l.Words, word) || i > 0 && differences(list[i-1], word) != 1 {
			return false
		}
	}
	return true
}

// farther is more than any number of steps of a shortest ladder.
const farther = 1000

// stepsTo returns, for each word of a lexicon, how many steps the shortest ladder from it to b has.
func stepsTo(l impl.Lexicon, b string) map[string]int {
	steps := map[string]int{}
	for _, word := range l.Words {
		steps[word] = farther
	}
	steps[b] = 0
	for changed := true; changed; {
		changed = false
		for _, word := range l.Words {
			for _, other := range l.Words {
				if differences(word, other) == 1 && steps[other]+1 < steps[word] {
					steps[word], changed = steps[other]+1, true
				}
			}
		}
	}
	return steps
}

// ladderBySteps is LadderBetween of words of a lexicon: from each word, it goes to the least one that is nearer to b.
func ladderBySteps(l impl.Lexicon, steps map[string]int, a, b string) coded[[]string] {
	if steps[a] >= farther {
		return withCode[[]string](nil, impl.ErrState)
	}
	ladder := []string{a}
	for a != b {
		for _, word := range l.Words {
			if differences(a, word) == 1 && steps[word] == steps[a]-1 {
				a = word
				break
			}
		}
		ladder = append(ladder, a)
	}
	return withCode(ladder, impl.OK)
}

// allLadders returns all ladders with so many different words that continue a ladder to b.
func allLadders(l impl.Lexicon, ladder []string, b string, n int) [][]string {
	last := ladder[len(ladder)-1]
	if len(ladder) == n {
		if last == b {
			return [][]string{slices.Clone(ladder)}
		}
		return nil
	}
	var all [][]string
	for _, word := range l.Words {
		if differences(last, word) == 1 && !slices.Contains(ladder, word) {
			all = append(all, allLadders(l, append(ladder[:len(ladder):len(ladder)], word), b, n)...)
		}
	}
	return all
}

// ladderByTrying is LadderBetween of words of a small lexicon, by making all ladders.
func ladderByTrying(l impl.Lexicon, a, b string) coded[[]string] {
	for n := range len(l.Words) + 1 {
		if all := allLadders(l, []string{a}, b, n); len(all) > 0 {
			return withCode(slices.MinFunc(all, slices.Compare), impl.OK)
		}
	}
	return withCode[[]string](nil, impl.ErrState)
}

func sameLadder(t *testing.T, l impl.Lexicon, a, b string, want []string, code int64) {
	t.Helper()
	sameCodedList(t, "LadderBetween "+strconv.Quote(a)+" and "+strconv.Quote(b)+" in "+strings.Join(l.Words[:min(20, len(l.Words))], " "), withCode(impl.LadderBetween(l, a, b)), want, code)
}

func TestLaddersByHand(t *testing.T) {
	cube := "aaa aab aba abb baa bab bba bbb"
	for _, made := range []struct{ words, ladder string }{
		{"an", "an"}, {"an at", "an"}, {"an at", "at"}, {"an at", "an at"}, {"an at", "at an"}, {"tan tin", "tan tin"}, {"tan ten tin", "tin tan"},
		{"abcdefghijkl", "abcdefghijkl"}, {"abcdefghijkl abcdefghijkm", "abcdefghijkm abcdefghijkl"}, {"abcdefghijkl zbcdefghijkl", "abcdefghijkl zbcdefghijkl"},
		{"cat cog cot dog", "cat cot cog dog"}, {"cat cog cot dog", "dog cog cot cat"},
		// Several shortest ladders, which part at the first step, at the last one, or at both.
		{"aa ab ba bb", "aa ab bb"}, {"aa ab ba bb", "bb ab aa"}, {"aa ab ba bb", "ab aa ba"}, {"aa ab ba bb", "ba aa ab"},
		{"cat cog cot dog dot", "cat cot cog dog"}, {"cat cog cot dog dot", "dog cog cot cat"},
		{cube, "aaa aab abb bbb"}, {cube, "bbb abb aab aaa"}, {cube, "aba aaa aab bab"}, {cube, "bab aab aaa aba"},
		{"aaa aab aba bab bba bbb", "aaa aab bab bbb"}, {"aaa aba abb baa bab bbb", "aaa aba abb bbb"}, {"aaa aba baa bab bba bbb", "aaa aba bba bbb"},
		// The least ladder back is another one.
		{"ba bb cb cd da dd", "bb ba da dd"}, {"ba bb cb cd da dd", "dd cd cb bb"},
		// The least word near the first one does not lead on, or not as fast.
		{"aa ab ac bc", "ab ac bc"}, {"aba abb acb add bbb", "aba abb bbb"}, {"aa ab ad bd cb cc cd", "ab cb cc"}, {"aac aba abb acc bbb bbc bcc", "acc bcc bbc bbb"},
		// Words that are less than the first one, and words of other lengths.
		{"aaa zaa zza zzz", "zzz zza zaa aaa"}, {"at ate bat bet but cut eat ta tea", "bat but cut"}, {"at ate eat mat mate met set seat sat sate", "at"},
	} {
		ladder := strings.Fields(made.ladder)
		sameLadder(t, lexicon(sortedOnce(strings.Fields(made.words))...), ladder[0], ladder[len(ladder)-1], ladder, impl.OK)
	}
	for _, made := range []struct{ words, a, b string }{
		{"an to", "an", "to"}, {"aa bb", "aa", "bb"}, {"aab aba", "aab", "aba"}, {"an na", "an", "na"}, {"aa ab ca cb dd", "aa", "dd"}, {"aa ab ca cb dd", "dd", "cb"}, {"aa ab ca cb dd de", "cb", "de"},
		{"ant eat", "ant", "eat"}, {"an ant", "an", "ant"}, {"an ant", "ant", "an"}, {"and an at", "at", "and"}, {"aa aaa aab ab", "aa", "aab"}, {"aa aaa aab ab", "aaa", "ab"},
		{"abcdefghijk abcdefghijkl", "abcdefghijk", "abcdefghijkl"}, {"abcdefghijkl bcdefghijkla", "abcdefghijkl", "bcdefghijkla"},
	} {
		sameLadder(t, lexicon(sortedOnce(strings.Fields(made.words))...), made.a, made.b, nil, impl.ErrState)
	}
}

// TestLaddersByTrying compares the ladders of small lexicons with all ladders that there are.
func TestLaddersByTrying(t *testing.T) {
	for _, set := range allSets("aa", "ab", "ac", "ba", "bb", "bc", "cb", "cc") {
		l := lexicon(set...)
		for _, a := range set {
			for _, b := range set {
				want := ladderByTrying(l, a, b)
				sameLadder(t, l, a, b, want.value, want.code)
			}
		}
	}
}

// snake are 200 words of which each one differs in one place from the one before it and from no other one before that.
func snake() []string {
	word := []byte("aaaaaaaaaaaa")
	all := []string{string(word)}
	for i := 1; len(all) < 200; i += 2 {
		for k := 0; word[i-1] != 'z' && len(all) < 200; k++ {
			word[i-k%2]++
			all = append(all, string(word))
		}
	}
	return all
}

// TestLongestLadder has a ladder of all 200 words of a lexicon, and no shorter one.
func TestLongestLadder(t *testing.T) {
	ladder := snake()
	same(t, "the first words", ladder[:5], []string{"aaaaaaaaaaaa", "abaaaaaaaaaa", "bbaaaaaaaaaa", "bcaaaaaaaaaa", "ccaaaaaaaaaa"})
	l := lexicon(sortedOnce(ladder)...)
	same(t, "number of words", len(l.Words), 200)
	back := slices.Clone(ladder)
	slices.Reverse(back)
	sameLadder(t, l, ladder[0], ladder[199], ladder, impl.OK)
	sameLadder(t, l, ladder[199], ladder[0], back, impl.OK)
	sameLadder(t, l, ladder[20], ladder[150], ladder[20:151], impl.OK)
	// Without a word, nothing leads from one side of it to the other one.
	less, _ := impl.RemoveWord(l, ladder[100])
	sameLadder(t, less, ladder[0], ladder[99], ladder[:100], impl.OK)
	sameLadder(t, less, ladder[0], ladder[101], nil, impl.ErrState)
	sameLadder(t, less, ladder[0], ladder[100], nil, impl.ErrNotFound)
}

// ladderLexicons are lexicons with many ladders, and others.
func ladderLexicons() []impl.Lexicon {
	all := append(validLexicons(), fullLexicons()[2], lexicon(wordsOver("abc", 4, 4)...), lexicon(sortedOnce(wordsOver("ab", 2, 6))...), lexicon(sortedOnce(wideWords())...))
	next := numbers(13)
	for i := range 30 {
		part := [][]string{wordsOver("abcde", 3, 3), wordsOver("abcd", 4, 4), wordsOver("ab", 8, 8)}[i%3]
		all = append(all, lexicon(sortedOnce(mixed(next, part)[:20+next(60)])...))
	}
	return all
}

// TestShortestLadders is promise 10 for ladders: each one is a ladder, the least one of the shortest, and as long as the one back.
func TestShortestLadders(t *testing.T) {
	next := numbers(14)
	different := 0
	for _, l := range ladderLexicons() {
		some := mixed(next, l.Words)
		for _, b := range some[:min(6, len(some))] {
			steps := stepsTo(l, b)
			for _, a := range some[:min(20, len(some))] {
				want := ladderBySteps(l, steps, a, b)
				sameLadder(t, l, a, b, want.value, want.code)
				there, code := impl.LadderBetween(l, a, b)
				back, codeBack := impl.LadderBetween(l, b, a)
				same(t, "code and length of a ladder back", withCode(len(back), codeBack), withCode(len(there), code))
				if code != impl.OK {
					continue
				}
				same(t, "a ladder from "+a+" to "+b, isLadder(l, there, a, b) && isLadder(l, back, b, a) && len(there) == steps[a]+1, true)
				slices.Reverse(back)
				if !slices.Equal(there, back) {
					different++
				}
				for i := range len(there) - 1 {
					changes, _ := impl.ChangesOf(l, there[i])
					same(t, "ChangesOf "+there[i]+" with "+there[i+1], slices.Contains(changes, there[i+1]), true)
				}
			}
		}
	}
	same(t, "ladders back that are other ones", different > 100, true)
}

// TestLadderErrors has words that are not in the lexicon, and strings that are no words and so are not in it either.
func TestLadderErrors(t *testing.T) {
	for _, l := range []impl.Lexicon{lexicon("an", "ant", "at", "to"), lexicon(gameWords()...), lexicon(append(manyWords(199), "an")...), lexicon(append(manyWords(199)[:100], "an", "to")...)} {
		for _, bad := range append(notLongWords(), "am", "bt", "ann", "anta", "aa", "zz", "abcdefghijkl") {
			sameLadder(t, l, bad, "an", nil, impl.ErrNotFound)
			sameLadder(t, l, "an", bad, nil, impl.ErrNotFound)
			sameLadder(t, l, bad, bad, nil, impl.ErrNotFound)
			sameLadder(t, l, bad, "zzz", nil, impl.ErrNotFound)
		}
	}
	sameLadder(t, lexicon(), "an", "an", nil, impl.ErrNotFound)
	sameLadder(t, lexicon("an", "ant"), "ant", "at", nil, impl.ErrNotFound)
	sameLadder(t, lexicon("an", "ant"), "an", "ant", nil, impl.ErrState)
}

// sameCompletions checks CompletionsOf a rack, by looking for the letters of each word.
func sameCompletions(t *testing.T, l impl.Lexicon, rack string) {
	t.Helper()
	letters := ""
	for _, c := range wordsOver(alphabet, 1, 1) {
		if len(wordsWhere(l, func(word string) bool {
			return len(word) == len(rack)+1 && missingTiles(rack+c, word) <= strings.Count(rack, "?")
		})) > 0 {
			letters += c
		}
	}
	sameCoded(t, "CompletionsOf "+rack, withCode(impl.CompletionsOf(l, rack)), letters, impl.OK)
}

func TestCompletionsByHand(t *testing.T) {
	l := lexicon("aabbccdd", "abcdefgh", "an", "ant", "at", "eat", "eats", "oo", "seat", "stone", "tan", "ten", "tern", "tin", "zzzzzzzz", "zzzzzzzzz")
	for rack, want := range map[string]string{
		"": "", "a": "nt", "n": "a", "o": "o", "t": "a", "e": "", "z": "", "?": "anot", "at": "en", "an": "t", "nt": "aei", "et": "an", "ae": "t", "tt": "", "?t": "aein", "?n": "aeit", "??": "aeint", "?q": "",
		"aet": "s", "ast": "e", "ent": "r", "?et": "anrs", "??e": "anrst", "???": "aenrst", "enst": "o", "nost": "e", "????": "enost", "?ent": "os",
		"abcdefg": "h", "bcdefgh": "a", "abcdefh": "g", "aabbccd": "d", "abbccdd": "a", "abcdeff": "", "zzzzzzz": "z", "?zzzzzz": "z", "?abcdef": "gh", "?aabbcc": "d", "???????": "abcdefghz", "??????z": "z",
		"??????a": "abcdefgh", "????abb": "acd", "???abcd": "abcdefgh",
	} {
		sameCoded(t, "CompletionsOf "+rack, withCode(impl.CompletionsOf(l, rack)), want, impl.OK)
		sameCompletions(t, l, rack)
	}
	var all, longer []string
	for _, c := range wordsOver(alphabet, 1, 1) {
		all, longer = append(all, "q"+c), append(longer, "aabbcc"+c+"d")
	}
	for rack, want := range map[string]string{"q": alphabet, "?": alphabet, "a": "q", "": "", "??": "", "aabbccd": "", "???????": ""} {
		sameCoded(t, "CompletionsOf "+rack+" with all letters", withCode(impl.CompletionsOf(lexicon(all...), rack)), want, impl.OK)
	}
	for rack, want := range map[string]string{"aabbccd": alphabet, "?aabbcc": alphabet, "???????": alphabet, "aabbccx": "d", "aabbcdx": "c", "aabbcxx": "", "q": "", "": ""} {
		sameCoded(t, "CompletionsOf "+rack+" with all letters", withCode(impl.CompletionsOf(lexicon(longer...), rack)), want, impl.OK)
	}
}

// TestCompletions compares CompletionsOf with the letters that are missing for each word.
func TestCompletions(t *testing.T) {
	next := numbers(15)
	racks := []string{"", "?", "???????", "aaaaaaa", "abcdefg", "zzzzzzz", "????aet", "aaabbbb"}
	for _, l := range validLexicons() {
		some := slices.Clone(racks)
		for _, word := range mixed(next, l.Words)[:min(8, len(l.Words))] {
			if len(word) > 8 {
				continue
			}
			// A word without a letter, also with blanks for its letters, and with a tile too few or too many.
			at := next(uint32(len(word)))
			rack := word[:at] + word[at+1:]
			some = append(some, sorted(rack), sorted("?"+rack[1:]), sorted(strings.Repeat("?", len(rack)/2)+rack[len(rack)/2:]), sorted(rack[1:]), sorted(word[:min(7, len(word))]))
		}
		for _, rack := range some {
			sameCompletions(t, l, rack)
			letters, _ := impl.CompletionsOf(l, rack)
			for _, c := range alphabet {
				tiles, _ := impl.AddTiles(rack, string(c))
				made, _ := impl.WordsFrom(l, tiles)
				whole := slices.ContainsFunc(made, func(word string) bool { return len(word) == len(tiles) })
				same(t, "CompletionsOf "+rack+" with "+string(c), strings.ContainsRune(letters, c), whole)
			}
		}
	}
}

// TestCompletionErrors has strings that are no racks, also piles with more tiles.
func TestCompletionErrors(t *testing.T) {
	bad := append(notPiles(), "ten", "et?", "tin", "Aet", "a a", "????????", "aaaaaaaa", "abcdefgh", "?abcdefg", alphabet, strings.Repeat("?", 120))
	for _, l := range []impl.Lexicon{{}, lexicon("aaaaaaaaa", "an", "ant", "ten"), lexicon(gameWords()...), lexicon(manyWords(200)...)} {
		for _, rack := range bad {
			sameCoded(t, "CompletionsOf "+strconv.Quote(rack), withCode(impl.CompletionsOf(l, rack)), "", impl.ErrInvalid)
		}
	}
}

// TestWordsThatAreNone gives strings that are no words to all functions with a word; words of one letter are words.
func TestWordsThatAreNone(t *testing.T) {
	bad := append(notWords(), "An", "an ", "a.", "*", "@", "a?", "abcdefghijklm")
	for _, l := range []impl.Lexicon{{}, lexicon("an", "ant", "at"), lexicon(gameWords()...), lexicon(manyWords(200)...), lexicon("aaaaaaaaaaaa", "abcdefghijkl")} {
		for _, s := range bad {
			what := strconv.Quote(s)
			sameCoded(t, "FrontHooks of "+what, withCode(impl.FrontHooks(l, s)), "", impl.ErrSyntax)
			sameCoded(t, "BackHooks of "+what, withCode(impl.BackHooks(l, s)), "", impl.ErrSyntax)
			sameCodedList(t, "DropsOf "+what, withCode(impl.DropsOf(l, s)), nil, impl.ErrSyntax)
			sameCodedList(t, "InsertsOf "+what, withCode(impl.InsertsOf(l, s)), nil, impl.ErrSyntax)
			sameCodedList(t, "ChangesOf "+what, withCode(impl.ChangesOf(l, s)), nil, impl.ErrSyntax)
		}
		for _, s := range wordsOver(alphabet, 1, 1) {
			sameHooks(t, l, s)
			sameNear(t, l, s)
		}
	}
}

// TestPatternsInInvalidLexicons gives lexicons that are not valid to every function that takes one; this is told
// before all else.
func TestPatternsInInvalidLexicons(t *testing.T) {
	for _, l := range append(invalidLexicons(), lexicon("tin", "ten"), lexicon("ten", "tin", "tin")) {
		words := append([]string{"an", "aaa", "t", "ten", "", "A", "a.", "****", "ba", "abcdefghijklm", "????????"}, l.Words[:min(2, len(l.Words))]...)
		for i, s := range words {
			what := strconv.Quote(s) + " in an invalid lexicon"
			sameCodedList(t, "WordsMatching "+what, withCode(impl.WordsMatching(l, s)), nil, impl.ErrInvalid)
			sameCoded(t, "FrontHooks of "+what, withCode(impl.FrontHooks(l, s)), "", impl.ErrInvalid)
			sameCoded(t, "BackHooks of "+what, withCode(impl.BackHooks(l, s)), "", impl.ErrInvalid)
			sameCodedList(t, "DropsOf "+what, withCode(impl.DropsOf(l, s)), nil, impl.ErrInvalid)
			sameCodedList(t, "InsertsOf "+what, withCode(impl.InsertsOf(l, s)), nil, impl.ErrInvalid)
			sameCodedList(t, "ChangesOf "+what, withCode(impl.ChangesOf(l, s)), nil, impl.ErrInvalid)
			sameCodedList(t, "LadderBetween words, from "+what, withCode(impl.LadderBetween(l, s, words[len(words)-1-i])), nil, impl.ErrInvalid)
			sameCodedList(t, "LadderBetween a word and itself, "+what, withCode(impl.LadderBetween(l, s, s)), nil, impl.ErrInvalid)
			sameCoded(t, "CompletionsOf "+what, withCode(impl.CompletionsOf(l, s)), "", impl.ErrInvalid)
		}
		sameCodedList(t, "WordsMatching all", withCode(impl.WordsMatching(l, "*")), nil, impl.ErrInvalid)
		sameCoded(t, "CompletionsOf the empty rack", withCode(impl.CompletionsOf(l, "")), "", impl.ErrInvalid)
	}
}

// TestPurityOfPatterns is promise 1 for chapter 10: arguments stay, also their unused capacity, and results are equal again.
func TestPurityOfPatterns(t *testing.T) {
	for i, l := range slices.Concat(validLexicons(), invalidLexicons(), []impl.Lexicon{lexicon(sortedOnce(snake())...)}) {
		a := roomyLexicon(l)
		words := []string{"a", "ab", "tea", "abb", "", "é", "aab", "*a.", "?ab"}
		if len(l.Words) > 0 {
			words = append(words, l.Words[0], l.Words[len(l.Words)-1])
		}
		for range 2 {
			for k, s := range words {
				other := words[len(words)-1-k]
				same(t, "WordsMatching", withCode(impl.WordsMatching(a, s)), withCode(impl.WordsMatching(l, s)))
				same(t, "FrontHooks", withCode(impl.FrontHooks(a, s)), withCode(impl.FrontHooks(l, s)))
				same(t, "BackHooks", withCode(impl.BackHooks(a, s)), withCode(impl.BackHooks(l, s)))
				same(t, "DropsOf", withCode(impl.DropsOf(a, s)), withCode(impl.DropsOf(l, s)))
				same(t, "InsertsOf", withCode(impl.InsertsOf(a, s)), withCode(impl.InsertsOf(l, s)))
				same(t, "ChangesOf", withCode(impl.ChangesOf(a, s)), withCode(impl.ChangesOf(l, s)))
				same(t, "LadderBetween", withCode(impl.LadderBetween(a, s, other)), withCode(impl.LadderBetween(l, s, other)))
				same(t, "CompletionsOf", withCode(impl.CompletionsOf(a, s)), withCode(impl.CompletionsOf(l, s)))
				same(t, "MatchPattern", impl.MatchPattern(s, other), impl.MatchPattern(s, other))
				same(t, "ValidPattern", impl.ValidPattern(s), impl.ValidPattern(s))
			}
		}
		if !slices.Equal(a.Words[:len(l.Words)+3], slices.Concat(l.Words, []string{"mark", "mark", "mark"})) {
			t.Errorf("the lexicon %d has changed", i)
		}
	}
}

// TestPatternsApart spoils each result, and looks at the argument and at a further result.
func TestPatternsApart(t *testing.T) {
	words := []string{"ab", "abb", "abc", "acb", "bb"}
	l := lexicon(words...)
	for what, result := range map[string]func() ([]string, int64){
		"WordsMatching of all":     func() ([]string, int64) { return impl.WordsMatching(l, "*") },
		"WordsMatching of some":    func() ([]string, int64) { return impl.WordsMatching(l, "ab*") },
		"DropsOf":                  func() ([]string, int64) { return impl.DropsOf(l, "abb") },
		"InsertsOf":                func() ([]string, int64) { return impl.InsertsOf(l, "ab") },
		"ChangesOf":                func() ([]string, int64) { return impl.ChangesOf(l, "abb") },
		"LadderBetween":            func() ([]string, int64) { return impl.LadderBetween(l, "abc", "acb") },
		"LadderBetween of itself":  func() ([]string, int64) { return impl.LadderBetween(l, "ab", "ab") },
		"LadderBetween of the two": func() ([]string, int64) { return impl.LadderBetween(l, "ab", "bb") },
	} {
		list, code := result()
		want := slices.Clone(list)
		same(t, what+" has words", len(want) > 0 && code == impl.OK, true)
		spoil(list, "spoilt")
		sameList(t, "the lexicon after a spoilt result of "+what, words, []string{"ab", "abb", "abc", "acb", "bb"})
		again, _ := result()
		sameList(t, what+" after a spoilt result", again, want)
	}
}

// TestPatternsAgain calls every function with strings, whatever they are, twice.
func TestPatternsAgain(t *testing.T) {
	for _, s := range append(oddStrings(), "an", "t*n", "?aet", strings.Repeat("*a", 5000), strings.Repeat("?", 120)) {
		same(t, "ValidPattern", impl.ValidPattern(s), isPattern(s))
		sameMatches(t, s, s, "a", "an", "tin")
		sameMatches(t, "*", s)
		for _, l := range []impl.Lexicon{{}, lexicon(gameWords()...), lexicon(s), lexicon("aa", s)} {
			same(t, "WordsMatching", withCode(impl.WordsMatching(l, s)), withCode(impl.WordsMatching(l, s)))
			same(t, "FrontHooks", withCode(impl.FrontHooks(l, s)), withCode(impl.FrontHooks(l, s)))
			same(t, "BackHooks", withCode(impl.BackHooks(l, s)), withCode(impl.BackHooks(l, s)))
			same(t, "DropsOf", withCode(impl.DropsOf(l, s)), withCode(impl.DropsOf(l, s)))
			same(t, "InsertsOf", withCode(impl.InsertsOf(l, s)), withCode(impl.InsertsOf(l, s)))
			same(t, "ChangesOf", withCode(impl.ChangesOf(l, s)), withCode(impl.ChangesOf(l, s)))
			same(t, "LadderBetween", withCode(impl.LadderBetween(l, s, s)), withCode(impl.LadderBetween(l, s, s)))
			same(t, "CompletionsOf", withCode(impl.CompletionsOf(l, s)), withCode(impl.CompletionsOf(l, s)))
		}
	}
}
