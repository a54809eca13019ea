package tests

import (
	"regexp"
	"slices"
	"strconv"
	"strings"
	"testing"

	"loop.example/g00911/impl"
)

// wordPattern matches words, and turnedPattern, for strings of at most 12 letters, the forms of words.
var (
	wordPattern   = regexp.MustCompile(`\A[a-z]{1,12}\z`)
	turnedPattern = regexp.MustCompile(`\A([a-z]+)(?:>([a-z]+))?\z`)
)

// fronted is a result of WordOfForm.
type fronted struct {
	word    string
	k, code int64
}

func sameWordOfForm(t *testing.T, form string, want fronted) {
	t.Helper()
	var got fronted
	got.word, got.k, got.code = impl.WordOfForm(form)
	if got != want {
		t.Errorf("WordOfForm of %q: got %v, want %v", form, got, want)
	}
}

// turned returns letters in reverse order.
func turned(s string) string {
	back := ""
	for _, c := range s {
		back = string(c) + back
	}
	return back
}

// formsOfWord returns the forms of a word, as the document tells them.
func formsOfWord(word string) []string {
	var forms []string
	for k := 1; k < len(word); k++ {
		forms = append(forms, turned(word[:k])+">"+word[k:])
	}
	return append(forms, turned(word))
}

// formsOfWords returns the forms of all words in strictly increasing order.
func formsOfWords(words ...string) []string {
	var all []string
	for _, word := range words {
		all = append(all, formsOfWord(word)...)
	}
	return sortedOnce(all)
}

// frontOf is WordOfForm by a regular expression.
func frontOf(form string) fronted {
	parts := turnedPattern.FindStringSubmatch(form)
	if parts == nil || len(parts[1])+len(parts[2]) > 12 {
		return fronted{"", 0, impl.ErrSyntax}
	}
	return fronted{turned(parts[1]) + parts[2], int64(len(parts[1])), impl.OK}
}

// wordsOfBoth returns the words of which a list has all forms, and true; false if it is not the list of all forms
// of a lexicon.
func wordsOfBoth(forms []string) ([]string, bool) {
	var words []string
	for _, form := range forms {
		words = append(words, frontOf(form).word)
	}
	words = sortedOnce(words)
	return words, isLexicon(lexicon(words...)) && slices.Equal(formsOfWords(words...), sortedOnce(forms))
}

// bothOf returns the automaton of both directions of some words.
func bothOf(words ...string) impl.Dawg {
	return automatonOf(formsOfWords(words...)...)
}

// sameBuiltBoth checks BuildBoth of a valid lexicon, and that the automaton leads back to it.
func sameBuiltBoth(t *testing.T, what string, words []string) impl.Dawg {
	t.Helper()
	want, wantCode := limitedDawg(formsOfWords(words...))
	d, code := impl.BuildBoth(lexicon(words...))
	sameDawg(t, "BuildBoth of "+what, d, code, want, wantCode)
	if code == impl.OK {
		same(t, "ValidBoth of "+what, impl.ValidBoth(d), true)
		l, code := impl.LexiconOfBoth(d)
		sameLexicon(t, "LexiconOfBoth of "+what, l, code, words, impl.OK)
	}
	return d
}

// sameAccepted checks AcceptsBoth with letters before and behind a place, be they letters or not.
func sameAccepted(t *testing.T, d impl.Dawg, words []string, before, behind string) {
	t.Helper()
	want := before != "" && slices.Contains(words, before+behind)
	if got := impl.AcceptsBoth(d, before, behind); got != want {
		t.Errorf("AcceptsBoth of %q and %q among %q: got %v, want %v", before, behind, words, got, want)
	}
}

// sameLetters checks all functions with letters around a place, by looking for all words.
func sameLetters(t *testing.T, d impl.Dawg, words []string, before, behind string) {
	t.Helper()
	found := func(before, behind string) coded[string] {
		if !wordPattern.MatchString(before + behind) {
			return withCode("", impl.ErrSyntax)
		}
		letters := ""
		for _, c := range alphabet {
			if slices.Contains(words, before+string(c)+behind) {
				letters += string(c)
			}
		}
		return withCode(letters, impl.OK)
	}
	what := strconv.Quote(before) + " and " + strconv.Quote(behind)
	same(t, "MiddleLetters of "+what, withCode(impl.MiddleLetters(d, before, behind)), found(before, behind))
	same(t, "FrontLetters of "+what, withCode(impl.FrontLetters(d, before+behind)), found("", before+behind))
	same(t, "BackLetters of "+what, withCode(impl.BackLetters(d, before+behind)), found(before+behind, ""))
}

// samePlaces checks PlacesOf letters, be they letters or not, by looking at every place.
func samePlaces(t *testing.T, d impl.Dawg, words []string, core string) {
	t.Helper()
	if !wordPattern.MatchString(core) {
		sameCodedList(t, "PlacesOf "+strconv.Quote(core), withCode(impl.PlacesOf(d, core)), nil, impl.ErrSyntax)
		return
	}
	var want []impl.Place
	for _, word := range words {
		for at := range word {
			if strings.HasPrefix(word[at:], core) {
				want = append(want, impl.Place{Word: word, At: int64(at)})
			}
		}
	}
	sameCodedList(t, "PlacesOf "+core+" in "+strings.Join(words, " "), withCode(impl.PlacesOf(d, core)), want, impl.OK)
}

// sameAround checks all functions with letters for every place of a word of the lexicon, or of another string.
func sameAround(t *testing.T, d impl.Dawg, words []string, s string) {
	t.Helper()
	for k := range len(s) + 1 {
		sameAccepted(t, d, words, s[:k], s[k:])
		sameLetters(t, d, words, s[:k], s[k:])
		samePlaces(t, d, words, s[:k])
		samePlaces(t, d, words, s[k:])
		if k < len(s) {
			sameLetters(t, d, words, s[:k], s[k+1:])
		}
	}
}

func TestFormsByHand(t *testing.T) {
	for word, want := range map[string][]string{
		"a":   {"a"},
		"z":   {"z"},
		"at":  {"a>t", "ta"},
		"aa":  {"a>a", "aa"},
		"tea": {"t>ea", "et>a", "aet"},
		"aba": {"a>ba", "ba>a", "aba"},
		"abcdefghijkl": {
			"a>bcdefghijkl", "ba>cdefghijkl", "cba>defghijkl", "dcba>efghijkl", "edcba>fghijkl", "fedcba>ghijkl",
			"gfedcba>hijkl", "hgfedcba>ijkl", "ihgfedcba>jkl", "jihgfedcba>kl", "kjihgfedcba>l", "lkjihgfedcba",
		},
	} {
		sameCodedList(t, "FormsOf "+word, withCode(impl.FormsOf(word)), want, impl.OK)
		for i, form := range want {
			sameWordOfForm(t, form, fronted{word, int64(i + 1), impl.OK})
		}
	}
}

// TestFormsLeadBack has the forms of many words; each one leads back to its word and its k.
func TestFormsLeadBack(t *testing.T) {
	seen := map[string]string{}
	for _, word := range sortedOnce(slices.Concat(wordsOver("ab", 1, 9), wordsOver("aet", 1, 5), someLongWords(), gameWords(), fullLexicons()[1].Words)) {
		forms := formsOfWord(word)
		sameCodedList(t, "FormsOf "+word, withCode(impl.FormsOf(word)), forms, impl.OK)
		same(t, "number of forms of "+word, len(forms), len(word))
		for i, form := range forms {
			sameWordOfForm(t, form, fronted{word, int64(i + 1), impl.OK})
			if other, met := seen[form]; met {
				t.Errorf("%s is a form of %s and %s", form, other, word)
			}
			seen[form] = word
		}
	}
}

func TestFormsOfNoWords(t *testing.T) {
	for _, s := range append(oddStrings(), "abcdefghijklm", "aaaaaaaaaaaaa", "a>t", ">", ">a", "a>", "At", "aT", "a t", "at\n", " at", "a?t", "at>", strings.Repeat("a", 5000)) {
		if wordPattern.MatchString(s) {
			sameCodedList(t, "FormsOf "+s, withCode(impl.FormsOf(s)), formsOfWord(s), impl.OK)
			continue
		}
		sameCodedList(t, "FormsOf "+strconv.Quote(s), withCode(impl.FormsOf(s)), nil, impl.ErrSyntax)
	}
}

// TestWordOfForm has strings that are forms, and others that are nearly so.
func TestWordOfForm(t *testing.T) {
	for form, want := range map[string]fronted{
		"a": {"a", 1, 0}, "z": {"z", 1, 0}, "ta": {"at", 2, 0}, "a>t": {"at", 1, 0}, "t>ea": {"tea", 1, 0}, "et>a": {"tea", 2, 0}, "aet": {"tea", 3, 0},
		"lkjihgfedcba": {"abcdefghijkl", 12, 0}, "a>bcdefghijkl": {"abcdefghijkl", 1, 0}, "kjihgfedcba>l": {"abcdefghijkl", 11, 0}, "zz>zz": {"zzzz", 2, 0},
	} {
		sameWordOfForm(t, form, want)
	}
	for _, s := range []string{
		"", ">", ">>", ">>>", ">a", "a>", ">a>", ">at", "at>", ">a>t", "a>t>", "a>>t", "a>b>c", "a>>", ">>a", "a>t>e>a",
		"abcdefghijklm", "abcdefghijkl>", ">abcdefghijkl", "a>bcdefghijklm", "abcdefghijkl>m", "abcdefg>hijklm", "abcdef>ghijklm", "abcdefghijklmn", "a>b>cdefghijkl", ">>>>>>>>>>>>>",
		"A", "A>t", "a>T", "at>E", "a=t", "a<t", "a>t ", " a>t", "a> t", "a >t", "a>t\n", "a\n>t", "a>?", "?>a", "a>1", "1>a", "a>-", "a>\x00", "\x00>a", "a>é", "é>a", "é", "a>\xff", "\xff>a", "\xa9\xc3", "\xa9\xc3>a", "a>ſ", "a>\u212a",
		strings.Repeat("a", 5000), strings.Repeat("a>", 5000), strings.Repeat(">", 5000), "a>" + strings.Repeat("b", 5000),
	} {
		sameWordOfForm(t, s, fronted{"", 0, impl.ErrSyntax})
	}
	for _, s := range slices.Concat(oddStrings(), wordsOver(">ab", 1, 6), wordsOver(">A", 1, 3), wordsOver("a", 10, 14)) {
		sameWordOfForm(t, s, frontOf(s))
		for c := range 256 {
			if len(s) < 3 {
				sameWordOfForm(t, s+string([]byte{byte(c)}), frontOf(s+string([]byte{byte(c)})))
			}
		}
	}
	for _, s := range wordsOver("b", 10, 14) {
		for k := range len(s) + 1 {
			sameWordOfForm(t, s[:k]+">"+s[k:], frontOf(s[:k]+">"+s[k:]))
			sameWordOfForm(t, s[:k]+">>"+s[k:], frontOf(s[:k]+">>"+s[k:]))
		}
	}
}

// TestBuildBothByHand has automata that were made by hand.
func TestBuildBothByHand(t *testing.T) {
	for _, made := range []struct {
		words []string
		text  string
	}{
		{nil, "-\n"},
		{[]string{}, "-\n"},
		{[]string{"at"}, "- a1 t4\n- >2\n- t3\n+\n- a3\n"},
		{[]string{"aa"}, "- a1\n- >2 a3\n- a3\n+\n"},
		{[]string{"tea"}, "- a1 e4 t7\n- e2\n- t3\n+\n- t5\n- >6\n- a3\n- >8\n- e6\n"},
		{[]string{"aba"}, "- a1 b5\n- >2 b3\n- b3\n- a4\n+\n- a6\n- >3\n"},
		{[]string{"aa", "aaa"}, "- a1\n- >2 a5\n- a3\n+ a4\n+\n+ >6 a4\n- a4\n"},
		{[]string{"at", "et"}, "- a1 e1 t4\n- >2\n- t3\n+\n- a3 e3\n"},
		{[]string{"ta", "te"}, "- a1 e1 t3\n- t2\n+\n- >4\n- a2 e2\n"},
	} {
		what := strings.Join(made.words, " ")
		d := sameBuiltBoth(t, what, made.words)
		same(t, "text of the automaton of "+what, impl.DawgText(d), made.text)
	}
}

// wideWords are 200 words of 12 letters, so they have as many forms as the words of a lexicon can have.
func wideWords() []string {
	var all []string
	for i := range 200 {
		word := "abcdefg"
		for _, part := range []struct {
			letters string
			step    int
		}{{"hijkl", 40}, {"mnopq", 8}, {"rs", 4}, {"tu", 2}, {"vw", 1}} {
			k := i / part.step % len(part.letters)
			word += part.letters[k : k+1]
		}
		all = append(all, word)
	}
	return all
}

// tightWords are 124 words whose automaton of both directions has 3000 nodes, and 76 words that need no further ones.
func tightWords() ([]string, []string) {
	var short []string
	for i := range 76 {
		short = append(short, alphabet[i/8:i/8+1]+alphabet[8+i%8:9+i%8])
	}
	return fullLexicons()[0].Words[:124:124], short
}

// bothLexicons are lexicons whose words contain others, have letters several times, and reach the limits.
func bothLexicons() []impl.Lexicon {
	all := append(validLexicons(), lexicon("ta", "tat", "tata"), lexicon("aa", "aaa", "aaaa", "aaaaa"), lexicon("ab", "ba"), lexicon("aba", "bab"), lexicon(wideWords()...))
	for _, set := range allSets("aa", "aaa", "aab", "ab", "aba", "abab", "ba", "bab") {
		all = append(all, lexicon(set...))
	}
	return all
}

// TestBuildBoth compares automata of both directions with their definition.
func TestBuildBoth(t *testing.T) {
	for i, l := range append(bothLexicons(), fullLexicons()...) {
		sameBuiltBoth(t, "the lexicon "+strconv.Itoa(i), l.Words)
	}
}

// TestLargestBoth has automata with as many words, forms and nodes as there may be, and one more. More than 2400 forms
// are not possible, so MaxForms is no limit here.
func TestLargestBoth(t *testing.T) {
	long, short := tightWords()
	tight := sortedOnce(slices.Concat(long, short))
	same(t, "number of words", len(tight), 200)
	sized := func(what string, words []string, nodes int, code int64) {
		t.Helper()
		sameSize(t, what, formsOfWords(words...), nodes)
		sameBuiltBoth(t, what, sortedOnce(words))
		_, got := impl.BuildBoth(lexicon(sortedOnce(words)...))
		same(t, "code of BuildBoth of "+what, got, code)
	}
	sized("a word less", long[:123], 2973, impl.OK)
	sized("3000 nodes", long, 3000, impl.OK)
	sized("3000 nodes and a word that needs none", append(long, "ai"), 3000, impl.OK)
	sized("3001 nodes", append(long, "aa"), 3001, impl.ErrFull)
	sized("a word of 12 letters more", fullLexicons()[0].Words[:125], 3027, impl.ErrFull)
	sized("200 words and 3000 nodes", tight, 3000, impl.OK)
	sized("199 words and 3000 nodes", slices.Concat(long, short[1:]), 3000, impl.OK)
	sized("200 words and 3001 nodes", slices.Concat(long, short[1:], []string{"aa"}), 3001, impl.ErrFull)
	same(t, "number of the most forms", len(formsOfWords(wideWords()...)), 2400)
	sameBuiltBoth(t, "200 words of 12 letters", wideWords())
	for _, words := range [][]string{append(wideWords(), "zz"), append(wideWords(), "zzzzzzzzzzzz"), append(tight[:200:200], "zz"), append(fullLexicons()[1].Words, "zzzzzzzzzzzz"), append(manyWords(200), "zz")} {
		same(t, "number of too many words", len(sortedOnce(words)), 201)
		d, code := impl.BuildBoth(lexicon(sortedOnce(words)...))
		sameDawg(t, "BuildBoth of 201 words", d, code, impl.Dawg{}, impl.ErrInvalid)
	}
}

// TestBuildBothErrors has lexicons that are not valid, also with words that would need too many nodes.
func TestBuildBothErrors(t *testing.T) {
	long, _ := tightWords()
	full := fullLexicons()[1].Words
	all := append(invalidLexicons(), lexicon(append(long, "a")...), lexicon(append(long, "aa")...), lexicon(append([]string{"zz"}, full[:150]...)...), lexicon(append(full[:199:199], full[198])...), lexicon(append(full[:150:150], "zz>")...))
	for _, l := range all {
		d, code := impl.BuildBoth(l)
		sameDawg(t, "BuildBoth of an invalid lexicon", d, code, impl.Dawg{}, impl.ErrInvalid)
	}
}

// sameNoBoth gives an automaton that is not one of both directions to every function that takes one; this is told
// before all else.
func sameNoBoth(t *testing.T, what string, d impl.Dawg) {
	t.Helper()
	same(t, "ValidBoth of "+what, impl.ValidBoth(d), false)
	l, code := impl.LexiconOfBoth(d)
	sameLexicon(t, "LexiconOfBoth of "+what, l, code, nil, impl.ErrInvalid)
	for _, s := range []string{"", "a", "at", "ab", "ba", "tea", "aaa", ">", "a>t", "A", "abcdefghijkl", "aaaaaaaaaaaaa"} {
		sameCodedList(t, "PlacesOf in "+what, withCode(impl.PlacesOf(d, s)), nil, impl.ErrInvalid)
		sameCoded(t, "FrontLetters in "+what, withCode(impl.FrontLetters(d, s)), "", impl.ErrInvalid)
		sameCoded(t, "BackLetters in "+what, withCode(impl.BackLetters(d, s)), "", impl.ErrInvalid)
		for k := range len(s) + 1 {
			same(t, "AcceptsBoth in "+what, impl.AcceptsBoth(d, s[:k], s[k:]), false)
			sameCoded(t, "MiddleLetters in "+what, withCode(impl.MiddleLetters(d, s[:k], s[k:])), "", impl.ErrInvalid)
		}
	}
}

// sameJudged checks whether the automaton of strings is one of both directions.
func sameJudged(t *testing.T, what string, forms []string) {
	t.Helper()
	d := automatonOf(forms...)
	same(t, "ValidDawg of "+what, impl.ValidDawg(d), true)
	words, ok := wordsOfBoth(forms)
	if !ok {
		sameNoBoth(t, what, d)
		return
	}
	same(t, "ValidBoth of "+what, impl.ValidBoth(d), true)
	l, code := impl.LexiconOfBoth(d)
	sameLexicon(t, "LexiconOfBoth of "+what, l, code, words, impl.OK)
}

// TestValidBothByDefinition has the automata of all sets of some strings, most of which are forms of words.
func TestValidBothByDefinition(t *testing.T) {
	for _, some := range [][]string{{"a", "a>a", "a>b", "a>ba", "aa", "ab", "aba", "b>a", "ba", "ba>a"}, {">", ">a", "a>", "a>a", "a>a>a", "aa", "aa>a", "a>aa", "aaa"}} {
		for _, set := range allSets(some...) {
			sameJudged(t, "the automaton of "+strings.Join(set, " "), set)
		}
	}
}

// TestNearlyBoth has automata that lack a form, or have one that they should not have.
func TestNearlyBoth(t *testing.T) {
	further := []string{"a", "z", ">", ">>", ">a", "a>", "t>", ">at", "at>", "at", "ta", "t>a", "a>t", "a>b>c", "aa", "aet", "eta", "et>a", "zz>zz", "zzzz", "abcdefghijkl", "abcdefghijkl>", "abcdefghijklm", "a>bcdefghijkl", "a>zzz>zzz"}
	for i, l := range []impl.Lexicon{lexicon(), lexicon("at"), lexicon("aa"), lexicon("ta"), lexicon("tea"), lexicon("aa", "aaa"), lexicon("ate", "eat", "tea"), lexicon("abcdefghijkl"), lexicon(gameWords()...)} {
		what, forms := "the lexicon "+strconv.Itoa(i), formsOfWords(l.Words...)
		sameJudged(t, what, forms)
		for k, form := range forms {
			if len(forms) > 40 && k%6 != 0 {
				continue
			}
			sameJudged(t, what+" without "+form, inFirst(forms, []string{form}))
			sameJudged(t, what+" without the word of "+form, inFirst(forms, formsOfWord(frontOf(form).word)))
			sameJudged(t, what+" with another form than "+form, append(inFirst(forms, []string{form}), form[:len(form)-1]+"z"))
		}
		for _, form := range further {
			sameJudged(t, what+" with "+form, sortedOnce(append(slices.Clone(forms), form)))
		}
		sameJudged(t, what+" of plain words", l.Words)
		sameJudged(t, what+" of words in reverse order", backward(l.Words))
		sameJudged(t, what+" in reverse order", backward(forms))
	}
	for i, set := range formSets() {
		sameJudged(t, "the automaton "+strconv.Itoa(i), set)
	}
	words := manyWords(201)
	sameNoBoth(t, "all forms of 201 words", bothOf(words...))
	same(t, "ValidBoth of all forms of 200 words", impl.ValidBoth(bothOf(words[:200]...)), true)
	sameNoBoth(t, "3000 forms", automatonOf(blockForms()...))
	sameNoBoth(t, "3000 nodes", automatonOf(pairedForms(296)...))
	sameNoBoth(t, "all forms of a word of one letter", bothOf("a"))
	sameNoBoth(t, "all forms of a word of one letter and others", bothOf("a", "at", "tea"))
	sameNoBoth(t, "what would be the forms of 13 letters", automatonOf("abcdefghijklm"))
	wide := formsOfWords(wideWords()...)
	for i := 0; i < len(wide); i += 397 {
		sameNoBoth(t, "200 words without a form", automatonOf(inFirst(wide, wide[i:i+1])...))
	}
}

// TestInvalidBoth gives automata that are not valid to every function that takes one.
func TestInvalidBoth(t *testing.T) {
	for what, d := range invalidDawgs() {
		sameNoBoth(t, what, d)
	}
	for _, l := range []impl.Lexicon{lexicon("at"), lexicon("aa", "aaa"), lexicon("ate", "tea")} {
		for _, d := range nearDawgs(bothOf(l.Words...)) {
			if forms, ok := acceptedBy(d); ok && isDawg(d) {
				sameJudged(t, "a near automaton", forms)
			} else {
				sameNoBoth(t, "a near automaton that is not valid", d)
			}
		}
	}
	long, _ := tightWords()
	sameNoBoth(t, "3001 nodes of both directions", bothOf(append(long, "aa")...))
}

// TestEmptyBoth has the automaton of the empty lexicon, which is valid.
func TestEmptyBoth(t *testing.T) {
	d := sameBuiltBoth(t, "nothing", nil)
	same(t, "its text", impl.DawgText(d), "-\n")
	for _, s := range []string{"a", "z", "at", "abcdefghijkl"} {
		sameAround(t, d, nil, s)
		sameCoded(t, "FrontLetters of "+s, withCode(impl.FrontLetters(d, s)), "", impl.OK)
		sameCodedList(t, "PlacesOf "+s, withCode(impl.PlacesOf(d, s)), nil, impl.OK)
	}
}

// TestBothDirections is promise 9: the same words are reached before and behind each of their letters.
func TestBothDirections(t *testing.T) {
	long, short := tightWords()
	for i, l := range append(bothLexicons(), lexicon(sortedOnce(append(long, short...))...)) {
		what := "the lexicon " + strconv.Itoa(i)
		d, code := impl.BuildBoth(l)
		same(t, "code of BuildBoth of "+what, code, int64(impl.OK))
		one, _ := impl.BuildDawg(l)
		back, code := impl.LexiconOfBoth(d)
		sameLexicon(t, "LexiconOfBoth of "+what, back, code, l.Words, impl.OK)
		again, _ := impl.BuildDawg(back)
		same(t, "the automaton of one direction of "+what, equalDawgs(one, again), true)
		for k, word := range l.Words {
			if k >= 20 && k%40 != i%40 {
				continue
			}
			for at := range word {
				if !impl.AcceptsBoth(d, word[:at+1], word[at+1:]) {
					t.Errorf("%s: %s is not accepted at %d", what, word, at)
				}
				places, code := impl.PlacesOf(d, word[at:])
				if code != impl.OK || !slices.Contains(places, impl.Place{Word: word, At: int64(at)}) {
					t.Errorf("%s: %s has no place in %s at %d", what, word[at:], word, at)
				}
			}
			first, _ := impl.FrontLetters(d, word[1:])
			last, _ := impl.BackLetters(d, word[:len(word)-1])
			middle, _ := impl.MiddleLetters(d, word[:len(word)/2], word[len(word)/2+1:])
			same(t, "letters that make "+word, strings.Contains(first, word[:1]) && strings.Contains(last, word[len(word)-1:]) && strings.Contains(middle, word[len(word)/2:len(word)/2+1]), true)
		}
	}
}

// TestAroundWords asks about all places in words of lexicons, and in strings that are near them.
func TestAroundWords(t *testing.T) {
	for i, l := range bothLexicons() {
		d := bothOf(l.Words...)
		for k, word := range l.Words {
			if len(l.Words) > 100 && k != i || len(l.Words) > 20 && k%8 != i%8 {
				continue
			}
			sameAround(t, d, l.Words, word)
			sameAround(t, d, l.Words, word[1:])
			sameAround(t, d, l.Words, turned(word))
			if k%5 == i%5 {
				sameAround(t, d, l.Words, word+"a")
				sameAround(t, d, l.Words, "b"+word)
			}
		}
	}
}

// TestAcceptsBoth has all pairs of some strings, also of such that would be forms if they were turned.
func TestAcceptsBoth(t *testing.T) {
	for _, words := range [][]string{{"at", "ta", "tat"}, {"aa", "aaa", "taa"}, {"att", "ta", "tt"}} {
		d := bothOf(words...)
		some := append(wordsOver(">at", 1, 3), "", "A", "a>t>", "t\x00", "\xff", "é", "aaaaaaaaaaaa", "aaaaaaaaaaaaa")
		for _, before := range some {
			for _, behind := range some {
				sameAccepted(t, d, words, before, behind)
				if len(before)+len(behind) < 5 || len(behind) > 10 {
					sameLetters(t, d, words, before, behind)
				}
			}
		}
		for _, s := range oddStrings() {
			sameAccepted(t, d, words, s, "")
			sameAccepted(t, d, words, "", s)
			sameAccepted(t, d, words, s, "a")
			sameAccepted(t, d, words, "a", s)
			sameLetters(t, d, words, s, "")
			sameLetters(t, d, words, "t", s)
			sameLetters(t, d, words, s, "t")
			samePlaces(t, d, words, s)
		}
	}
	d := bothOf("abcdefghijkl", "ta")
	for _, split := range []int{1, 6, 11, 12} {
		same(t, "AcceptsBoth of 12 letters", impl.AcceptsBoth(d, "abcdefghijkl"[:split], "abcdefghijkl"[split:]), true)
		same(t, "AcceptsBoth of 13 letters", impl.AcceptsBoth(d, "abcdefghijkl"[:split], "abcdefghijkl"[split:]+"m"), false)
	}
	same(t, "AcceptsBoth of nothing before", impl.AcceptsBoth(d, "", "ta"), false)
	same(t, "AcceptsBoth of nothing behind", impl.AcceptsBoth(d, "ta", ""), true)
	same(t, "AcceptsBoth of nothing", impl.AcceptsBoth(d, "", ""), false)
	same(t, "AcceptsBoth of a form", impl.AcceptsBoth(d, "t>a", ""), false)
	same(t, "AcceptsBoth of a turned form", impl.AcceptsBoth(d, "a>t", ""), false)
	same(t, "AcceptsBoth of >", impl.AcceptsBoth(d, "t", ">a"), false)
	same(t, "AcceptsBoth of a beginning", impl.AcceptsBoth(d, "t", ""), false)
}

// at makes a place.
func at(word string, k int64) impl.Place {
	return impl.Place{Word: word, At: k}
}

// TestPlacesByHand has letters that stand in words several times, also where they overlap.
func TestPlacesByHand(t *testing.T) {
	words := []string{"aaaa", "aba", "ababa", "banana", "cab", "zzzzzzzzzzzz"}
	d := bothOf(words...)
	for core, want := range map[string][]impl.Place{
		"a":      {at("aaaa", 0), at("aaaa", 1), at("aaaa", 2), at("aaaa", 3), at("aba", 0), at("aba", 2), at("ababa", 0), at("ababa", 2), at("ababa", 4), at("banana", 1), at("banana", 3), at("banana", 5), at("cab", 1)},
		"aa":     {at("aaaa", 0), at("aaaa", 1), at("aaaa", 2)},
		"aaa":    {at("aaaa", 0), at("aaaa", 1)},
		"aaaa":   {at("aaaa", 0)},
		"aaaaa":  nil,
		"ab":     {at("aba", 0), at("ababa", 0), at("ababa", 2), at("cab", 1)},
		"aba":    {at("aba", 0), at("ababa", 0), at("ababa", 2)},
		"ana":    {at("banana", 1), at("banana", 3)},
		"b":      {at("aba", 1), at("ababa", 1), at("ababa", 3), at("banana", 0), at("cab", 2)},
		"ba":     {at("aba", 1), at("ababa", 1), at("ababa", 3), at("banana", 0)},
		"banana": {at("banana", 0)},
		"c":      {at("cab", 0)},
		"cab":    {at("cab", 0)},
		"cabs":   nil,
		"q":      nil,
		"bb":     nil,
		"bac":    nil,
		"zzzzzzzzzzzz": {
			at("zzzzzzzzzzzz", 0),
		},
		"zzzzzzzzzzz":  {at("zzzzzzzzzzzz", 0), at("zzzzzzzzzzzz", 1)},
		"zzzzzzzzzz":   {at("zzzzzzzzzzzz", 0), at("zzzzzzzzzzzz", 1), at("zzzzzzzzzzzz", 2)},
		"azzzzzzzzzzz": nil,
	} {
		sameCodedList(t, "PlacesOf "+core, withCode(impl.PlacesOf(d, core)), want, impl.OK)
		samePlaces(t, d, words, core)
	}
	for _, core := range []string{"", "zzzzzzzzzzzzz", "A", "a>", ">a", ">", "a>b", "b>a", "a b", "?", "a?", "é", "\xff", strings.Repeat("a", 5000)} {
		sameCodedList(t, "PlacesOf "+strconv.Quote(core), withCode(impl.PlacesOf(d, core)), nil, impl.ErrSyntax)
	}
	// The words are in order, be the places near their beginnings or not.
	sameCodedList(t, "PlacesOf t", withCode(impl.PlacesOf(bothOf("aaat", "at", "baat", "tb", "ztt"), "t")), []impl.Place{at("aaat", 3), at("at", 1), at("baat", 3), at("tb", 0), at("ztt", 1), at("ztt", 2)}, impl.OK)
}

// sameFitting checks the letters that fit around a place.
func sameFitting(t *testing.T, words []string, before, behind, letters string, code int64) {
	t.Helper()
	d := bothOf(words...)
	what := strconv.Quote(before) + " and " + strconv.Quote(behind)
	sameCoded(t, "MiddleLetters of "+what, withCode(impl.MiddleLetters(d, before, behind)), letters, code)
	if before == "" {
		sameCoded(t, "FrontLetters of "+what, withCode(impl.FrontLetters(d, behind)), letters, code)
	}
	if behind == "" {
		sameCoded(t, "BackLetters of "+what, withCode(impl.BackLetters(d, before)), letters, code)
	}
}

// TestLettersByHand has no letter, one, some, and all letters around a place.
func TestLettersByHand(t *testing.T) {
	fronts, backs, middles := wordsOver(alphabet, 1, 1), wordsOver(alphabet, 1, 1), wordsOver(alphabet, 1, 1)
	for i, c := range alphabet {
		fronts[i], backs[i], middles[i] = string(c)+"a", "q"+string(c), "zz"+string(c)+"y"
	}
	sameFitting(t, fronts, "", "a", alphabet, impl.OK)
	sameFitting(t, fronts, "", "b", "", impl.OK)
	sameFitting(t, fronts, "q", "", "a", impl.OK)
	sameFitting(t, backs, "q", "", alphabet, impl.OK)
	sameFitting(t, backs, "", "q", "q", impl.OK)
	sameFitting(t, backs, "a", "", "", impl.OK)
	sameFitting(t, middles, "zz", "y", alphabet, impl.OK)
	sameFitting(t, middles, "z", "zy", "z", impl.OK)
	sameFitting(t, middles, "", "zzy", "z", impl.OK)
	sameFitting(t, middles, "zzz", "", "y", impl.OK)
	sameFitting(t, middles, "zzy", "", "y", impl.OK)
	sameFitting(t, middles, "y", "zz", "", impl.OK)
	tea := []string{"tea"}
	sameFitting(t, tea, "", "ea", "t", impl.OK)
	sameFitting(t, tea, "te", "", "a", impl.OK)
	sameFitting(t, tea, "t", "a", "e", impl.OK)
	sameFitting(t, tea, "", "a", "", impl.OK)
	sameFitting(t, tea, "t", "", "", impl.OK)
	sameFitting(t, tea, "", "tea", "", impl.OK)
	sameFitting(t, tea, "tea", "", "", impl.OK)
	sameFitting(t, tea, "te", "a", "", impl.OK)
	some := []string{"at", "ate", "bat", "bate", "cat", "eat", "et", "it", "ta", "tat", "tea", "teat"}
	sameFitting(t, some, "", "t", "aei", impl.OK)
	sameFitting(t, some, "", "at", "bcet", impl.OK)
	sameFitting(t, some, "", "ate", "b", impl.OK)
	sameFitting(t, some, "at", "", "e", impl.OK)
	sameFitting(t, some, "t", "", "a", impl.OK)
	sameFitting(t, some, "tea", "", "t", impl.OK)
	sameFitting(t, some, "t", "t", "a", impl.OK)
	sameFitting(t, some, "t", "at", "e", impl.OK)
	sameFitting(t, some, "te", "t", "a", impl.OK)
	sameFitting(t, some, "a", "e", "t", impl.OK)
	twelve := []string{"aaaaaaaaaaaa", "abcdefghijkl", "bcdefghijkl", "zbcdefghijkl"}
	sameFitting(t, twelve, "", "bcdefghijkl", "az", impl.OK)
	sameFitting(t, twelve, "abcdefghijk", "", "l", impl.OK)
	sameFitting(t, twelve, "abcdef", "hijkl", "g", impl.OK)
	sameFitting(t, twelve, "", "abcdefghijkl", "", impl.OK)
	sameFitting(t, twelve, "abcdefghijkl", "", "", impl.OK)
	sameFitting(t, twelve, "abcdef", "ghijkl", "", impl.OK)
	sameFitting(t, twelve, "a", "aaaaaaaaaaa", "", impl.OK)
	sameFitting(t, twelve, "aaaaaaaaaaa", "", "a", impl.OK)
	sameFitting(t, twelve, "", "abcdefghijklm", "", impl.ErrSyntax)
	sameFitting(t, twelve, "abcdefghijklm", "", "", impl.ErrSyntax)
	sameFitting(t, twelve, "abcdef", "ghijklm", "", impl.ErrSyntax)
	sameFitting(t, twelve, "", "", "", impl.ErrSyntax)
	for _, s := range []string{">", "A", "a>b", "b>a", ">a", "a>", "a b", "?", "é", "\xff", strings.Repeat("a", 5000)} {
		sameFitting(t, some, s, "", "", impl.ErrSyntax)
		sameFitting(t, some, "", s, "", impl.ErrSyntax)
		sameFitting(t, some, s, "t", "", impl.ErrSyntax)
		sameFitting(t, some, "t", s, "", impl.ErrSyntax)
	}
}

// TestPurityOfBoth is promise 1 for chapter 9: arguments stay, also their unused capacity, and results are equal again.
func TestPurityOfBoth(t *testing.T) {
	all := append(validDawgs(), bothOf("at"), bothOf("aa", "aaa"), bothOf("ate", "eat", "tea"), bothOf(gameWords()...), bothOf(wideWords()...))
	for _, d := range invalidDawgs() {
		if len(d.Nodes) < 100 {
			all = append(all, d)
		}
	}
	for i, d := range all {
		copied := copiedDawg(d)
		for range 2 {
			same(t, "ValidBoth", impl.ValidBoth(copied), impl.ValidBoth(d))
			same(t, "LexiconOfBoth", withCode(impl.LexiconOfBoth(copied)), withCode(impl.LexiconOfBoth(d)))
			for _, s := range []string{"a", "at", "abcdefg", "", ">"} {
				same(t, "AcceptsBoth", impl.AcceptsBoth(copied, s, "t"), impl.AcceptsBoth(d, s, "t"))
				same(t, "PlacesOf", withCode(impl.PlacesOf(copied, s)), withCode(impl.PlacesOf(d, s)))
				same(t, "FrontLetters", withCode(impl.FrontLetters(copied, s)), withCode(impl.FrontLetters(d, s)))
				same(t, "BackLetters", withCode(impl.BackLetters(copied, s)), withCode(impl.BackLetters(d, s)))
				same(t, "MiddleLetters", withCode(impl.MiddleLetters(copied, s, "t")), withCode(impl.MiddleLetters(d, s, "t")))
			}
		}
		if !keptCopy(copied, d) {
			t.Errorf("the automaton %d has changed", i)
		}
	}
	for i, l := range slices.Concat(bothLexicons(), invalidLexicons(), fullLexicons()) {
		a := roomyLexicon(l)
		first, code := impl.BuildBoth(a)
		second, again := impl.BuildBoth(l)
		same(t, "BuildBoth again", code == again && equalDawgs(first, second), true)
		if !slices.Equal(a.Words[:len(l.Words)+3], append(slices.Clone(l.Words), "mark", "mark", "mark")) {
			t.Errorf("the lexicon %d has changed", i)
		}
	}
	for _, s := range append(oddStrings(), "at", "a>t", "tea", "et>a") {
		same(t, "FormsOf again", withCode(impl.FormsOf(s)), withCode(impl.FormsOf(s)))
		var first fronted
		first.word, first.k, first.code = impl.WordOfForm(s)
		sameWordOfForm(t, s, first)
	}
}

// TestBothApart spoils each result, and looks at the other parts of it, the argument and a further result.
func TestBothApart(t *testing.T) {
	words := []string{"at", "ate", "eat", "tat", "tea"}
	want := bothOf(words...)
	for i := range want.Nodes {
		d, _ := impl.BuildBoth(lexicon(words...))
		spoil(d.Nodes[i].Next, 99)
		for k, x := range d.Nodes {
			if k != i && !equalDawgs(dawg(x), dawg(want.Nodes[k])) {
				t.Errorf("BuildBoth: the node %d shares memory with the node %d", k, i)
			}
		}
		spoil(d.Nodes, node(true, "spoilt", 5))
		again, code := impl.BuildBoth(lexicon(words...))
		sameDawg(t, "BuildBoth after a spoilt result", again, code, want, impl.OK)
	}
	sameList(t, "words after spoilt results", words, []string{"at", "ate", "eat", "tat", "tea"})
	d := bothOf(words...)
	l, _ := impl.LexiconOfBoth(d)
	spoil(l.Words, "spoilt")
	l, code := impl.LexiconOfBoth(d)
	sameLexicon(t, "LexiconOfBoth after a spoilt result", l, code, words, impl.OK)
	places, _ := impl.PlacesOf(d, "at")
	spoil(places, at("spoilt", 99))
	samePlaces(t, d, words, "at")
	forms, _ := impl.FormsOf("tea")
	spoil(forms, "spoilt")
	sameCodedList(t, "FormsOf after a spoilt result", withCode(impl.FormsOf("tea")), []string{"t>ea", "et>a", "aet"}, impl.OK)
	same(t, "the automaton after spoilt results", equalDawgs(d, want), true)
}
