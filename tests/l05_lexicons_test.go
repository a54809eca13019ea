package tests

import (
	"math"
	"regexp"
	"slices"
	"strconv"
	"strings"
	"testing"

	"loop.example/g00911/impl"
)

// lexicon makes a lexicon, be it a valid one or not.
func lexicon(words ...string) impl.Lexicon {
	return impl.Lexicon{Words: words}
}

// manyWords returns n words of three letters, aaa, aab and so on; n is at most 676.
func manyWords(n int) []string {
	var all []string
	for i := range n {
		all = append(all, "a"+alphabet[i/26:i/26+1]+alphabet[i%26:i%26+1])
	}
	return all
}

// gameWords are words with many anagrams and common beginnings.
func gameWords() []string {
	return strings.Fields("an ant ants are as at ate ear earn eat eats en er es ne near nest net rat rate rest sat sea seat set ta tar tea ten tern test")
}

// validLexicons are lexicons that reach the limits, and others.
func validLexicons() []impl.Lexicon {
	all := []impl.Lexicon{
		{}, {Words: []string{}}, lexicon("aa"), lexicon("zz"), lexicon("abcdefghijkl"), lexicon("zzzzzzzzzzzz"), lexicon("aa", "aaaaaaaaaaaa"), lexicon("aa", "zz"),
		lexicon("tar", "tart", "toe"), lexicon("ab", "abc", "abcd", "abd", "ac", "ba"), lexicon("aaaaaaaaaaaa", "aaaaaaaaaaab", "ab"), lexicon(gameWords()...),
		lexicon(manyWords(199)...), lexicon(manyWords(200)...), lexicon("aet", "ate", "eat", "eta", "tae", "tea"),
	}
	next := numbers(8)
	for _, part := range [][]string{wordsOver("ab", 2, 6), wordsOver("aet", 2, 4), someLongWords(), manyWords(300)} {
		for range 8 {
			var words []string
			for range next(60) {
				words = append(words, part[next(uint32(len(part)))])
			}
			slices.Sort(words)
			all = append(all, lexicon(slices.Compact(words)...))
		}
	}
	return all
}

// invalidLexicons are lexicons that are not valid, each for one reason or another.
func invalidLexicons() []impl.Lexicon {
	all := []impl.Lexicon{
		lexicon(manyWords(201)...), lexicon(manyWords(676)...), lexicon(slices.Repeat([]string{"an"}, 200)...), lexicon(slices.Repeat([]string{"an"}, 5000)...),
		lexicon(append(manyWords(200), "zz")...), lexicon(append(manyWords(200), "aaa")...), lexicon(append(manyWords(199), "aaa")...),
		lexicon("an", "an"), lexicon("at", "an"), lexicon("an", "at", "an"), lexicon("an", "an", "at"), lexicon("an", "at", "at"), lexicon("an", "at", "as"),
		lexicon("at", "an", "be"), lexicon("tart", "tar"), lexicon("abb", "ab"), lexicon("b", "cc"), lexicon("zz", "aaa"), lexicon("ab", "aab"), lexicon("ba", "aa", "bb"),
		lexicon("", "an"), lexicon(""), lexicon("", ""), lexicon("a"), lexicon("a", "b"), lexicon("an", ""), lexicon("an", "z"), lexicon("abcdefghijklm"),
		lexicon(append(manyWords(200)[:199], "b")...), lexicon(make([]string, 200)...), lexicon(make([]string, 5000)...),
	}
	for _, bad := range notLongWords() {
		all = append(all, lexicon(bad), lexicon(bad, "zzz"), lexicon("aa", bad), lexicon("aa", bad, "zz"))
	}
	return all
}

// isLexicon reports whether a lexicon is valid, by a regular expression and by sorting.
func isLexicon(l impl.Lexicon) bool {
	for _, word := range l.Words {
		if !longWord.MatchString(word) {
			return false
		}
	}
	return len(l.Words) <= 200 && slices.Equal(sortedOnce(l.Words), l.Words)
}

// sortedOnce returns words in ascending order, each once.
func sortedOnce(words []string) []string {
	all := slices.Clone(words)
	slices.Sort(all)
	return slices.Compact(all)
}

// mixed returns the elements of a list in another order.
func mixed(next func(n uint32) int64, list []string) []string {
	all := slices.Clone(list)
	for i := range all {
		k := next(uint32(i + 1))
		all[i], all[k] = all[k], all[i]
	}
	return all
}

// roomyLexicon is a copy of a lexicon whose list has unused capacity.
func roomyLexicon(l impl.Lexicon) impl.Lexicon {
	return impl.Lexicon{Words: roomy(l.Words, "mark")}
}

// sameLexicon checks a lexicon with a code; if that is OK, the lexicon must be valid.
func sameLexicon(t *testing.T, what string, l impl.Lexicon, got int64, want []string, code int64) {
	t.Helper()
	sameCodedList(t, what, withCode(l.Words, got), want, code)
	if got == impl.OK && !isLexicon(l) {
		t.Errorf("%s: %q is not valid", what, l.Words)
	}
}

func sameMade(t *testing.T, what string, words, want []string, code int64) {
	t.Helper()
	l, got := impl.MakeLexicon(words)
	sameLexicon(t, "MakeLexicon of "+what, l, got, want, code)
}

func sameAdded(t *testing.T, l impl.Lexicon, word string, want []string, code int64) {
	t.Helper()
	more, got := impl.AddWord(l, word)
	sameLexicon(t, "AddWord of "+strconv.Quote(word)+" to "+strings.Join(l.Words, " "), more, got, want, code)
}

func sameRemoved(t *testing.T, l impl.Lexicon, word string, want []string, code int64) {
	t.Helper()
	fewer, got := impl.RemoveWord(l, word)
	sameLexicon(t, "RemoveWord of "+strconv.Quote(word)+" from "+strings.Join(l.Words, " "), fewer, got, want, code)
}

func sameMerged(t *testing.T, what string, a, b impl.Lexicon, want []string, code int64) {
	t.Helper()
	both, got := impl.MergeLexicons(a, b)
	sameLexicon(t, "MergeLexicons of "+what, both, got, want, code)
	both, got = impl.MergeLexicons(b, a)
	sameLexicon(t, "MergeLexicons the other way round of "+what, both, got, want, code)
}

// found is a result of PrefixRange.
type found struct{ first, count, code int64 }

func sameRange(t *testing.T, l impl.Lexicon, prefix string, first, count, code int64) {
	t.Helper()
	var got found
	got.first, got.count, got.code = impl.PrefixRange(l, prefix)
	if got != (found{first, count, code}) {
		t.Errorf("PrefixRange of %q in %q: got %v, want %v", prefix, l.Words, got, found{first, count, code})
	}
}

func TestLimitsOfLexicons(t *testing.T) {
	same(t, "MaxWords", impl.MaxWords, 200)
}

func TestValidLexicon(t *testing.T) {
	for i, l := range validLexicons() {
		same(t, "ValidLexicon of the valid one "+strconv.Itoa(i), impl.ValidLexicon(l), true)
		same(t, "isLexicon of the valid one "+strconv.Itoa(i), isLexicon(l), true)
	}
	for i, l := range invalidLexicons() {
		same(t, "ValidLexicon of the invalid one "+strconv.Itoa(i), impl.ValidLexicon(l), false)
		same(t, "isLexicon of the invalid one "+strconv.Itoa(i), isLexicon(l), false)
	}
}

// TestValidLexiconByPattern compares ValidLexicon for all lists of up to three of some strings.
func TestValidLexiconByPattern(t *testing.T) {
	some := []string{"", "a", "aa", "ab", "aba", "b", "ba", "A", "aA", "a{", "{", "aaaaaaaaaaaa", "aaaaaaaaaaaaa", "zz"}
	for _, a := range some {
		for _, b := range some {
			for _, c := range some {
				for _, words := range [][]string{{a}, {a, b}, {a, b, c}} {
					same(t, "ValidLexicon of "+strings.Join(words, ","), impl.ValidLexicon(lexicon(words...)), isLexicon(lexicon(words...)))
				}
			}
		}
	}
}

// TestInvalidLexicons gives lexicons that are not valid to every function that takes one; they are told before all else.
func TestInvalidLexicons(t *testing.T) {
	for _, l := range invalidLexicons() {
		for _, word := range []string{"an", "aaa", "zz", "", "a", "A", "abcdefghijklm"} {
			same(t, "HasWord", impl.HasWord(l, word), false)
			sameAdded(t, l, word, nil, impl.ErrInvalid)
			sameRemoved(t, l, word, nil, impl.ErrInvalid)
			sameRange(t, l, word, 0, 0, impl.ErrInvalid)
			sameCodedList(t, "AnagramsOf", withCode(impl.AnagramsOf(l, word)), nil, impl.ErrInvalid)
		}
		for _, word := range l.Words[:min(3, len(l.Words))] {
			same(t, "HasWord", impl.HasWord(l, word), false)
			sameAdded(t, l, word, nil, impl.ErrInvalid)
			sameRemoved(t, l, word, nil, impl.ErrInvalid)
			sameRange(t, l, word, 0, 0, impl.ErrInvalid)
		}
		for _, n := range []int64{-1, 0, 1, 2, 3, 13} {
			sameCodedList(t, "WordsOfLength", withCode(impl.WordsOfLength(l, n)), nil, impl.ErrInvalid)
		}
		for _, pile := range []string{"", "?an", "ba", "A", strings.Repeat("?", 120), strings.Repeat("?", 121)} {
			sameCodedList(t, "WordsFrom", withCode(impl.WordsFrom(l, pile)), nil, impl.ErrInvalid)
		}
		for _, other := range []impl.Lexicon{{}, lexicon("an"), lexicon(manyWords(200)...), l, lexicon("a")} {
			sameMerged(t, "an invalid one", l, other, nil, impl.ErrInvalid)
		}
		same(t, "LexiconText", impl.LexiconText(l), "")
	}
}

func TestSameLexicon(t *testing.T) {
	all := append(validLexicons(), invalidLexicons()...)
	all = append(all, lexicon("tar", "toe", "tart"), lexicon("tar", "tart"), lexicon("tart", "toe"), lexicon("tar", "tart", "toe", "toe"),
		lexicon("tar", "tart", "tow"), lexicon("tar", "tart", "Toe"), lexicon("tartoe"), lexicon("tar tart toe"))
	for i, a := range all {
		if b := roomyLexicon(a); !impl.SameLexicon(a, b) || !impl.SameLexicon(b, a) {
			t.Errorf("SameLexicon: the lexicon %d differs from its copy", i)
		}
		for k, b := range all {
			if impl.SameLexicon(a, b) != slices.Equal(a.Words, b.Words) {
				t.Errorf("SameLexicon of the lexicons %d and %d: wrong", i, k)
			}
		}
	}
	same(t, "nil and empty lists", impl.SameLexicon(lexicon(), impl.Lexicon{Words: []string{}}), true)
	same(t, "an empty list and an empty string", impl.SameLexicon(lexicon(), lexicon("")), false)
}

func TestMakeLexicon(t *testing.T) {
	sameMade(t, "nothing", nil, nil, impl.OK)
	sameMade(t, "an empty list", []string{}, nil, impl.OK)
	sameMade(t, "one word", []string{"an"}, []string{"an"}, impl.OK)
	sameMade(t, "a word twice", []string{"an", "an"}, []string{"an"}, impl.OK)
	sameMade(t, "words in order", []string{"tar", "tart", "toe"}, []string{"tar", "tart", "toe"}, impl.OK)
	sameMade(t, "words in reverse order", []string{"toe", "tart", "tar"}, []string{"tar", "tart", "toe"}, impl.OK)
	sameMade(t, "words with one twice", []string{"toe", "tar", "tart", "tar"}, []string{"tar", "tart", "toe"}, impl.OK)
	sameMade(t, "words twice apart", []string{"tar", "toe", "tar", "toe"}, []string{"tar", "toe"}, impl.OK)
	sameMade(t, "words of two and twelve letters", []string{"zzzzzzzzzzzz", "aa"}, []string{"aa", "zzzzzzzzzzzz"}, impl.OK)
	sameMade(t, "words of several lengths", []string{"ba", "ab", "aab", "abab", "aa"}, []string{"aa", "aab", "ab", "abab", "ba"}, impl.OK)
}

// TestMakeLexiconLimit has as many words as there may be, and one more, also with words that are given several times.
func TestMakeLexiconLimit(t *testing.T) {
	next := numbers(9)
	for _, n := range []int{199, 200} {
		words := manyWords(n)
		sameMade(t, strconv.Itoa(n)+" words", mixed(next, words), words, impl.OK)
		sameMade(t, strconv.Itoa(n)+" words twice", mixed(next, slices.Repeat(words, 2)), words, impl.OK)
		sameMade(t, strconv.Itoa(n)+" words and one again", append(mixed(next, words), words[n-1]), words, impl.OK)
		sameMade(t, strconv.Itoa(n)+" words many times", mixed(next, slices.Repeat(words, 50)), words, impl.OK)
	}
	for _, n := range []int{201, 202, 676} {
		sameMade(t, strconv.Itoa(n)+" words", mixed(next, manyWords(n)), nil, impl.ErrFull)
		sameMade(t, strconv.Itoa(n)+" words twice", slices.Repeat(manyWords(n), 2), nil, impl.ErrFull)
	}
	sameMade(t, "one word many times", slices.Repeat([]string{"an"}, 5000), []string{"an"}, impl.OK)
}

// TestMakeLexiconErrors has strings that are no long words in every place, also where there are too many words.
func TestMakeLexiconErrors(t *testing.T) {
	full, over := manyWords(200), manyWords(201)
	for _, bad := range notLongWords() {
		what := strconv.Quote(bad)
		sameMade(t, what, []string{bad}, nil, impl.ErrSyntax)
		sameMade(t, what+" behind a word", []string{"an", bad}, nil, impl.ErrSyntax)
		sameMade(t, what+" ahead of a word", []string{bad, "an"}, nil, impl.ErrSyntax)
		sameMade(t, what+" twice", []string{bad, bad}, nil, impl.ErrSyntax)
		sameMade(t, what+" behind 200 words", append(full[:200:200], bad), nil, impl.ErrSyntax)
		sameMade(t, what+" behind 201 words", append(over[:201:201], bad), nil, impl.ErrSyntax)
		sameMade(t, what+" ahead of 201 words", slices.Concat([]string{bad}, over), nil, impl.ErrSyntax)
		sameMade(t, what+" among 201 words", slices.Concat(over[:100], []string{bad}, over[100:]), nil, impl.ErrSyntax)
	}
	sameMade(t, "201 strings that are no words", make([]string, 201), nil, impl.ErrSyntax)
}

// TestLexiconsDoNotDependOnOrder is promise 5: the same words make the same lexicon, in whatever order and by whatever functions.
func TestLexiconsDoNotDependOnOrder(t *testing.T) {
	next := numbers(10)
	for _, l := range validLexicons() {
		n := len(l.Words)
		for range 3 {
			words := mixed(next, l.Words)
			sameMade(t, "mixed words", words, l.Words, impl.OK)
			sameMade(t, "mixed words, some twice", mixed(next, append(words[:n:n], words[:n/2]...)), l.Words, impl.OK)
			var added impl.Lexicon
			for _, word := range words {
				var code int64
				added, code = impl.AddWord(added, word)
				same(t, "AddWord of "+word, code, int64(impl.OK))
			}
			same(t, "a lexicon made word by word", impl.SameLexicon(added, l), true)
			one, _ := impl.MakeLexicon(words[:n/2])
			two, _ := impl.MakeLexicon(words[n/3:])
			sameMerged(t, "parts of the words", one, two, l.Words, impl.OK)
			for _, word := range mixed(next, l.Words) {
				var code int64
				added, code = impl.RemoveWord(added, word)
				same(t, "RemoveWord of "+word, code, int64(impl.OK))
			}
			same(t, "a lexicon without its words", impl.SameLexicon(added, impl.Lexicon{}), true)
		}
	}
}

// TestOrdersOfFour makes a lexicon of four words in all orders.
func TestOrdersOfFour(t *testing.T) {
	words := []string{"ab", "aba", "abb", "ba"}
	for i := range 256 {
		order := []string{words[i&3], words[i>>2&3], words[i>>4&3], words[i>>6&3]}
		sameMade(t, strings.Join(order, " "), order, sortedOnce(order), impl.OK)
	}
}

func TestHasWord(t *testing.T) {
	l := lexicon("tar", "tart", "toe")
	for word, want := range map[string]bool{
		"tar": true, "tart": true, "toe": true, "ta": false, "t": false, "": false, "to": false, "tarts": false, "tarr": false, "tas": false, "taq": false,
		"aa": false, "zz": false, "tof": false, "tod": false, "Tar": false, "TAR": false, "tar ": false, " tar": false, "tar\n": false, "tar\x00": false,
		"tar tart": false, "tartoe": false, "zzzzzzzzzzzzz": false,
	} {
		same(t, "HasWord of "+strconv.Quote(word), impl.HasWord(l, word), want)
	}
	for _, l := range validLexicons() {
		for _, word := range l.Words {
			same(t, "HasWord of "+word, impl.HasWord(l, word), true)
		}
		for _, word := range wordsOver("abe", 1, 4) {
			same(t, "HasWord of "+word, impl.HasWord(l, word), slices.Contains(l.Words, word))
		}
		for _, bad := range notLongWords() {
			same(t, "HasWord of "+strconv.Quote(bad), impl.HasWord(l, bad), false)
		}
	}
}

func TestAddWord(t *testing.T) {
	l := lexicon("tar", "tart", "toe")
	sameAdded(t, lexicon(), "an", []string{"an"}, impl.OK)
	sameAdded(t, l, "an", []string{"an", "tar", "tart", "toe"}, impl.OK)
	sameAdded(t, l, "ta", []string{"ta", "tar", "tart", "toe"}, impl.OK)
	sameAdded(t, l, "tarr", []string{"tar", "tarr", "tart", "toe"}, impl.OK)
	sameAdded(t, l, "tarts", []string{"tar", "tart", "tarts", "toe"}, impl.OK)
	sameAdded(t, l, "tea", []string{"tar", "tart", "tea", "toe"}, impl.OK)
	sameAdded(t, l, "zz", []string{"tar", "tart", "toe", "zz"}, impl.OK)
	sameAdded(t, l, "toes", []string{"tar", "tart", "toe", "toes"}, impl.OK)
	sameAdded(t, l, "zzzzzzzzzzzz", []string{"tar", "tart", "toe", "zzzzzzzzzzzz"}, impl.OK)
	sameAdded(t, l, "aa", []string{"aa", "tar", "tart", "toe"}, impl.OK)
	for _, word := range l.Words {
		sameAdded(t, l, word, nil, impl.ErrExists)
	}
}

// TestAddWordErrors has strings that are no long words, words that are there, and full lexicons, also several of these together.
func TestAddWordErrors(t *testing.T) {
	full := lexicon(manyWords(200)...)
	for _, bad := range notLongWords() {
		for _, l := range []impl.Lexicon{{}, lexicon("tar", "toe"), full} {
			sameAdded(t, l, bad, nil, impl.ErrSyntax)
		}
	}
	for _, word := range full.Words {
		sameAdded(t, full, word, nil, impl.ErrExists)
	}
	for _, word := range []string{"aa", "aaaa", "ab", "zz", "ahs", "ahrr", full.Words[199] + "a"} {
		sameAdded(t, full, word, nil, impl.ErrFull)
	}
	for _, word := range []string{"aa", "aaaa", "zz", "ahrr"} {
		sameAdded(t, lexicon(manyWords(199)...), word, sortedOnce(append(manyWords(199), word)), impl.OK)
	}
	sameAdded(t, lexicon(manyWords(199)...), full.Words[199], full.Words, impl.OK)
}

func TestRemoveWord(t *testing.T) {
	l := lexicon("tar", "tart", "toe")
	sameRemoved(t, l, "tar", []string{"tart", "toe"}, impl.OK)
	sameRemoved(t, l, "tart", []string{"tar", "toe"}, impl.OK)
	sameRemoved(t, l, "toe", []string{"tar", "tart"}, impl.OK)
	sameRemoved(t, lexicon("an"), "an", nil, impl.OK)
	for _, word := range []string{"ta", "tarr", "tarts", "tas", "zz", "aa", "to", "toes", "an", "t", "abcdefghijkl"} {
		sameRemoved(t, l, word, nil, impl.ErrNotFound)
	}
	full := lexicon(manyWords(200)...)
	for i, word := range full.Words {
		sameRemoved(t, full, word, slices.Concat(full.Words[:i], full.Words[i+1:]), impl.OK)
	}
	sameRemoved(t, full, "zz", nil, impl.ErrNotFound)
	sameRemoved(t, lexicon(), "an", nil, impl.ErrNotFound)
	// A string that is no word is not in a lexicon either.
	for _, bad := range notLongWords() {
		for _, l := range []impl.Lexicon{{}, l, full} {
			sameRemoved(t, l, bad, nil, impl.ErrNotFound)
		}
	}
}

// TestChangesUndone adds and removes words of all kinds of lexicons.
func TestChangesUndone(t *testing.T) {
	words := append(wordsOver("ab", 2, 4), "aet", "tea", "test", "zz")
	for _, l := range validLexicons() {
		for _, word := range words {
			switch {
			case slices.Contains(l.Words, word):
				sameAdded(t, l, word, nil, impl.ErrExists)
				fewer := slices.DeleteFunc(slices.Clone(l.Words), func(other string) bool { return other == word })
				sameRemoved(t, l, word, fewer, impl.OK)
				sameAdded(t, lexicon(fewer...), word, l.Words, impl.OK)
			case len(l.Words) == 200:
				sameAdded(t, l, word, nil, impl.ErrFull)
				sameRemoved(t, l, word, nil, impl.ErrNotFound)
			default:
				more := sortedOnce(append(slices.Clone(l.Words), word))
				sameAdded(t, l, word, more, impl.OK)
				sameRemoved(t, lexicon(more...), word, l.Words, impl.OK)
				sameRemoved(t, l, word, nil, impl.ErrNotFound)
			}
		}
	}
}

func TestMergeLexicons(t *testing.T) {
	sameMerged(t, "nothing", lexicon(), lexicon(), nil, impl.OK)
	sameMerged(t, "a lexicon and nothing", lexicon("an", "at"), lexicon(), []string{"an", "at"}, impl.OK)
	sameMerged(t, "a lexicon and itself", lexicon("an", "at"), lexicon("an", "at"), []string{"an", "at"}, impl.OK)
	sameMerged(t, "a word in common", lexicon("tar", "tart", "toe"), lexicon("at", "toe"), []string{"at", "tar", "tart", "toe"}, impl.OK)
	sameMerged(t, "no word in common", lexicon("ab", "ad"), lexicon("aa", "ac", "ae"), []string{"aa", "ab", "ac", "ad", "ae"}, impl.OK)
	sameMerged(t, "one behind the other", lexicon("ya", "za"), lexicon("aa", "ab"), []string{"aa", "ab", "ya", "za"}, impl.OK)
	for _, a := range validLexicons() {
		for _, b := range validLexicons() {
			want, code := sortedOnce(slices.Concat(a.Words, b.Words)), int64(impl.OK)
			if len(want) > 200 {
				want, code = nil, impl.ErrFull
			}
			sameMerged(t, "valid ones", a, b, want, code)
		}
	}
}

// TestMergeLexiconsLimit has as many words together as there may be, and one more.
func TestMergeLexiconsLimit(t *testing.T) {
	words := manyWords(676)
	part := func(from, to int) impl.Lexicon { return lexicon(words[from:to]...) }
	sameMerged(t, "100 and 100 words", part(0, 100), part(100, 200), words[:200], impl.OK)
	sameMerged(t, "100 and 101 words", part(0, 100), part(100, 201), nil, impl.ErrFull)
	sameMerged(t, "150 and 100 words with 50 in common", part(0, 150), part(100, 200), words[:200], impl.OK)
	sameMerged(t, "150 and 101 words with 50 in common", part(0, 150), part(100, 201), nil, impl.ErrFull)
	sameMerged(t, "200 and 200 words that are equal", part(0, 200), part(0, 200), words[:200], impl.OK)
	sameMerged(t, "200 and 200 words with 199 in common", part(0, 200), part(1, 201), nil, impl.ErrFull)
	sameMerged(t, "200 and 200 words", part(0, 200), part(200, 400), nil, impl.ErrFull)
	sameMerged(t, "200 words and none", part(0, 200), part(0, 0), words[:200], impl.OK)
	sameMerged(t, "200 words and one of them", part(0, 200), part(77, 78), words[:200], impl.OK)
	sameMerged(t, "200 words and another one", part(0, 200), part(200, 201), nil, impl.ErrFull)
	sameMerged(t, "199 words and another one", part(0, 199), part(199, 200), words[:200], impl.OK)
}

func TestPrefixRange(t *testing.T) {
	l := lexicon("tar", "tart", "toe", "ton", "up")
	for prefix, want := range map[string][2]int64{
		"": {0, 5}, "t": {0, 4}, "ta": {0, 2}, "tar": {0, 2}, "tart": {1, 1}, "to": {2, 2}, "toe": {2, 1}, "ton": {3, 1}, "u": {4, 1}, "up": {4, 1},
		// Ahead of all words.
		"a": {0, 0}, "aa": {0, 0}, "s": {0, 0}, "szz": {0, 0}, "taq": {0, 0}, "taa": {0, 0}, "\x00": {0, 0}, " ": {0, 0}, "T": {0, 0}, "TAR": {0, 0}, "t ": {0, 0},
		"ta\x00": {0, 0}, "tA": {0, 0}, "A": {0, 0}, "?": {0, 0}, "`": {0, 0}, "1": {0, 0}, "-": {0, 0}, "\n": {0, 0}, " tar": {0, 0},
		// Between two words.
		"tara": {1, 0}, "tars": {1, 0}, "tar ": {1, 0}, "tar\x00": {1, 0}, "tarT": {1, 0}, "tarsz": {1, 0}, "tarta": {2, 0}, "tarts": {2, 0}, "tart\xff": {2, 0},
		"tas": {2, 0}, "tb": {2, 0}, "tn": {2, 0}, "tod": {2, 0}, "tar\xff": {2, 0}, "ta\xff": {2, 0}, "ta{": {2, 0}, "taé": {2, 0}, "tu": {4, 0}, "tz": {4, 0}, "t{": {4, 0},
		"t\xff": {4, 0}, "té": {4, 0}, "toee": {3, 0}, "tof": {3, 0}, "tom": {3, 0}, "too": {4, 0}, "tons": {4, 0}, "uo": {4, 0}, "ua": {4, 0},
		// Behind all words.
		"upa": {5, 0}, "ups": {5, 0}, "up ": {5, 0}, "uq": {5, 0}, "uz": {5, 0}, "v": {5, 0}, "z": {5, 0}, "zz": {5, 0}, "{": {5, 0}, "~": {5, 0}, "\xff": {5, 0},
		"é": {5, 0}, "\x7f": {5, 0}, "u\xff": {5, 0}, "zzzzzzzzzzzzz": {5, 0},
		// Longer than any word.
		"tarttarttarttart": {2, 0}, "toetoetoetoetoe": {3, 0}, "aaaaaaaaaaaaaaa": {0, 0},
	} {
		sameRange(t, l, prefix, want[0], want[1], impl.OK)
	}
	for _, prefix := range append(oddStrings(), "a", "aa", "z", "zzzz") {
		sameRange(t, lexicon(), prefix, 0, 0, impl.OK)
	}
}

// rangeByCounting is PrefixRange of a valid lexicon, by looking at every word.
func rangeByCounting(l impl.Lexicon, prefix string) (first, count int64) {
	for _, word := range l.Words {
		if word < prefix {
			first++
		}
		if len(word) >= len(prefix) && word[:len(prefix)] == prefix {
			count++
		}
	}
	return first, count
}

// TestPrefixRangeByCounting has all beginnings of all words, and strings that are just ahead of them or just behind them.
func TestPrefixRangeByCounting(t *testing.T) {
	odd := oddStrings()
	for _, l := range validLexicons() {
		prefixes := slices.Concat(odd, wordsOver("abz", 1, 4))
		for _, word := range l.Words {
			for n := range len(word) + 1 {
				start := word[:n]
				prefixes = append(prefixes, start, start+"\x00", start+"`", start+"a", start+"z", start+"{", start+"\xff")
				if n > 0 {
					prefixes = append(prefixes, start[:n-1]+string(start[n-1]-1), start[:n-1]+string(start[n-1]+1))
				}
			}
		}
		for _, prefix := range prefixes {
			first, count := rangeByCounting(l, prefix)
			sameRange(t, l, prefix, first, count, impl.OK)
			// What is told is where the words are: they begin with the prefix, and no others do.
			for i, word := range l.Words {
				if inside := int64(i) >= first && int64(i) < first+count; inside != strings.HasPrefix(word, prefix) {
					t.Fatalf("%q: the word %q is on the wrong side", prefix, word)
				}
			}
		}
	}
}

// wordsWhere returns the words of a lexicon for which a condition holds.
func wordsWhere(l impl.Lexicon, condition func(word string) bool) []string {
	return slices.DeleteFunc(slices.Clone(l.Words), func(word string) bool { return !condition(word) })
}

func TestWordsOfLength(t *testing.T) {
	l := lexicon("an", "at", "tar", "tart", "toe", "zzzzzzzzzzzz")
	for n, want := range map[int64][]string{
		2: {"an", "at"}, 3: {"tar", "toe"}, 4: {"tart"}, 12: {"zzzzzzzzzzzz"}, 0: nil, 1: nil, 5: nil, 11: nil, 13: nil, -1: nil, -2: nil, -3: nil,
		math.MinInt64: nil, math.MaxInt64: nil, 1<<32 + 3: nil, 1<<33 + 2: nil, 256 + 3: nil, -(1 << 32) + 3: nil, -256 + 3: nil,
	} {
		sameCodedList(t, "WordsOfLength of "+strconv.FormatInt(n, 10), withCode(impl.WordsOfLength(l, n)), want, impl.OK)
	}
	for _, l := range validLexicons() {
		for n := int64(-14); n < 15; n++ {
			want := wordsWhere(l, func(word string) bool { return len(word) == int(n) })
			sameCodedList(t, "WordsOfLength of "+strconv.FormatInt(n, 10), withCode(impl.WordsOfLength(l, n)), want, impl.OK)
		}
	}
}

func TestAnagramsOf(t *testing.T) {
	l := lexicon("aab", "ab", "aba", "abb", "ba", "bba", "tar", "tart", "toe")
	for word, want := range map[string][]string{
		"art": {"tar"}, "tar": {"tar"}, "rat": {"tar"}, "toe": {"toe"}, "oet": {"toe"}, "rtta": {"tart"}, "ratt": {"tart"}, "ab": {"ab", "ba"}, "ba": {"ab", "ba"},
		"baa": {"aab", "aba"}, "aab": {"aab", "aba"}, "bab": {"abb", "bba"}, "aa": nil, "bb": nil, "a": nil, "b": nil, "t": nil, "z": nil, "at": nil, "tarts": nil,
		"tatr": {"tart"}, "rart": nil, "zz": nil, "abcdefghijkl": nil, "aabb": nil, "aaab": nil,
	} {
		sameCodedList(t, "AnagramsOf "+word, withCode(impl.AnagramsOf(l, word)), want, impl.OK)
	}
	game := lexicon(gameWords()...)
	for word, want := range map[string][]string{
		"tea": {"ate", "eat", "tea"}, "aet": {"ate", "eat", "tea"}, "aest": {"eats", "seat"}, "tears": nil, "arst": nil, "rae": {"are", "ear"}, "earn": {"earn", "near"},
		"tra": {"rat", "tar"}, "at": {"at", "ta"}, "ne": {"en", "ne"}, "stet": {"test"}, "sett": {"test"}, "nets": {"nest"}, "e": nil,
	} {
		sameCodedList(t, "AnagramsOf "+word, withCode(impl.AnagramsOf(game, word)), want, impl.OK)
	}
}

// TestAnagramsBySorting compares AnagramsOf with what sorted letters say.
func TestAnagramsBySorting(t *testing.T) {
	words := slices.Concat(someWords(), wordsOver("ab", 1, 5), wordsOver("aet", 1, 3), gameWords(), letters(26))
	for _, l := range validLexicons() {
		for _, word := range append(words, l.Words...) {
			want := wordsWhere(l, func(other string) bool { return sorted(other) == sorted(word) })
			sameCodedList(t, "AnagramsOf "+word, withCode(impl.AnagramsOf(l, word)), want, impl.OK)
		}
	}
}

// TestAnagramsOfNoWords gives strings that are no words; words of one letter are words.
func TestAnagramsOfNoWords(t *testing.T) {
	for _, l := range []impl.Lexicon{{}, lexicon("tar", "tart", "toe"), lexicon(gameWords()...), lexicon(manyWords(200)...)} {
		for _, bad := range append(notWords(), "Art", "art ", "ar?", "?ar", "tarttarttartt") {
			sameCodedList(t, "AnagramsOf "+strconv.Quote(bad), withCode(impl.AnagramsOf(l, bad)), nil, impl.ErrSyntax)
		}
		for _, letter := range letters(26) {
			sameCodedList(t, "AnagramsOf "+letter, withCode(impl.AnagramsOf(l, letter)), nil, impl.OK)
		}
	}
}

func TestWordsFrom(t *testing.T) {
	l := lexicon("aa", "ab", "tar", "tart", "toe", "zzzz")
	for pile, want := range map[string][]string{
		"": nil, "?": nil, "a": nil, "aa": {"aa"}, "ab": {"ab"}, "?a": {"aa", "ab"}, "?b": {"ab"}, "??": {"aa", "ab"}, "?art": {"aa", "ab", "tar", "tart"}, "art": {"tar"},
		"artt": {"tar", "tart"}, "aartt": {"aa", "tar", "tart"}, "???": {"aa", "ab", "tar", "toe"}, "????": {"aa", "ab", "tar", "tart", "toe", "zzzz"},
		"??t": {"aa", "ab", "tar", "toe"}, "??tt": {"aa", "ab", "tar", "tart", "toe"}, "eot": {"toe"}, "eo": nil, "?eo": {"toe"}, "zzz": nil, "?zzz": {"zzzz"}, "zzzz": {"zzzz"}, "??zz": {"aa", "ab", "zzzz"},
		"zzzzz": {"zzzz"}, "b": nil, "bcdfg": nil, "?c": nil, "?t": nil, "?at": {"aa", "ab", "tar"},
		strings.Repeat("?", 120): l.Words, strings.Repeat("z", 120): {"zzzz"}, strings.Repeat("a", 120): {"aa"}, "?" + strings.Repeat("a", 119): {"aa", "ab"},
	} {
		sameCodedList(t, "WordsFrom "+pile, withCode(impl.WordsFrom(l, pile)), want, impl.OK)
	}
	for _, pile := range somePiles() {
		sameCodedList(t, "WordsFrom "+pile, withCode(impl.WordsFrom(lexicon(), pile)), nil, impl.OK)
	}
}

// missingTiles returns how many letters of a word cannot be removed from a pile.
func missingTiles(pile, word string) int {
	missing := 0
	for i := range len(word) {
		rest, ok := takeOneByOne(pile, word[i:i+1])
		if !ok {
			missing++
			continue
		}
		pile = rest
	}
	return missing
}

// TestWordsFromByTaking compares WordsFrom with the letters that are missing, and with CanMake.
func TestWordsFromByTaking(t *testing.T) {
	for _, l := range validLexicons() {
		for _, pile := range somePiles() {
			want := wordsWhere(l, func(word string) bool { return missingTiles(pile, word) <= strings.Count(pile, "?") })
			sameCodedList(t, "WordsFrom "+pile, withCode(impl.WordsFrom(l, pile)), want, impl.OK)
			made := wordsWhere(l, func(word string) bool { return impl.CanMake(pile, word) })
			sameList(t, "words that can be made with "+pile, made, want)
		}
	}
}

// TestWordsFromNoPiles gives strings that are no piles.
func TestWordsFromNoPiles(t *testing.T) {
	for _, l := range []impl.Lexicon{{}, lexicon("tar", "tart", "toe"), lexicon(manyWords(200)...)} {
		for _, bad := range append(notPiles(), "tar", "Art", "art?", "toe", strings.Repeat("?", 121)) {
			sameCodedList(t, "WordsFrom "+strconv.Quote(bad), withCode(impl.WordsFrom(l, bad)), nil, impl.ErrRange)
		}
	}
}

// lexiconText matches lines of long words, in whatever order and number.
var lexiconText = regexp.MustCompile(`\A(?:[a-z]{2,12}\n)*\z`)

// isLexiconText reports whether s is the text of a valid lexicon.
func isLexiconText(s string) bool {
	return lexiconText.MatchString(s) && isLexicon(lexicon(strings.Fields(s)...))
}

// sameReadLexicon checks ReadLexicon of a text, be it one of a lexicon or not.
func sameReadLexicon(t *testing.T, s string) {
	t.Helper()
	l, ok := impl.ReadLexicon(s)
	var want []string
	if isLexiconText(s) {
		want = strings.Fields(s)
	}
	if ok != isLexiconText(s) || !slices.Equal(l.Words, want) {
		t.Errorf("ReadLexicon(%q): got %q and %t, want %q", s, l.Words, ok, want)
	}
	if !ok && l.Words != nil {
		t.Errorf("ReadLexicon(%q): not the zero lexicon with false", s)
	}
}

func TestLexiconTexts(t *testing.T) {
	for want, l := range map[string]impl.Lexicon{
		"": {}, "an\n": lexicon("an"), "at\ntoe\n": lexicon("at", "toe"), "tar\ntart\ntoe\n": lexicon("tar", "tart", "toe"),
		"aa\nabcdefghijkl\n": lexicon("aa", "abcdefghijkl"),
	} {
		same(t, "LexiconText", impl.LexiconText(l), want)
		read, ok := impl.ReadLexicon(want)
		same(t, "ReadLexicon of "+strconv.Quote(want), ok, true)
		sameList(t, "words of "+strconv.Quote(want), read.Words, l.Words)
	}
	same(t, "text of an empty list", impl.LexiconText(impl.Lexicon{Words: []string{}}), "")
	for i, l := range validLexicons() {
		text := impl.LexiconText(l)
		same(t, "text of the valid lexicon "+strconv.Itoa(i), text, strings.Join(append(slices.Clone(l.Words), ""), "\n"))
		read, ok := impl.ReadLexicon(text)
		same(t, "ReadLexicon of the valid lexicon "+strconv.Itoa(i), ok && impl.SameLexicon(read, l), true)
		sameReadLexicon(t, text)
	}
}

// TestReadLexiconFails has texts that are nearly right.
func TestReadLexiconFails(t *testing.T) {
	long := func(words []string) string { return strings.Join(words, "\n") + "\n" }
	for _, s := range append(oddStrings()[1:],
		"\n", "\n\n", "an", "an\nat", "\nan\n", "an\n\n", "an\n\nat\n", "an\r\n", "an\n\r", "\ran\n", " an\n", "an \n", "an\n ", "an at\n", "an at", "an\tat\n", "an\t\n",
		"an,at\n", "an\x00at\n", "an\x00", "an\n\x00", "an\nat\n\x00", "An\n", "aN\n", "a\n", "a\nan\n", "an\nb\n", "an\nz\n", "abcdefghijklm\n", "an\nabcdefghijklm\n",
		"at\nan\n", "an\nan\n", "an\nat\nan\n", "tart\ntar\n", "an\nat\nas\n", "an\nat\nat\n", "an-\n", "an1\n", "?an\n", "#an\n", "an\n#\n", "an\v", "an\f", "an\vat\n",
		"an\u0085at\n", "an\u2028at\n", "an\u2029", "\ufeffan\n", "an\n\ufeff", "é\n", "né\n", "an\\n", "an\nat\xff\n", "an\nat\n\n", "\u212aa\n", "aſ\n",
		long(manyWords(201)), long(manyWords(676)), long(append(manyWords(200), "zz")), long(append(manyWords(199), "aaa")), strings.TrimSuffix(long(manyWords(200)), "\n"),
		long(manyWords(200))+"\n", "\n"+long(manyWords(200)), strings.Repeat("an\n", 5000), strings.Repeat("\n", 5000), strings.Repeat("a", 5000)+"\n", strings.Repeat(" ", 5000),
	) {
		l, ok := impl.ReadLexicon(s)
		if ok || l.Words != nil {
			t.Errorf("ReadLexicon(%q): got %q and %t", s, l.Words, ok)
		}
		same(t, "what the pattern says of "+strconv.Quote(s), isLexiconText(s), false)
	}
	for _, n := range []int{199, 200} {
		l, ok := impl.ReadLexicon(long(manyWords(n)))
		same(t, "ReadLexicon of "+strconv.Itoa(n)+" words", ok, true)
		sameList(t, strconv.Itoa(n)+" words", l.Words, manyWords(n))
	}
}

// TestReadLexiconByPattern changes texts of lexicons in every place.
func TestReadLexiconByPattern(t *testing.T) {
	for _, text := range []string{"an\n", "an\nat\n", "tar\ntart\ntoe\n", "aa\nab\nabcdefghijkl\nba\nzz\n"} {
		sameReadLexicon(t, text)
		for i := range text {
			sameReadLexicon(t, text[:i])
			sameReadLexicon(t, text[i:])
			sameReadLexicon(t, text[:i]+text[i+1:])
			for c := range 256 {
				sameReadLexicon(t, text[:i]+string([]byte{byte(c)})+text[i:])
				sameReadLexicon(t, text[:i]+string([]byte{byte(c)})+text[i+1:])
			}
		}
		lines := strings.SplitAfter(text, "\n")
		for i := range lines {
			for k := range lines {
				moved := slices.Clone(lines)
				moved[i], moved[k] = moved[k], moved[i]
				sameReadLexicon(t, strings.Join(moved, ""))
				sameReadLexicon(t, strings.Join(slices.Insert(slices.Clone(lines), i, lines[k]), ""))
			}
		}
	}
}

// TestLexiconsOfGrammars is the part of promise 4 on lexicons: that of a grammar has a word just if the word has a derivation.
func TestLexiconsOfGrammars(t *testing.T) {
	tried := slices.Concat(wordsOver("ab", 1, 6), someLongWords(), []string{"", "A", "aaaaaaaaaaaaa", "retester", "tests", "midcities"})
	compiled := 0
	for i, g := range validGrammars() {
		what := "the valid grammar " + strconv.Itoa(i)
		l, code := impl.CompileLexicon(g)
		words, want := impl.DerivedWords(g)
		same(t, "code of "+what, code, want)
		if code != impl.OK {
			same(t, "code of "+what, code, int64(impl.ErrFull))
			sameList(t, "words of "+what, l.Words, nil)
			continue
		}
		compiled++
		same(t, "ValidLexicon of "+what, impl.ValidLexicon(l), true)
		sameMade(t, "the words of "+what, words, l.Words, impl.OK)
		for _, word := range slices.Concat(tried, words) {
			list, code := impl.DerivationsOf(g, word)
			if impl.HasWord(l, word) != (code == impl.OK && len(list) > 0) {
				t.Errorf("%s: HasWord of %q is %t, the derivations are %v", what, word, impl.HasWord(l, word), list)
			}
		}
	}
	same(t, "grammars with a lexicon, and some", compiled > 50, true)
	full, code := impl.CompileLexicon(impl.Grammar{Affixes: manyAffixes(3), Stems: manyStems(20, letters(3)...)})
	same(t, "code of a full lexicon", code, int64(impl.OK))
	same(t, "words of a full lexicon", len(full.Words), 200)
	same(t, "a full lexicon", impl.ValidLexicon(full), true)
	sameAdded(t, full, "zz", nil, impl.ErrFull)
	for _, g := range invalidGrammars() {
		l, code := impl.CompileLexicon(g)
		sameLexicon(t, "CompileLexicon of an invalid grammar", l, code, nil, impl.ErrInvalid)
	}
}

// TestPurityOfLexicons is promise 1 for chapter 5: arguments stay, also their unused capacity, and results are equal again.
func TestPurityOfLexicons(t *testing.T) {
	other := roomyLexicon(lexicon("aab", "tart", "zz"))
	for i, l := range append(validLexicons(), invalidLexicons()...) {
		a := roomyLexicon(l)
		words := roomy(append([]string{"zz", "at"}, l.Words...), "mark")
		kept := slices.Clone(words)
		for range 2 {
			same(t, "MakeLexicon", withCode(impl.MakeLexicon(words)), withCode(impl.MakeLexicon(kept)))
			same(t, "AddWord", withCode(impl.AddWord(a, "abbb")), withCode(impl.AddWord(l, "abbb")))
			same(t, "RemoveWord", withCode(impl.RemoveWord(a, "ab")), withCode(impl.RemoveWord(l, "ab")))
			same(t, "MergeLexicons", withCode(impl.MergeLexicons(a, other)), withCode(impl.MergeLexicons(l, other)))
			same(t, "MergeLexicons", withCode(impl.MergeLexicons(other, a)), withCode(impl.MergeLexicons(other, l)))
			same(t, "WordsOfLength", withCode(impl.WordsOfLength(a, 3)), withCode(impl.WordsOfLength(l, 3)))
			same(t, "AnagramsOf", withCode(impl.AnagramsOf(a, "tea")), withCode(impl.AnagramsOf(l, "tea")))
			same(t, "WordsFrom", withCode(impl.WordsFrom(a, "??abest")), withCode(impl.WordsFrom(l, "??abest")))
			first, count, code := impl.PrefixRange(l, "ab")
			sameRange(t, a, "ab", first, count, code)
			same(t, "HasWord", impl.HasWord(a, "ab"), impl.HasWord(l, "ab"))
			same(t, "LexiconText", impl.LexiconText(a), impl.LexiconText(l))
			same(t, "ValidLexicon", impl.ValidLexicon(a), impl.ValidLexicon(l))
			same(t, "SameLexicon", impl.SameLexicon(a, l), true)
		}
		marks := []string{"mark", "mark", "mark"}
		n := len(l.Words)
		if !slices.Equal(a.Words[:n+3], slices.Concat(l.Words, marks)) || !slices.Equal(words[:len(kept)+3], slices.Concat(kept, marks)) {
			t.Errorf("the lexicon %d has changed", i)
		}
		sameList(t, "the other lexicon", other.Words[:6], append([]string{"aab", "tart", "zz"}, marks...))
	}
}

// TestLexiconsApart spoils each result, and looks at the argument and at a further result.
func TestLexiconsApart(t *testing.T) {
	text := "ab\naba\nba\ntar\n"
	for _, words := range [][]string{{"ab", "aba", "ba", "tar"}, roomy([]string{"ab", "aba", "ba", "tar"}, "mark")} {
		l := lexicon(words...)
		results := map[string]func() []string{
			"MakeLexicon":                    func() []string { made, _ := impl.MakeLexicon(words); return made.Words },
			"AddWord at the end":             func() []string { more, _ := impl.AddWord(l, "zz"); return more.Words },
			"AddWord at the beginning":       func() []string { more, _ := impl.AddWord(l, "aa"); return more.Words },
			"RemoveWord of the last word":    func() []string { fewer, _ := impl.RemoveWord(l, "tar"); return fewer.Words },
			"RemoveWord of the first word":   func() []string { fewer, _ := impl.RemoveWord(l, "ab"); return fewer.Words },
			"MergeLexicons with nothing":     func() []string { both, _ := impl.MergeLexicons(l, impl.Lexicon{}); return both.Words },
			"MergeLexicons of nothing":       func() []string { both, _ := impl.MergeLexicons(impl.Lexicon{}, l); return both.Words },
			"MergeLexicons with itself":      func() []string { both, _ := impl.MergeLexicons(l, l); return both.Words },
			"WordsOfLength":                  func() []string { list, _ := impl.WordsOfLength(l, 2); return list },
			"AnagramsOf":                     func() []string { list, _ := impl.AnagramsOf(l, "ab"); return list },
			"WordsFrom":                      func() []string { list, _ := impl.WordsFrom(l, "???"); return list },
			"WordsFrom, a part of the words": func() []string { list, _ := impl.WordsFrom(l, "??"); return list },
			"ReadLexicon":                    func() []string { read, _ := impl.ReadLexicon(text); return read.Words },
		}
		for what, result := range results {
			list := result()
			want := slices.Clone(list)
			same(t, what+" has words", len(want) > 0, true)
			spoil(list, "spoilt")
			sameList(t, "the lexicon after a spoilt result of "+what, words, []string{"ab", "aba", "ba", "tar"})
			sameList(t, what+" after a spoilt result", result(), want)
		}
	}
}

// TestLexiconsAgain calls every function with strings twice, whatever they are.
func TestLexiconsAgain(t *testing.T) {
	for _, s := range append(oddStrings(), "an\nat\n", "tea", strings.Repeat("?", 120)) {
		for _, l := range []impl.Lexicon{{}, lexicon(gameWords()...), lexicon(s), lexicon("aa", s)} {
			same(t, "HasWord", impl.HasWord(l, s), impl.HasWord(l, s))
			same(t, "AddWord", withCode(impl.AddWord(l, s)), withCode(impl.AddWord(l, s)))
			same(t, "RemoveWord", withCode(impl.RemoveWord(l, s)), withCode(impl.RemoveWord(l, s)))
			same(t, "AnagramsOf", withCode(impl.AnagramsOf(l, s)), withCode(impl.AnagramsOf(l, s)))
			same(t, "WordsFrom", withCode(impl.WordsFrom(l, s)), withCode(impl.WordsFrom(l, s)))
			first, count, code := impl.PrefixRange(l, s)
			sameRange(t, l, s, first, count, code)
		}
		first, ok := impl.ReadLexicon(s)
		second, again := impl.ReadLexicon(s)
		same(t, "ReadLexicon", ok == again && impl.SameLexicon(first, second), true)
		same(t, "MakeLexicon", withCode(impl.MakeLexicon([]string{s, "an", s})), withCode(impl.MakeLexicon([]string{s, "an", s})))
	}
}
