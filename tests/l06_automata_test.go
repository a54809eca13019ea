package tests

import (
	"math"
	"regexp"
	"slices"
	"strconv"
	"strings"
	"testing"

	"loop.example/g00911/impl"
)

// formPattern matches forms.
var formPattern = regexp.MustCompile(`\A[a-z>]{1,13}\z`)

// node makes a node.
func node(final bool, letters string, next ...int64) impl.Node {
	return impl.Node{Final: final, Letters: letters, Next: next}
}

// dawg makes an automaton, be it a valid one or not.
func dawg(nodes ...impl.Node) impl.Dawg {
	return impl.Dawg{Nodes: nodes}
}

// stringsBehind returns those strings that follow a beginning, in ascending order, and a key for the set of them.
func stringsBehind(forms []string, beginning string) ([]string, string) {
	var set []string
	key := ""
	for _, form := range forms {
		if rest, ok := strings.CutPrefix(form, beginning); ok {
			set = append(set, rest)
			key += rest + "\n"
		}
	}
	return set, key
}

// automatonOf returns the minimal automaton of different strings, as the document defines it: the nodes are the
// sets of the strings behind all beginnings, in the order in which they come first if the beginnings ascend.
func automatonOf(forms ...string) impl.Dawg {
	forms = sortedOnce(forms)
	beginnings := []string{""}
	for _, form := range forms {
		for n := range len(form) {
			beginnings = append(beginnings, form[:n+1])
		}
	}
	beginnings = sortedOnce(beginnings)
	numberOf := map[string]int64{}
	var firsts []string
	keys := map[string]string{}
	for _, beginning := range beginnings {
		first, _ := slices.BinarySearch(forms, beginning)
		last := first
		for last < len(forms) && strings.HasPrefix(forms[last], beginning) {
			last++
		}
		_, key := stringsBehind(forms[first:last], beginning)
		keys[beginning] = key
		if _, met := numberOf[key]; !met {
			numberOf[key] = int64(len(firsts))
			firsts = append(firsts, beginning)
		}
	}
	var d impl.Dawg
	for _, first := range firsts {
		_, accepted := slices.BinarySearch(forms, first)
		made := impl.Node{Final: accepted}
		for c := range 256 {
			letter := string([]byte{byte(c)})
			if key, ok := keys[first+letter]; ok {
				made.Letters += letter
				made.Next = append(made.Next, numberOf[key])
			}
		}
		d.Nodes = append(d.Nodes, made)
	}
	return d
}

// equalDawgs reports whether two automata are equal, where nil and empty lists are equivalent.
func equalDawgs(a, b impl.Dawg) bool {
	return slices.EqualFunc(a.Nodes, b.Nodes, func(x, y impl.Node) bool {
		return x.Final == y.Final && x.Letters == y.Letters && slices.Equal(x.Next, y.Next)
	})
}

// acceptedBy returns all strings that an automaton accepts, and true; false if there is a path with as many steps
// as there are nodes, or with more than 13, or a node that there is not.
func acceptedBy(d impl.Dawg) ([]string, bool) {
	type end struct {
		s    string
		node int64
	}
	for _, n := range d.Nodes {
		if len(n.Next) != len(n.Letters) || slices.ContainsFunc(n.Next, func(i int64) bool { return i < 0 || i >= int64(len(d.Nodes)) }) {
			return nil, false
		}
	}
	ends := []end{{}}
	var accepted []string
	for range min(14, len(d.Nodes)) {
		var longer []end
		for _, e := range ends {
			n := d.Nodes[e.node]
			if n.Final {
				accepted = append(accepted, e.s)
			}
			for k, next := range n.Next {
				longer = append(longer, end{e.s + n.Letters[k:k+1], next})
			}
		}
		ends = longer
	}
	return accepted, len(ends) == 0
}

// isDawg reports whether an automaton is valid: whether it is the minimal automaton of what it accepts, and this are forms.
func isDawg(d impl.Dawg) bool {
	if len(d.Nodes) == 0 || len(d.Nodes) > 3000 {
		return false
	}
	accepted, ok := acceptedBy(d)
	if !ok || len(accepted) > 3000 {
		return false
	}
	for _, s := range accepted {
		if !formPattern.MatchString(s) {
			return false
		}
	}
	return equalDawgs(automatonOf(accepted...), d)
}

// copiedDawg is a copy of an automaton whose lists have unused capacity.
func copiedDawg(d impl.Dawg) impl.Dawg {
	nodes := roomy(d.Nodes, node(true, "mark", 7))
	for i := range nodes {
		nodes[i].Next = roomy(nodes[i].Next, 77)
	}
	return impl.Dawg{Nodes: nodes}
}

// keptCopy reports whether a copy of copiedDawg is still what it was, its unused capacity too.
func keptCopy(copied, d impl.Dawg) bool {
	n := len(d.Nodes)
	for i, x := range copied.Nodes {
		if !slices.Equal(x.Next[:len(x.Next)+3], append(slices.Clone(d.Nodes[i].Next), 77, 77, 77)) {
			return false
		}
	}
	mark := node(true, "mark", 7)
	return equalDawgs(copied, d) && equalDawgs(dawg(copied.Nodes[:n+3][n:]...), dawg(mark, mark, mark))
}

// sameDawg checks an automaton with a code; if that is OK, the automaton must be valid.
func sameDawg(t *testing.T, what string, got impl.Dawg, code int64, want impl.Dawg, wantCode int64) {
	t.Helper()
	if code != wantCode || !equalDawgs(got, want) {
		t.Errorf("%s: got %v and %d, want %v and %d", what, got, code, want, wantCode)
	}
	if code == impl.OK && !impl.ValidDawg(got) {
		t.Errorf("%s: %v is not valid", what, got)
	}
}

// sameBuilt checks BuildDawg of a valid lexicon, its text and what it accepts.
func sameBuilt(t *testing.T, words []string, text string) {
	t.Helper()
	what := "BuildDawg of " + strings.Join(words, " ")
	d, code := impl.BuildDawg(lexicon(words...))
	sameDawg(t, what, d, code, automatonOf(words...), impl.OK)
	same(t, "text of "+what, impl.DawgText(d), text)
	sameCodedList(t, "WordsOf "+what, withCode(impl.WordsOf(d)), words, impl.OK)
}

func TestLimitsOfAutomata(t *testing.T) {
	same(t, "MaxNodes", impl.MaxNodes, 3000)
	same(t, "MaxForms", impl.MaxForms, 3000)
}

// TestBuildDawg has automata that were made by hand; numbers follow the least path to each node.
func TestBuildDawg(t *testing.T) {
	sameBuilt(t, nil, "-\n")
	sameBuilt(t, []string{}, "-\n")
	sameBuilt(t, []string{"at"}, "- a1\n- t2\n+\n")
	sameBuilt(t, []string{"aa"}, "- a1\n- a2\n+\n")
	sameBuilt(t, []string{"abcdefghijkl"}, "- a1\n- b2\n- c3\n- d4\n- e5\n- f6\n- g7\n- h8\n- i9\n- j10\n- k11\n- l12\n+\n")
	sameBuilt(t, []string{"at", "et"}, "- a1 e1\n- t2\n+\n")
	sameBuilt(t, []string{"at", "ate"}, "- a1\n- t2\n+ e3\n+\n")
	sameBuilt(t, []string{"at", "ate", "tea"}, "- a1 t4\n- t2\n+ e3\n+\n- e5\n- a3\n")
	sameBuilt(t, []string{"at", "ax", "et", "ex"}, "- a1 e1\n- t2 x2\n+\n")
	// A common end, where one word is the beginning of the other.
	sameBuilt(t, []string{"ta", "tata"}, "- t1\n- a2\n+ t3\n- a4\n+\n")
	sameBuilt(t, []string{"abab", "ababab"}, "- a1\n- b2\n- a3\n- b4\n+ a5\n- b6\n+\n")
	sameBuilt(t, []string{"aa", "aaa", "aaaa"}, "- a1\n- a2\n+ a3\n+ a4\n+\n")
	sameBuilt(t, []string{"ant", "ants", "ate", "rant", "rants"}, "- a1 r6\n- n2 t5\n- t3\n+ s4\n+\n- e4\n- a7\n- n2\n")
	// The same letters, but other nodes behind them.
	sameBuilt(t, []string{"abc", "bbd"}, "- a1 b4\n- b2\n- c3\n+\n- b5\n- d3\n")
	sameBuilt(t, []string{"aba", "ac", "bb", "bca"}, "- a1 b4\n- b2 c3\n- a3\n+\n- b3 c2\n")
	// A final node and another one with the same letters and nodes.
	sameBuilt(t, []string{"ab", "abc", "bbc"}, "- a1 b4\n- b2\n+ c3\n+\n- b5\n- c3\n")
	// Several paths to a node: the first one counts, be it longer than others.
	sameBuilt(t, []string{"ac", "bac"}, "- a1 b3\n- c2\n+\n- a1\n")
	sameBuilt(t, []string{"abac", "bac"}, "- a1 b2\n- b2\n- a3\n- c4\n+\n")
	sameBuilt(t, []string{"aaab", "ab", "bb"}, "- a1 b3\n- a2 b4\n- a3\n- b4\n+\n")
	sameBuilt(t, []string{"ad", "bcd", "cd"}, "- a1 b3 c1\n- d2\n+\n- c1\n")
	sameBuilt(t, []string{"aaa", "aab", "aba", "abb", "baa", "bab", "bba", "bbb"}, "- a1 b1\n- a2 b2\n- a3 b3\n+\n")
	// The paths from the first letter are followed to their ends before those from the second one.
	sameBuilt(t, []string{"abcd", "bcda", "cdab"}, "- a1 b5 c8\n- b2\n- c3\n- d4\n+\n- c6\n- d7\n- a4\n- d9\n- a10\n- b4\n")
	sameBuilt(t, []string{"az", "by", "cx", "za"}, "- a1 b3 c4 z5\n- z2\n+\n- y2\n- x2\n- a2\n")
}

// accepts reports whether an automaton accepts a string, by following its nodes.
func accepts(d impl.Dawg, s string) bool {
	i := int64(0)
	for _, c := range []byte(s) {
		k := strings.IndexByte(d.Nodes[i].Letters, c)
		if k < 0 {
			return false
		}
		i = d.Nodes[i].Next[k]
	}
	return d.Nodes[i].Final
}

// TestAutomataOfLexicons is promise 6: the automaton of a lexicon accepts just its words, and has no two equal nodes.
func TestAutomataOfLexicons(t *testing.T) {
	tried := slices.Concat(wordsOver("ab", 1, 6), wordsOver("aet", 1, 4), someLongWords(), gameWords(), oddStrings())
	for i, l := range validLexicons() {
		what := "the automaton of the lexicon " + strconv.Itoa(i)
		d, code := impl.BuildDawg(l)
		sameDawg(t, what, d, code, automatonOf(l.Words...), impl.OK)
		same(t, "isDawg of "+what, isDawg(d), true)
		for k, a := range d.Nodes {
			for _, b := range d.Nodes[:k] {
				if equalDawgs(dawg(a), dawg(b)) {
					t.Errorf("%s has two nodes %v", what, a)
				}
			}
		}
		sameCodedList(t, "WordsOf "+what, withCode(impl.WordsOf(d)), l.Words, impl.OK)
		back, code := impl.LexiconOf(d)
		sameLexicon(t, "LexiconOf "+what, back, code, l.Words, impl.OK)
		for k, s := range slices.Concat(tried, l.Words) {
			if accepts(d, s) != impl.HasWord(l, s) {
				t.Errorf("%s: %q is accepted or not, but should not be so", what, s)
			}
			if k%17 == i%17 && impl.AcceptsWord(d, s) != impl.HasWord(l, s) {
				t.Errorf("AcceptsWord of %q in %s is wrong", s, what)
			}
		}
	}
}

// TestAutomataOfAllLexicons builds the automata of all lexicons with some of the words of two and three letters.
func TestAutomataOfAllLexicons(t *testing.T) {
	all := sortedOnce(wordsOver("ab", 2, 3))
	for chosen := range 1 << len(all) {
		var words []string
		for i, word := range all {
			if chosen>>i&1 == 1 {
				words = append(words, word)
			}
		}
		d, code := impl.BuildDawg(lexicon(words...))
		sameDawg(t, "BuildDawg of "+strings.Join(words, " "), d, code, automatonOf(words...), impl.OK)
		sameCodedList(t, "WordsOf this", withCode(impl.WordsOf(d)), words, impl.OK)
	}
}

// fullLexicons are lexicons of 200 words, most of them of 12 letters and with as few common ends as there may be.
func fullLexicons() []impl.Lexicon {
	var apart, random, near []string
	next := numbers(11)
	for i := range 200 {
		id := alphabet[i/8:i/8+1] + alphabet[i%8:i%8+1]
		apart = append(apart, id+"aaaaaaaa"+id)
		near = append(near, "zzzzzzzzz"+alphabet[i/100:i/100+1]+alphabet[i/10%10:i/10%10+1]+alphabet[i%10:i%10+1])
	}
	for len(random) < 200 {
		word := ""
		for range 12 {
			word += string(alphabet[next(26)])
		}
		random = sortedOnce(append(random, word))
	}
	return []impl.Lexicon{lexicon(apart...), lexicon(random...), lexicon(near...), lexicon(manyWords(200)...)}
}

// TestLargestLexicons builds the automata of lexicons with as many words as there may be.
func TestLargestLexicons(t *testing.T) {
	most := 0
	for i, l := range fullLexicons() {
		what := "the full lexicon " + strconv.Itoa(i)
		same(t, "isLexicon of "+what, isLexicon(l) && len(l.Words) == 200, true)
		d, code := impl.BuildDawg(l)
		sameDawg(t, "BuildDawg of "+what, d, code, automatonOf(l.Words...), impl.OK)
		sameCodedList(t, "WordsOf "+what, withCode(impl.WordsOf(d)), l.Words, impl.OK)
		back, code := impl.LexiconOf(d)
		sameLexicon(t, "LexiconOf "+what, back, code, l.Words, impl.OK)
		read, ok := impl.ReadDawg(impl.DawgText(d))
		same(t, "ReadDawg of "+what, ok && equalDawgs(read, d), true)
		edges := int64(0)
		for _, n := range d.Nodes {
			edges += int64(len(n.Next))
		}
		same(t, "EdgeCount of "+what, withCode(impl.EdgeCount(d)), withCode(edges, impl.OK))
		same(t, "LongestWord of "+what, withCode(impl.LongestWord(d)), withCode(int64(len(l.Words[0])), impl.OK))
		most = max(most, len(d.Nodes))
	}
	same(t, "automata with about as many nodes as 200 words can have", most > 1800, true)
}

func TestBuildDawgErrors(t *testing.T) {
	for _, l := range invalidLexicons() {
		d, code := impl.BuildDawg(l)
		if code != impl.ErrInvalid || d.Nodes != nil {
			t.Errorf("BuildDawg of an invalid lexicon: got %v and %d", d, code)
		}
	}
}

// formSets are sets of forms, most of which no lexicon has as its words.
func formSets() [][]string {
	all := [][]string{
		nil, {"a"}, {">"}, {"z"}, {">", "a"}, {"a", "z"}, {"a", "ab"}, {">>"}, {">>>>>>>>>>>>>"}, {"a>b"}, {">a"}, {"a>"}, {"abcdefghijklm"}, {"aaaaaaaaaaaaa", "b"},
		{"a", "aa", "aaa", "aaaa", "aaaaa", "aaaaaa", "aaaaaaa", "aaaaaaaa", "aaaaaaaaa", "aaaaaaaaaa", "aaaaaaaaaaa", "aaaaaaaaaaaa", "aaaaaaaaaaaaa"},
		{"aet", "et>a", "t>ea"}, {"at", "ate", "tea"}, {"at", "et"}, {"ac", "bac"}, {"abac", "bac"}, {"ta", "tata"}, {"abc", "bbd"}, {"ab", "abc", "bbc"},
		{"ba", "b>", "b"}, {"a", "b", "c", "d", "e", "f", "g", "h", "i", "j", "k", "l", "m", "n", "o", "p", "q", "r", "s", "t", "u", "v", "w", "x", "y", "z", ">"},
		gameWords(), manyWords(201), manyWords(676), append(manyWords(30), ">"), append(gameWords(), "eats>"),
	}
	next := numbers(12)
	for _, from := range [][]string{wordsOver("ab", 1, 6), wordsOver(">az", 1, 4), wordsOver("ab", 11, 13), someLongWords()} {
		for range 6 {
			var set []string
			for range next(12) {
				set = append(set, from[next(uint32(len(from)))])
			}
			all = append(all, set)
		}
	}
	for i := range all {
		all[i] = sortedOnce(all[i])
	}
	return all
}

// validDawgs are valid automata: those of formSets.
func validDawgs() []impl.Dawg {
	var all []impl.Dawg
	for _, set := range formSets() {
		all = append(all, automatonOf(set...))
	}
	return all
}

// chain is an automaton with n nodes, each but the last of which leads to the next one by all letters given.
func chain(n int, letters string) impl.Dawg {
	var d impl.Dawg
	for i := range n {
		next := slices.Repeat([]int64{int64(i + 1)}, len(letters))
		d.Nodes = append(d.Nodes, node(false, letters, next...))
	}
	d.Nodes[n-1] = node(true, "")
	return d
}

// pairedForms are n forms of 13 bytes, each of which is the only one with 10 of the nodes of its automaton.
func pairedForms(n int) []string {
	var all []string
	for i := range n {
		id := alphabet[i/26:i/26+1] + alphabet[i%26:i%26+1]
		all = append(all, id+"aaaaaaaaa"+id)
	}
	return all
}

// blockForms are 3000 forms of three letters, whose automaton has four nodes.
func blockForms() []string {
	var all []string
	for _, a := range alphabet[:15] {
		for _, b := range alphabet[:20] {
			for _, c := range alphabet[:10] {
				all = append(all, string([]rune{a, b, c}))
			}
		}
	}
	return all
}

// invalidDawgs are automata that are not valid, by what is wrong with them.
func invalidDawgs() map[string]impl.Dawg {
	end := node(true, "")
	all := map[string]impl.Dawg{
		"no node":                          {},
		"an empty list":                    {Nodes: []impl.Node{}},
		"the empty string":                 dawg(end),
		"the empty string and others":      dawg(node(true, "a", 1), end),
		"another order":                    dawg(node(false, "a", 2), end, node(false, "t", 1)),
		"another order of paths":           dawg(node(false, "ab", 1, 2), node(false, "c", 3), node(false, "a", 1), end),
		"the first node behind":            dawg(end, node(false, "a", 0)),
		"nearest nodes first":              dawg(node(false, "ab", 1, 2), node(false, "b", 3), node(false, "a", 3), end),
		"two equal ends":                   dawg(node(false, "ab", 1, 2), end, node(true, "")),
		"two equal nodes":                  dawg(node(false, "ab", 1, 3), node(false, "t", 2), end, node(false, "t", 2)),
		"two nodes that lead to equals":    dawg(node(false, "ab", 1, 3), node(false, "t", 2), end, node(false, "t", 4), end),
		"a node that is not reached":       dawg(node(false, "a", 1), end, node(false, "b", 1)),
		"an end that is not reached":       dawg(node(false, ""), end),
		"a node in front of the first":     dawg(node(false, "a", 1), end, node(false, "b", 0)),
		"nothing accepted behind a node":   dawg(node(false, "ab", 1, 2), end, node(false, "")),
		"nothing accepted behind a path":   dawg(node(false, "ab", 1, 2), end, node(false, "b", 3), node(false, "")),
		"nothing accepted at all":          dawg(node(false, "a", 1), node(false, "")),
		"nothing accepted behind a final":  dawg(node(false, "a", 1), node(true, "b", 2), node(false, "")),
		"a node that leads to itself":      dawg(node(false, "a", 0)),
		"a final one that leads to itself": dawg(node(true, "a", 0)),
		"a cycle of one node":              dawg(node(false, "a", 1), node(true, "a", 1)),
		"a cycle of two nodes":             dawg(node(false, "a", 1), node(true, "b", 2), node(false, "a", 1)),
		"a cycle through the first node":   dawg(node(false, "a", 1), node(true, "b", 0)),
		"a cycle without an end":           dawg(node(false, "ab", 1, 2), end, node(false, "a", 2)),
		"a cycle behind a branch":          dawg(node(false, "ab", 1, 2), node(true, "a", 2), node(false, "b", 1)),
		"Next is shorter":                  dawg(node(false, "ab", 1), end),
		"Next is longer":                   dawg(node(false, "a", 1, 1), end),
		"Next is missing":                  dawg(node(false, "a"), end),
		"Next without letters":             dawg(node(false, "", 1), end),
		"Next of an end":                   dawg(node(false, "a", 1), node(true, "", 1)),
		"Next behind the last node":        dawg(node(false, "a", 2), end),
		"Next of -1":                       dawg(node(false, "ab", 1, -1), end),
		"Next is the least number":         dawg(node(false, "a", math.MinInt64), end),
		"Next is the greatest number":      dawg(node(false, "a", math.MaxInt64), end),
		"Next beyond 32 bits":              dawg(node(false, "a", 1+1<<32), end),
		"letters in reverse order":         dawg(node(false, "ba", 1, 1), end),
		"letters not in order":             dawg(node(false, "acb", 1, 1, 1), end),
		"> behind a letter":                dawg(node(false, "a>", 1, 1), end),
		"a letter twice":                   dawg(node(false, "aa", 1, 1), end),
		"a letter twice at the end":        dawg(node(false, "abb", 1, 1, 1), end),
		"a letter twice, to two nodes":     dawg(node(false, "aa", 1, 2), node(true, "b", 2), end),
		"> twice":                          dawg(node(false, ">>", 1, 1), end),
		"no byte, but a node behind it":    dawg(node(false, "", 1), end),
		"an unused node of 14 bytes":       chain(15, "a"),
		"14 letters":                       chain(15, "ab"),
		"14 bytes and fewer":               dawg(append([]impl.Node{node(false, "ab", 1, 14)}, chain(15, "a").Nodes[1:]...)...),
		"65 letters, so many ways":         chain(66, "ab"),
		"all letters, 13 times":            chain(14, ">"+alphabet),
		"all letters, 2999 times":          chain(3000, alphabet),
		"3000 nodes of one path":           chain(3000, "a"),
		"3001 nodes of one path":           chain(3001, "a"),
		"3001 nodes":                       automatonOf(append(pairedForms(296), "lklk")...),
		"3001 nodes, the last unused":      dawg(append(automatonOf(pairedForms(296)...).Nodes, node(false, "z", 1))...),
		"3001 forms":                       automatonOf(append(blockForms(), "z")...),
		"27 * 27 * 27 forms":               chain(4, ">"+alphabet),
	}
	for _, c := range []string{"A", "Z", "?", "=", "`", "{", "@", " ", "\n", "\x00", "\x7f", "\x80", "\xff", "0", "-", "+", "é", "ſ", "\u212a"} {
		all["the byte "+strconv.Quote(c)] = dawg(node(false, c, slices.Repeat([]int64{1}, len(c))...), end)
		all["a letter and the byte "+strconv.Quote(c)] = dawg(node(false, "a"+c, slices.Repeat([]int64{1}, 1+len(c))...), end)
	}
	return all
}

// nearDawgs are the automata that differ from a valid one in one place.
func nearDawgs(d impl.Dawg) []impl.Dawg {
	var all []impl.Dawg
	n := len(d.Nodes)
	with := func(i int, changed impl.Node) {
		near := copiedDawg(d)
		near.Nodes[i] = changed
		all = append(all, near)
	}
	for i, x := range d.Nodes {
		with(i, node(!x.Final, x.Letters, x.Next...))
		with(i, node(x.Final, x.Letters, append(slices.Clone(x.Next), 0)...))
		for _, c := range []string{">", "a", "b", "z", "A", "{"} {
			for _, next := range []int64{0, int64(i) + 1, int64(n) - 1, int64(n)} {
				with(i, node(x.Final, x.Letters+c, append(slices.Clone(x.Next), next)...))
				with(i, node(x.Final, c+x.Letters, append([]int64{next}, x.Next...)...))
			}
			for k := range x.Letters {
				with(i, node(x.Final, x.Letters[:k]+c+x.Letters[k+1:], x.Next...))
			}
		}
		for k := range x.Letters {
			rest := slices.Concat(x.Next[:k], x.Next[k+1:])
			with(i, node(x.Final, x.Letters[:k]+x.Letters[k+1:], rest...))
			with(i, node(x.Final, x.Letters[:k]+x.Letters[k+1:], x.Next...))
			with(i, node(x.Final, x.Letters, rest...))
			for next := range n + 2 {
				changed := slices.Clone(x.Next)
				changed[k] = int64(next) - 1
				with(i, node(x.Final, x.Letters, changed...))
			}
			// A copy of a node takes its place, behind all others.
			changed := slices.Clone(x.Next)
			changed[k] = int64(n)
			with(i, node(x.Final, x.Letters, changed...))
			last := &all[len(all)-1]
			last.Nodes = append(last.Nodes, d.Nodes[x.Next[k]])
		}
		all = append(all, dawg(append(slices.Clone(d.Nodes), x)...), dawg(slices.Delete(slices.Clone(d.Nodes), i, i+1)...), exchanged(d, int64(i), int64(n-1)), exchanged(d, int64(i), int64(i+1)%int64(n)))
	}
	return append(all, dawg(append(slices.Clone(d.Nodes), node(true, ""))...), dawg(append(slices.Clone(d.Nodes), node(false, ""))...), dawg(append(slices.Clone(d.Nodes), node(true, "q", 0))...))
}

// exchanged is the same automaton with other numbers for two nodes.
func exchanged(d impl.Dawg, i, k int64) impl.Dawg {
	other := copiedDawg(d)
	for _, x := range other.Nodes {
		for at, next := range x.Next {
			switch next {
			case i:
				x.Next[at] = k
			case k:
				x.Next[at] = i
			}
		}
	}
	other.Nodes[i], other.Nodes[k] = other.Nodes[k], other.Nodes[i]
	return other
}

func TestValidDawg(t *testing.T) {
	for i, d := range validDawgs() {
		same(t, "ValidDawg of the valid one "+strconv.Itoa(i), impl.ValidDawg(d), true)
		same(t, "isDawg of the valid one "+strconv.Itoa(i), isDawg(d), true)
	}
	for what, d := range invalidDawgs() {
		same(t, "ValidDawg with "+what, impl.ValidDawg(d), false)
	}
	same(t, "ValidDawg of nothing accepted", impl.ValidDawg(dawg(node(false, ""))), true)
	same(t, "ValidDawg of one letter", impl.ValidDawg(dawg(node(false, "a", 1), node(true, ""))), true)
}

// TestValidDawgByDefinition compares ValidDawg for all automata of up to three nodes and two bytes.
func TestValidDawgByDefinition(t *testing.T) {
	valid := 0
	for n := range int64(4) {
		var nodes []impl.Node
		for _, final := range []bool{false, true} {
			nodes = append(nodes, node(final, ""))
			for i := range n {
				nodes = append(nodes, node(final, ">", i), node(final, "b", i))
				for k := range n {
					nodes = append(nodes, node(final, ">b", i, k))
				}
			}
		}
		lists := [][]impl.Node{nil}
		for range n {
			var longer [][]impl.Node
			for _, list := range lists {
				for _, x := range nodes {
					longer = append(longer, slices.Concat(list, []impl.Node{x}))
				}
			}
			lists = longer
		}
		for _, list := range lists {
			d := dawg(list...)
			if impl.ValidDawg(d) != isDawg(d) {
				t.Errorf("ValidDawg(%v): got %t", d, impl.ValidDawg(d))
			}
			if isDawg(d) {
				valid++
			}
		}
	}
	same(t, "valid automata, and some", valid > 10, true)
}

// TestNearDawgs compares ValidDawg for automata that differ from valid ones in one place.
func TestNearDawgs(t *testing.T) {
	valid, invalid := 0, 0
	for _, d := range validDawgs() {
		if len(d.Nodes) > 14 {
			continue
		}
		for _, near := range nearDawgs(d) {
			want := isDawg(near)
			if impl.ValidDawg(near) != want {
				t.Errorf("ValidDawg(%v): got %t", near, !want)
			}
			if want {
				valid++
			} else {
				invalid++
			}
		}
	}
	same(t, "valid and invalid automata, and some", valid > 100 && invalid > 10000, true)
}

// TestGreatestAutomata has as many nodes, forms and bytes as there may be, and one more.
func TestGreatestAutomata(t *testing.T) {
	sized := func(what string, d impl.Dawg, nodes int, forms int, valid bool) {
		t.Helper()
		accepted, ok := acceptedBy(d)
		same(t, "nodes of "+what, len(d.Nodes), nodes)
		// No more than 13 steps are taken, so forms of 14 bytes are not counted.
		same(t, "forms of "+what, len(accepted), forms)
		same(t, "isDawg of "+what, ok && isDawg(d), valid)
		same(t, "ValidDawg of "+what, impl.ValidDawg(d), valid)
		list, code := impl.WordsOf(d)
		text := impl.DawgText(d)
		read, ok := impl.ReadDawg(plainText(d))
		if valid {
			sameCodedList(t, "WordsOf "+what, withCode(list, code), sortedOnce(accepted), impl.OK)
			same(t, "text of "+what, text, plainText(d))
			same(t, "ReadDawg of "+what, ok && equalDawgs(read, d), true)
		} else {
			sameCodedList(t, "WordsOf "+what, withCode(list, code), nil, impl.ErrInvalid)
			same(t, "text of "+what, text, "")
			same(t, "ReadDawg of "+what, ok || read.Nodes != nil, false)
		}
	}
	forms := pairedForms(296)
	sized("2999 nodes", automatonOf(append(slices.Clone(forms[:295]), "lj"+"aaaaaaaa"+"lj")...), 2999, 296, true)
	sized("3000 nodes", automatonOf(forms...), 3000, 296, true)
	sized("3001 nodes", automatonOf(append(forms[:296:296], "lklk")...), 3001, 297, false)
	sized("3002 nodes", automatonOf(append(forms[:296:296], "zzzz")...), 3002, 297, false)
	sized("3000 nodes and a form more", automatonOf(append(forms[:296:296], "lkla")...), 3000, 297, true)
	sized("3000 forms", automatonOf(blockForms()...), 4, 3000, true)
	sized("2999 forms", automatonOf(blockForms()[1:]...), 6, 2999, true)
	sized("3001 forms", automatonOf(append(blockForms(), "z")...), 4, 3001, false)
	sized("3001 forms, one with >", automatonOf(append(blockForms(), ">")...), 4, 3001, false)
	sized("a form of 1 byte", automatonOf("a"), 2, 1, true)
	sized("> alone", automatonOf(">"), 2, 1, true)
	sized("a form of 13 bytes", automatonOf("abcdefghijklm"), 14, 1, true)
	sized("a form of 13 bytes with >", automatonOf("lkjihgfedcba>"), 14, 1, true)
	sized("a form of 13 times >", automatonOf(strings.Repeat(">", 13)), 14, 1, true)
	sized("a form of 14 bytes", automatonOf("abcdefghijklmn"), 15, 0, false)
	sized("a form of 14 bytes with >", automatonOf("a>cdefghijklmn"), 15, 0, false)
	sized("forms of 1 and 13 bytes", automatonOf("b", "aaaaaaaaaaaaa"), 14, 2, true)
	sized("forms of 1 and 14 bytes", automatonOf("b", "aaaaaaaaaaaaaa"), 15, 1, false)
	sized("forms of up to 13 bytes, the longest behind", automatonOf("a", "baaaaaaaaaaaa"), 14, 2, true)
	sized("forms of up to 14 bytes, the longest behind", automatonOf("aaaaaaaaaaaaa", "baaaaaaaaaaaaa"), 15, 1, false)
}

// plainText makes the text of an automaton, be it a valid one or not.
func plainText(d impl.Dawg) string {
	var b strings.Builder
	for _, x := range d.Nodes {
		if x.Final {
			b.WriteString("+")
		} else {
			b.WriteString("-")
		}
		for k, next := range x.Next {
			b.WriteString(" " + x.Letters[k:k+1] + strconv.FormatInt(next, 10))
		}
		b.WriteString("\n")
	}
	return b.String()
}

// TestInvalidDawgs gives automata that are not valid to every function that takes one.
func TestInvalidDawgs(t *testing.T) {
	for what, d := range invalidDawgs() {
		for _, s := range []string{"", "a", "b", "t", ">", "at", "aaaaaaaaaaaaa", "aaaaaaaaaaaaaa", "A"} {
			same(t, "NodeAfter "+s+" with "+what, impl.NodeAfter(d, s), int64(-1))
			same(t, "AcceptsWord of "+s+" with "+what, impl.AcceptsWord(d, s), false)
		}
		for _, n := range []int64{-1, 0, 1, 2, int64(len(d.Nodes)), math.MinInt64, math.MaxInt64} {
			for _, c := range []byte{'a', 'b', 't', '>', 'A'} {
				same(t, "StepDawg with "+what, impl.StepDawg(d, n, c), int64(-1))
			}
		}
		sameCodedList(t, "WordsOf with "+what, withCode(impl.WordsOf(d)), nil, impl.ErrInvalid)
		l, code := impl.LexiconOf(d)
		sameLexicon(t, "LexiconOf with "+what, l, code, nil, impl.ErrInvalid)
		sameCoded(t, "EdgeCount with "+what, withCode(impl.EdgeCount(d)), 0, impl.ErrInvalid)
		sameCoded(t, "LongestWord with "+what, withCode(impl.LongestWord(d)), 0, impl.ErrInvalid)
		same(t, "DawgText with "+what, impl.DawgText(d), "")
	}
}

// TestReadInvalidDawgs reads the texts that automata would have that are not valid.
func TestReadInvalidDawgs(t *testing.T) {
	for what, d := range invalidDawgs() {
		if slices.ContainsFunc(d.Nodes, func(x impl.Node) bool { return len(x.Letters) != len(x.Next) }) {
			continue
		}
		read, ok := impl.ReadDawg(plainText(d))
		if ok || read.Nodes != nil {
			t.Errorf("ReadDawg with %s: got %v and %t", what, read, ok)
		}
	}
}

func TestSameDawg(t *testing.T) {
	all := validDawgs()
	for _, d := range invalidDawgs() {
		if len(d.Nodes) < 100 {
			all = append(all, d)
		}
	}
	all = append(all, nearDawgs(automatonOf("ac", "bac"))...)
	for i, a := range all {
		if b := copiedDawg(a); !impl.SameDawg(a, b) || !impl.SameDawg(b, a) {
			t.Errorf("SameDawg: the automaton %d differs from its copy", i)
		}
		for k, b := range all {
			if impl.SameDawg(a, b) != equalDawgs(a, b) {
				t.Errorf("SameDawg of the automata %d and %d: wrong", i, k)
			}
		}
	}
	same(t, "nil and empty lists", impl.SameDawg(impl.Dawg{}, dawg([]impl.Node{}...)), true)
	same(t, "nil and empty lists of a node", impl.SameDawg(dawg(node(true, "")), dawg(impl.Node{Final: true, Next: []int64{}})), true)
	same(t, "no node and a zero node", impl.SameDawg(impl.Dawg{}, dawg(impl.Node{})), false)
}

// TestStepDawg takes every step from every node, and steps from nodes that there are not.
func TestStepDawg(t *testing.T) {
	for i, d := range validDawgs() {
		n := int64(len(d.Nodes))
		if n > 30 {
			continue
		}
		for k := int64(-2); k < n+2; k++ {
			for c := range 256 {
				want := int64(-1)
				if k >= 0 && k < n {
					if at := slices.Index([]byte(d.Nodes[k].Letters), byte(c)); at >= 0 {
						want = d.Nodes[k].Next[at]
					}
				}
				if got := impl.StepDawg(d, k, byte(c)); got != want {
					t.Errorf("StepDawg of the automaton %d from %d by %d: got %d, want %d", i, k, c, got, want)
				}
			}
		}
		for _, k := range []int64{math.MinInt64, math.MaxInt64, n + 1<<32, -n, 1 << 32} {
			for _, c := range []byte{'a', '>', 'z'} {
				same(t, "StepDawg from no node", impl.StepDawg(d, k, c), int64(-1))
			}
		}
	}
	d := automatonOf("at", "et")
	for _, c := range []struct {
		node int64
		byte byte
		want int64
	}{{0, 'a', 1}, {0, 'e', 1}, {1, 't', 2}, {0, 'z', -1}, {0, 't', -1}, {1, 'a', -1}, {2, 'a', -1}, {2, 't', -1}, {-1, 'a', -1}, {3, 'a', -1}, {0, 0, -1}, {0, '>', -1}, {0, 'A', -1}} {
		same(t, "StepDawg of at and et", impl.StepDawg(d, c.node, c.byte), c.want)
	}
}

// TestNodeAfter compares the nodes that are reached with the sets of the strings behind them.
func TestNodeAfter(t *testing.T) {
	for i, forms := range formSets() {
		d := automatonOf(forms...)
		if len(d.Nodes) > 60 {
			continue
		}
		reached := map[string]int64{}
		for _, s := range slices.Concat([]string{"", "A", "a\x00", "\xff", "é", "aaaaaaaaaaaaaa", strings.Repeat("a", 5000)}, wordsOver(">ab", 1, 3), wordsOver("aetz", 1, 2), forms) {
			set, key := stringsBehind(forms, s)
			got := impl.NodeAfter(d, s)
			if s == "" {
				same(t, "NodeAfter the empty string", got, int64(0))
				same(t, "AcceptsWord of the empty string", impl.AcceptsWord(d, s), false)
			} else if (got < 0) != (len(set) == 0) || got < -1 {
				t.Errorf("NodeAfter %q in the automaton %d: got %d, behind it are %q", s, i, got, set)
			}
			if got >= 0 {
				if before, met := reached[key]; met && before != got {
					t.Errorf("NodeAfter %q in the automaton %d: got %d and %d for the same strings", s, i, got, before)
				}
				reached[key] = got
			}
			same(t, "AcceptsWord of "+strconv.Quote(s), impl.AcceptsWord(d, s), slices.Contains(forms, s))
		}
		numbers := map[int64]bool{}
		for _, number := range reached {
			numbers[number] = true
		}
		same(t, "different nodes for different strings", len(numbers), len(reached))
	}
	d := automatonOf("at", "ate", "tea")
	for s, want := range map[string]int64{"": 0, "a": 1, "at": 2, "ate": 3, "t": 4, "te": 5, "tea": 3, "e": -1, "ta": -1, "att": -1, "ates": -1, "teas": -1, ">": -1, "A": -1, "a\x00": -1} {
		same(t, "NodeAfter "+s+" of at, ate and tea", impl.NodeAfter(d, s), want)
		same(t, "AcceptsWord of "+s, impl.AcceptsWord(d, s), s == "at" || s == "ate" || s == "tea")
	}
}

// TestAcceptedForms compares what automata tell of their strings with these strings.
func TestAcceptedForms(t *testing.T) {
	for i, forms := range formSets() {
		what := "the automaton " + strconv.Itoa(i)
		d := automatonOf(forms...)
		sameCodedList(t, "WordsOf "+what, withCode(impl.WordsOf(d)), forms, impl.OK)
		longest := 0
		for _, form := range forms {
			longest = max(longest, len(form))
		}
		sameCoded(t, "LongestWord of "+what, withCode(impl.LongestWord(d)), int64(longest), impl.OK)
		sameCoded(t, "EdgeCount of "+what, withCode(impl.EdgeCount(d)), int64(strings.Count(plainText(d), " ")), impl.OK)
		l, code := impl.LexiconOf(d)
		if isLexicon(lexicon(forms...)) {
			sameLexicon(t, "LexiconOf "+what, l, code, forms, impl.OK)
		} else {
			sameLexicon(t, "LexiconOf "+what, l, code, nil, impl.ErrFormat)
		}
	}
	nothing, code := impl.BuildDawg(impl.Lexicon{})
	same(t, "code of the automaton of nothing", code, int64(impl.OK))
	sameCodedList(t, "WordsOf nothing", withCode(impl.WordsOf(nothing)), nil, impl.OK)
	sameCoded(t, "LongestWord of nothing", withCode(impl.LongestWord(nothing)), 0, impl.OK)
	sameCoded(t, "EdgeCount of nothing", withCode(impl.EdgeCount(nothing)), 0, impl.OK)
	l, code := impl.LexiconOf(nothing)
	sameLexicon(t, "LexiconOf nothing", l, code, nil, impl.OK)
	two := automatonOf("at", "et")
	sameCoded(t, "LongestWord of at and et", withCode(impl.LongestWord(two)), 2, impl.OK)
	sameCoded(t, "EdgeCount of at and et", withCode(impl.EdgeCount(two)), 3, impl.OK)
	sameCodedList(t, "WordsOf at and et", withCode(impl.WordsOf(two)), []string{"at", "et"}, impl.OK)
	sameCodedList(t, "WordsOf ba, b> and b", withCode(impl.WordsOf(automatonOf("ba", "b>", "b"))), []string{"b", "b>", "ba"}, impl.OK)
}

// TestNoLexicons has automata whose strings are those of a lexicon, and others.
func TestNoLexicons(t *testing.T) {
	for _, forms := range [][]string{{"an"}, {"an", "ant"}, {"abcdefghijkl"}, manyWords(199), manyWords(200)} {
		l, code := impl.LexiconOf(automatonOf(forms...))
		sameLexicon(t, "LexiconOf "+forms[0]+" and others", l, code, forms, impl.OK)
	}
	for _, forms := range [][]string{
		{"a"}, {"a", "an"}, {"an", "b"}, {"an", "z"}, {">"}, {">>"}, {"a>"}, {">a"}, {"an", "a>n"}, {"an", "z>"}, {"abcdefghijklm"}, {"an", "abcdefghijklm"},
		{"an", "zzzzzzzzzzzzz"}, {"a>bcdefghijkl"}, manyWords(201), manyWords(676), append(manyWords(200), "z"), append(manyWords(199), ">a"), blockForms(),
	} {
		l, code := impl.LexiconOf(automatonOf(forms...))
		sameLexicon(t, "LexiconOf "+forms[0]+" and others", l, code, nil, impl.ErrFormat)
	}
}

// dawgText matches lines of nodes, whatever they lead to.
var dawgText = regexp.MustCompile(`\A(?:[+-](?: [a-z>](?:0|[1-9][0-9]{0,8}))*\n)*\z`)

// parsedDawg makes an automaton of a text that is matched by dawgText.
func parsedDawg(s string) impl.Dawg {
	var d impl.Dawg
	for line := range strings.Lines(s) {
		parts := strings.Fields(line)
		x := node(parts[0] == "+", "")
		for _, part := range parts[1:] {
			n, _ := strconv.Atoi(part[1:])
			x.Letters += part[:1]
			x.Next = append(x.Next, int64(n))
		}
		d.Nodes = append(d.Nodes, x)
	}
	return d
}

// sameReadDawg checks ReadDawg of a text, be it one of an automaton or not, and reports whether it is one.
func sameReadDawg(t *testing.T, s string) bool {
	t.Helper()
	d, ok := impl.ReadDawg(s)
	var want impl.Dawg
	if dawgText.MatchString(s) {
		want = parsedDawg(s)
	}
	if !isDawg(want) {
		if ok || d.Nodes != nil {
			t.Errorf("ReadDawg(%q): got %v and %t", s, d, ok)
		}
		return false
	}
	if !ok || !equalDawgs(d, want) {
		t.Errorf("ReadDawg(%q): got %v and %t, want %v", s, d, ok, want)
	}
	return true
}

func TestDawgTexts(t *testing.T) {
	for want, forms := range map[string][]string{
		"-\n": nil, "- a1\n+\n": {"a"}, "- >1\n+\n": {">"}, "- a1 e1\n- t2\n+\n": {"at", "et"}, "- >1 a1\n+\n": {">", "a"}, "- a1\n+ >2\n+\n": {"a", "a>"},
		"- a1\n- a2\n- a3\n- a4\n- a5\n- a6\n- a7\n- a8\n- a9\n- a10\n- a11\n- a12\n- a13\n+\n": {"aaaaaaaaaaaaa"},
	} {
		same(t, "DawgText", impl.DawgText(automatonOf(forms...)), want)
		read, ok := impl.ReadDawg(want)
		same(t, "ReadDawg of "+strconv.Quote(want), ok && equalDawgs(read, automatonOf(forms...)), true)
	}
	for i, d := range validDawgs() {
		text := impl.DawgText(d)
		same(t, "text of the automaton "+strconv.Itoa(i), text, plainText(d))
		read, ok := impl.ReadDawg(text)
		same(t, "ReadDawg of the automaton "+strconv.Itoa(i), ok && equalDawgs(read, d), true)
		same(t, "what the pattern says of the automaton "+strconv.Itoa(i), sameReadDawg(t, text), true)
	}
}

// TestReadDawgFails has texts that are nearly right.
func TestReadDawgFails(t *testing.T) {
	for _, s := range append(oddStrings(),
		"\n", "\n\n", "-", "+", "+\n", "--\n", "-+\n", "- \n", " -\n", "-\n\n", "\n-\n", "-\r\n", "-\n\r", "-\t\n", "-\x00\n", "-\n\x00", "-\n ", "-\n-\n", "-\n+\n", "+\n-\n", "- -\n", "- +\n",
		"- a1\n+", "- a1\n+\n\n", "- a1\n\n+\n", "\n- a1\n+\n", "- a1\n+ \n", "- a1 \n+\n", "-  a1\n+\n", " - a1\n+\n", "-a1\n+\n", "- a 1\n+\n", "- 1a\n+\n", "- a\n+\n", "- 1\n+\n", "- a01\n+\n", "- a+1\n+\n",
		"- a-1\n+\n", "- a-0\n+\n", "- a1.\n+\n", "- a1x\n+\n", "- ab1\n+\n", "- aa1\n+\n", "- A1\n+\n", "- a1\n+\n+\n", "- a1\n+\n-\n", "- a1\n-\n", "+ a1\n+\n", "- a1\n+ b2\n", "- a0\n+\n", "- a2\n+\n",
		"- a1\n* \n", "- a1\n*\n", "a1\n+\n", "* a1\n+\n", "- a1\r\n+\r\n", "- a1\n+\r\n", "- a1\t\n+\n", "-\ta1\n+\n", "- a1,b1\n+\n", "- a1b1\n+\n", "- a1  b1\n+\n", "- b1 a1\n+\n", "- a1 a1\n+\n", "- a1 b2\n+\n+\n",
		"- a1 >1\n+\n", "- a1\n+\n- b1\n", "- a2\n+\n- t1\n", "- a1 e3\n- t2\n+\n- t2\n", "- a1 b2\n+\n-\n", "- a1\n+ a1\n", "- a1\n+ b0\n", "- a1 b2\n- c3\n- a1\n+\n", "- a1 b2\n- b3\n- a3\n+\n",
		"- a4294967297\n+\n", "- a18446744073709551617\n+\n", "- a1000000000000000001\n+\n", "- a999999999999999999\n+\n", "- é1\n+\n", "- \xff1\n+\n", "- a１\n+\n", "\ufeff-\n", "-\u2028+\n", "- a1\n+\n\xff",
		"- a1\n- a2\n- a3\n- a4\n- a5\n- a6\n- a7\n- a8\n- a9\n- a10\n- a11\n- a12\n- a13\n- a14\n+\n",
		strings.Repeat("-\n", 5000), strings.Repeat("+\n", 5000), strings.Repeat("\n", 5000), "-"+strings.Repeat(" a1", 200000)+"\n+\n", strings.Repeat("- a1\n", 100000), strings.Repeat("-", 5000)+"\n",
		"- a1"+strings.Repeat(" ", 5000)+"\n+\n", "- a1"+strings.Repeat("0", 5000)+"\n+\n", "- a"+strings.Repeat("0", 5000)+"1\n+\n",
	) {
		d, ok := impl.ReadDawg(s)
		if ok || d.Nodes != nil {
			t.Errorf("ReadDawg(%.100q): got %v and %t", s, d, ok)
		}
	}
}

// TestReadDawgByPattern changes texts of automata in every place.
func TestReadDawgByPattern(t *testing.T) {
	right := 0
	count := func(s string) {
		t.Helper()
		if sameReadDawg(t, s) {
			right++
		}
	}
	for _, text := range []string{"-\n", "- a1\n+\n", "- a1 e1\n- t2\n+\n", "- a1 b3\n- c2\n+\n- a1\n", "- >1 a2\n+ b2\n+\n", "- a1\n+ a2\n+ a3\n+\n"} {
		for i := range len(text) + 1 {
			count(text[:i])
			count(text[i:])
			for c := range 256 {
				count(text[:i] + string([]byte{byte(c)}) + text[i:])
			}
			if i == len(text) {
				continue
			}
			count(text[:i] + text[i+1:])
			for c := range 256 {
				count(text[:i] + string([]byte{byte(c)}) + text[i+1:])
			}
		}
		lines := strings.SplitAfter(text, "\n")
		for i := range lines {
			for k := range lines {
				moved := slices.Clone(lines)
				moved[i], moved[k] = moved[k], moved[i]
				count(strings.Join(moved, ""))
				count(strings.Join(slices.Insert(slices.Clone(lines), i, lines[k]), ""))
			}
		}
	}
	same(t, "texts of automata among them, and some", right > 100, true)
}

// TestPurityOfAutomata is promise 1 for chapter 6: arguments stay, also their unused capacity, and results are equal again.
func TestPurityOfAutomata(t *testing.T) {
	all := validDawgs()
	for _, d := range invalidDawgs() {
		all = append(all, d)
	}
	other := automatonOf("at", "et")
	for i, d := range all {
		copied := copiedDawg(d)
		for range 2 {
			same(t, "ValidDawg", impl.ValidDawg(copied), impl.ValidDawg(d))
			same(t, "SameDawg", impl.SameDawg(copied, d) && impl.SameDawg(d, copied), true)
			same(t, "SameDawg with another one", impl.SameDawg(copied, other), impl.SameDawg(other, d))
			same(t, "StepDawg", impl.StepDawg(copied, 0, 'a'), impl.StepDawg(d, 0, 'a'))
			same(t, "NodeAfter", impl.NodeAfter(copied, "ab"), impl.NodeAfter(d, "ab"))
			same(t, "AcceptsWord", impl.AcceptsWord(copied, "ab"), impl.AcceptsWord(d, "ab"))
			same(t, "WordsOf", withCode(impl.WordsOf(copied)), withCode(impl.WordsOf(d)))
			same(t, "LexiconOf", withCode(impl.LexiconOf(copied)), withCode(impl.LexiconOf(d)))
			same(t, "EdgeCount", withCode(impl.EdgeCount(copied)), withCode(impl.EdgeCount(d)))
			same(t, "LongestWord", withCode(impl.LongestWord(copied)), withCode(impl.LongestWord(d)))
			same(t, "DawgText", impl.DawgText(copied), impl.DawgText(d))
		}
		if !keptCopy(copied, d) {
			t.Errorf("the automaton %d has changed", i)
		}
	}
	for i, l := range append(validLexicons(), invalidLexicons()...) {
		a := roomyLexicon(l)
		first, code := impl.BuildDawg(a)
		second, again := impl.BuildDawg(l)
		same(t, "BuildDawg again", code == again && equalDawgs(first, second), true)
		if !slices.Equal(a.Words[:len(l.Words)+3], append(slices.Clone(l.Words), "mark", "mark", "mark")) {
			t.Errorf("the lexicon %d has changed", i)
		}
	}
}

// TestAutomataApart spoils each part of each result, and looks at the other parts, the argument and a further result.
func TestAutomataApart(t *testing.T) {
	words := []string{"ab", "aba", "ba", "tar", "tart"}
	built := func() impl.Dawg { d, _ := impl.BuildDawg(lexicon(words...)); return d }
	read := func() impl.Dawg { d, _ := impl.ReadDawg(plainText(automatonOf(words...))); return d }
	want := automatonOf(words...)
	for what, result := range map[string]func() impl.Dawg{"BuildDawg": built, "ReadDawg": read} {
		for i := range want.Nodes {
			d := result()
			spoil(d.Nodes[i].Next, 99)
			for k, x := range d.Nodes {
				if k != i && !equalDawgs(dawg(x), dawg(want.Nodes[k])) {
					t.Errorf("%s: the node %d shares memory with the node %d", what, k, i)
				}
			}
		}
		d := result()
		spoil(d.Nodes, node(true, "spoilt", 5))
		same(t, what+" after a spoilt result", equalDawgs(result(), want), true)
		sameList(t, "words after a spoilt result of "+what, words, []string{"ab", "aba", "ba", "tar", "tart"})
	}
	d := automatonOf(words...)
	list, _ := impl.WordsOf(d)
	spoil(list, "spoilt")
	sameCodedList(t, "WordsOf after a spoilt result", withCode(impl.WordsOf(d)), words, impl.OK)
	l, _ := impl.LexiconOf(d)
	spoil(l.Words, "spoilt")
	sameCodedList(t, "WordsOf after a spoilt lexicon", withCode(impl.WordsOf(d)), words, impl.OK)
	same(t, "the automaton after spoilt results", equalDawgs(d, want), true)
}

// TestAutomataAgain calls every function with strings twice, whatever they are.
func TestAutomataAgain(t *testing.T) {
	d := automatonOf("at", "et", "a>", ">")
	for _, s := range append(oddStrings(), "- a1 e1\n- t2\n+\n", "at", ">") {
		same(t, "NodeAfter", impl.NodeAfter(d, s), impl.NodeAfter(d, s))
		same(t, "AcceptsWord", impl.AcceptsWord(d, s), slices.Contains([]string{"at", "et", "a>", ">"}, s))
		first, ok := impl.ReadDawg(s)
		second, again := impl.ReadDawg(s)
		same(t, "ReadDawg", ok == again && equalDawgs(first, second), true)
	}
}
