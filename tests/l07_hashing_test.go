package tests

import (
	"math"
	"math/big"
	"slices"
	"strconv"
	"strings"
	"testing"

	"loop.example/g00911/impl"
)

// wordRange is a result of RangeOf.
type wordRange struct{ first, count, code int64 }

func sameWordRange(t *testing.T, what string, d impl.Dawg, prefix string, first, count, code int64) {
	t.Helper()
	var got wordRange
	got.first, got.count, got.code = impl.RangeOf(d, prefix)
	if want := (wordRange{first, count, code}); got != want {
		t.Errorf("RangeOf(%q) of %s: got %v, want %v", prefix, what, got, want)
	}
}

// askedStrings are strings to ask about an automaton of forms: these, what is near them, and others.
func askedStrings(forms []string) []string {
	all := slices.Concat(oddStrings(), wordsOver(">ab", 1, 3), wordsOver("aetz", 1, 2), []string{"zzzzzzzzzzzzz", "zzzzzzzzzzzzzz", "{", "=", "\xff\xff"})
	for _, form := range forms[:min(40, len(forms))] {
		for n := range len(form) {
			all = append(all, form[:n])
		}
		last := len(form) - 1
		all = append(all, form, form+">", form+"a", form+"z", form+"\x00", form+"\xff", form[:last]+string([]byte{form[last] - 1}), form[:last]+string([]byte{form[last] + 1}))
	}
	return all
}

// sameNumbers checks everything that numbers tell of an automaton of forms, which are in strictly increasing order,
// by counting and comparing them.
func sameNumbers(t *testing.T, what string, d impl.Dawg, forms []string) {
	t.Helper()
	n := int64(len(forms))
	for _, number := range []int64{-1, n, n + 1, -n - 1, math.MinInt64, math.MaxInt64, 1 << 32, n + 1<<32, -1 << 32} {
		sameCoded(t, "WordAt a number that "+what+" does not have", withCode(impl.WordAt(d, number)), "", impl.ErrRange)
	}
	for _, s := range askedStrings(forms) {
		var less, with int64
		number, next := int64(-1), ""
		for i, form := range slices.Backward(forms) {
			if form < s {
				less++
			}
			if strings.HasPrefix(form, s) {
				with++
			}
			if form == s {
				number = int64(i)
			}
			if form > s {
				next = form
			}
		}
		sameWordRange(t, what, d, s, less, with, impl.OK)
		if number >= 0 {
			sameCoded(t, "NumberOf "+s+" in "+what, withCode(impl.NumberOf(d, s)), number, impl.OK)
		} else {
			sameCoded(t, "NumberOf "+strconv.Quote(s)+" in "+what, withCode(impl.NumberOf(d, s)), 0, impl.ErrNotFound)
		}
		if next != "" {
			sameCoded(t, "NextWord behind "+strconv.Quote(s)+" in "+what, withCode(impl.NextWord(d, s)), next, impl.OK)
		} else {
			sameCoded(t, "NextWord behind "+strconv.Quote(s)+" in "+what, withCode(impl.NextWord(d, s)), "", impl.ErrNotFound)
		}
	}
}

// sameNumbering is promise 7: the numbers of the strings are 0, 1 and so on, and lead back to them.
func sameNumbering(t *testing.T, what string, d impl.Dawg, forms []string, step int) {
	t.Helper()
	for i := 0; i < len(forms); i += step {
		number, form := int64(i), forms[i]
		sameCoded(t, "WordAt "+strconv.Itoa(i)+" in "+what, withCode(impl.WordAt(d, number)), form, impl.OK)
		sameCoded(t, "NumberOf "+form+" in "+what, withCode(impl.NumberOf(d, form)), number, impl.OK)
		if i > 0 {
			sameCoded(t, "NextWord behind "+forms[i-1]+" in "+what, withCode(impl.NextWord(d, forms[i-1])), form, impl.OK)
		}
	}
}

// pathsOf returns, for each node of the automaton of forms, the strings that lead to it in ascending order, and how
// many strings lead from it to a node with Final true.
func pathsOf(d impl.Dawg, forms []string) ([][]string, []int64) {
	beginnings := []string{""}
	for _, form := range forms {
		for n := range len(form) {
			beginnings = append(beginnings, form[:n+1])
		}
	}
	buckets := make([][]string, len(d.Nodes))
	counts := make([]int64, len(d.Nodes))
	for _, beginning := range sortedOnce(beginnings) {
		node := int64(0)
		for _, c := range []byte(beginning) {
			node = d.Nodes[node].Next[strings.IndexByte(d.Nodes[node].Letters, c)]
		}
		if buckets[node] == nil {
			for _, form := range forms {
				if strings.HasPrefix(form, beginning) {
					counts[node]++
				}
			}
		}
		buckets[node] = append(buckets[node], beginning)
	}
	return buckets, counts
}

// checksum is the checksum of forms, computed with numbers of any length.
func checksum(forms []string) int64 {
	sum := big.NewInt(7)
	for _, form := range forms {
		for _, c := range []byte(form + "\n") {
			sum.Mul(sum, big.NewInt(31))
			sum.Add(sum, big.NewInt(int64(c)))
			sum.Mod(sum, big.NewInt(1000000007))
		}
	}
	return sum.Int64()
}

// sameNodes checks what is told of the nodes of an automaton, and its checksum.
func sameNodes(t *testing.T, what string, d impl.Dawg, forms []string) {
	t.Helper()
	buckets, counts := pathsOf(d, forms)
	sameCodedList(t, "CountsOf "+what, withCode(impl.CountsOf(d)), counts, impl.OK)
	n := int64(len(d.Nodes))
	for node := int64(0); node < n; node += 1 + n/50 {
		sameCodedList(t, "BucketOf the node "+strconv.FormatInt(node, 10)+" of "+what, withCode(impl.BucketOf(d, node)), buckets[node], impl.OK)
	}
	sameCodedList(t, "BucketOf the last node of "+what, withCode(impl.BucketOf(d, n-1)), buckets[n-1], impl.OK)
	for _, node := range []int64{-1, n, n + 1, -n, -n - 1, math.MinInt64, math.MaxInt64, 1 << 32, n + 1<<32} {
		sameCodedList(t, "BucketOf no node of "+what, withCode(impl.BucketOf(d, node)), nil, impl.ErrRange)
	}
	sameCoded(t, "SumOf "+what, withCode(impl.SumOf(d)), checksum(forms), impl.OK)
}

// TestNumbersOfForms compares all functions of the chapter with the lists of strings that the automata accept.
func TestNumbersOfForms(t *testing.T) {
	for i, forms := range formSets() {
		what := "the automaton " + strconv.Itoa(i)
		d := automatonOf(forms...)
		sameNodes(t, what, d, forms)
		sameNumbers(t, what, d, forms)
		sameNumbering(t, what, d, forms, 1)
	}
}

// TestNumbersOfLexicons does so for automata that BuildDawg makes.
func TestNumbersOfLexicons(t *testing.T) {
	for i, l := range append(validLexicons(), fullLexicons()...) {
		what := "the automaton of the lexicon " + strconv.Itoa(i)
		d, code := impl.BuildDawg(l)
		same(t, "code of BuildDawg", code, int64(impl.OK))
		sameNodes(t, what, d, l.Words)
		sameNumbering(t, what, d, l.Words, 1)
		for _, prefix := range []string{"", "a", "ab", "t", "ta", "zz", "A", "{"} {
			first, count, _ := impl.PrefixRange(l, prefix)
			sameWordRange(t, what, d, prefix, first, count, impl.OK)
		}
	}
}

// TestNumbersOfAllSets does so for all sets of some strings, most of which are beginnings of others.
func TestNumbersOfAllSets(t *testing.T) {
	some := []string{">", "a", "a>", "a>b", "aa", "ab", "aba", "b", "bb"}
	asked := slices.Concat([]string{""}, wordsOver("=>ab", 1, 3), []string{"aba\x00", "abab", "ab\x7f", "c", "\x00", "\xff"})
	for chosen := range 1 << len(some) {
		var forms []string
		for i, form := range some {
			if chosen>>i&1 == 1 {
				forms = append(forms, form)
			}
		}
		what := strings.Join(forms, " ")
		d := automatonOf(forms...)
		sameNodes(t, what, d, forms)
		sameNumbering(t, what, d, forms, 1)
		for _, s := range asked {
			less, found := slices.BinarySearch(forms, s)
			with := 0
			for _, form := range forms {
				if strings.HasPrefix(form, s) {
					with++
				}
			}
			sameWordRange(t, what, d, s, int64(less), int64(with), impl.OK)
			at := less
			if found {
				at++
			}
			next, code := impl.NextWord(d, s)
			if at < len(forms) && (next != forms[at] || code != impl.OK) || at == len(forms) && (next != "" || code != impl.ErrNotFound) {
				t.Errorf("NextWord behind %q in %s: got %q and %d", s, what, next, code)
			}
			number, code := impl.NumberOf(d, s)
			if found && (number != int64(less) || code != impl.OK) || !found && (number != 0 || code != impl.ErrNotFound) {
				t.Errorf("NumberOf %q in %s: got %d and %d", s, what, number, code)
			}
		}
	}
}

// TestGreatestNumbers has automata with as many strings, nodes and bytes as there may be.
func TestGreatestNumbers(t *testing.T) {
	deep := []string{}
	for n := range 13 {
		deep = append(deep, strings.Repeat("z", n+1))
	}
	for what, forms := range map[string][]string{"3000 forms": sortedOnce(blockForms()), "3000 nodes": sortedOnce(pairedForms(296)), "forms of up to 13 bytes": deep} {
		d := automatonOf(forms...)
		same(t, "ValidDawg of "+what, impl.ValidDawg(d), true)
		sameNodes(t, what, d, forms)
		sameNumbers(t, what, d, forms)
		sameNumbering(t, what, d, forms, 1+len(forms)/400)
		last := forms[len(forms)-1]
		n := int64(len(forms))
		sameCoded(t, "the last number of "+what, withCode(impl.NumberOf(d, last)), n-1, impl.OK)
		sameCoded(t, "the last string of "+what, withCode(impl.WordAt(d, n-1)), last, impl.OK)
		sameCoded(t, "behind the last number of "+what, withCode(impl.WordAt(d, n)), "", impl.ErrRange)
		sameCoded(t, "behind the last string of "+what, withCode(impl.NextWord(d, last)), "", impl.ErrNotFound)
	}
	counts, code := impl.CountsOf(automatonOf(blockForms()...))
	sameCodedList(t, "CountsOf 3000 forms", withCode(counts, code), []int64{3000, 200, 10, 1}, impl.OK)
	bucket, code := impl.BucketOf(automatonOf(blockForms()...), 3)
	sameCodedList(t, "BucketOf the end of 3000 forms", withCode(bucket, code), sortedOnce(blockForms()), impl.OK)
}

// TestNumbersOfNothing has the automaton that accepts nothing.
func TestNumbersOfNothing(t *testing.T) {
	d, _ := impl.BuildDawg(impl.Lexicon{})
	sameCodedList(t, "CountsOf nothing", withCode(impl.CountsOf(d)), []int64{0}, impl.OK)
	sameCodedList(t, "BucketOf nothing", withCode(impl.BucketOf(d, 0)), []string{""}, impl.OK)
	sameCodedList(t, "BucketOf nothing", withCode(impl.BucketOf(d, 1)), nil, impl.ErrRange)
	sameCodedList(t, "BucketOf nothing", withCode(impl.BucketOf(d, -1)), nil, impl.ErrRange)
	sameCoded(t, "SumOf nothing", withCode(impl.SumOf(d)), 7, impl.OK)
	for _, s := range []string{"", "a", ">", "at", "A", "zzzzzzzzzzzzzz"} {
		sameCoded(t, "NumberOf in nothing", withCode(impl.NumberOf(d, s)), 0, impl.ErrNotFound)
		sameWordRange(t, "nothing", d, s, 0, 0, impl.OK)
		sameCoded(t, "NextWord in nothing", withCode(impl.NextWord(d, s)), "", impl.ErrNotFound)
	}
	for _, number := range []int64{-1, 0, 1} {
		sameCoded(t, "WordAt in nothing", withCode(impl.WordAt(d, number)), "", impl.ErrRange)
	}
}

// TestNumbersOfOne has automata with one string.
func TestNumbersOfOne(t *testing.T) {
	for _, form := range []string{"a", ">", "at", "abcdefghijklm"} {
		d := automatonOf(form)
		sameCodedList(t, "CountsOf "+form, withCode(impl.CountsOf(d)), slices.Repeat([]int64{1}, len(form)+1), impl.OK)
		sameCoded(t, "NumberOf "+form, withCode(impl.NumberOf(d, form)), 0, impl.OK)
		sameCoded(t, "WordAt 0", withCode(impl.WordAt(d, 0)), form, impl.OK)
		sameCoded(t, "WordAt 1", withCode(impl.WordAt(d, 1)), "", impl.ErrRange)
		sameCoded(t, "WordAt -1", withCode(impl.WordAt(d, -1)), "", impl.ErrRange)
		sameCoded(t, "NextWord behind nothing", withCode(impl.NextWord(d, "")), form, impl.OK)
		sameCoded(t, "NextWord behind it", withCode(impl.NextWord(d, form)), "", impl.ErrNotFound)
		sameWordRange(t, form, d, "", 0, 1, impl.OK)
		sameWordRange(t, form, d, form, 0, 1, impl.OK)
		sameWordRange(t, form, d, form+"a", 1, 0, impl.OK)
		for node := range int64(len(form) + 1) {
			sameCodedList(t, "BucketOf "+form, withCode(impl.BucketOf(d, node)), []string{form[:node]}, impl.OK)
		}
	}
	sameCoded(t, "SumOf a", withCode(impl.SumOf(automatonOf("a"))), (7*31+97)*31+10, impl.OK)
	sameCoded(t, "SumOf >", withCode(impl.SumOf(automatonOf(">"))), (7*31+62)*31+10, impl.OK)
}

// TestHashingByHand has the examples of the document, and strings of which one is the beginning of another.
func TestHashingByHand(t *testing.T) {
	d := automatonOf("at", "et")
	sameCodedList(t, "CountsOf at and et", withCode(impl.CountsOf(d)), []int64{2, 1, 1}, impl.OK)
	sameCoded(t, "NumberOf et", withCode(impl.NumberOf(d, "et")), 1, impl.OK)
	sameCoded(t, "SumOf at and et", withCode(impl.SumOf(d)), 97080364, impl.OK)
	sameCodedList(t, "BucketOf 0", withCode(impl.BucketOf(d, 0)), []string{""}, impl.OK)
	sameCodedList(t, "BucketOf 1", withCode(impl.BucketOf(d, 1)), []string{"a", "e"}, impl.OK)
	sameCodedList(t, "BucketOf 2", withCode(impl.BucketOf(d, 2)), []string{"at", "et"}, impl.OK)
	sameCodedList(t, "BucketOf 3", withCode(impl.BucketOf(d, 3)), nil, impl.ErrRange)
	x := automatonOf("at", "ate", "t", "tate", "tea")
	sameCodedList(t, "CountsOf the five", withCode(impl.CountsOf(x)), []int64{5, 2, 2, 1, 3, 1, 1, 1}, impl.OK)
	for i, form := range []string{"at", "ate", "t", "tate", "tea"} {
		sameCoded(t, "NumberOf "+form, withCode(impl.NumberOf(x, form)), int64(i), impl.OK)
		sameCoded(t, "WordAt "+form, withCode(impl.WordAt(x, int64(i))), form, impl.OK)
	}
	for s, next := range map[string]string{"": "at", "a": "at", "as": "at", "at": "ate", "at\x00": "ate", "ata": "ate", "ate": "t", "ates": "t", "b": "t", "t": "tate", "ta": "tate", "tat": "tate", "tate": "tea", "te": "tea", "A": "at", ">": "at"} {
		sameCoded(t, "NextWord behind "+s, withCode(impl.NextWord(x, s)), next, impl.OK)
	}
	for _, s := range []string{"tea", "teas", "tea\x00", "teb", "u", "z", "{", "\xff"} {
		sameCoded(t, "NextWord behind "+s, withCode(impl.NextWord(x, s)), "", impl.ErrNotFound)
	}
	for s, want := range map[string][2]int64{
		"": {0, 5}, "a": {0, 2}, "at": {0, 2}, "ate": {1, 1}, "ates": {2, 0}, "as": {0, 0}, "au": {2, 0}, "b": {2, 0}, "t": {2, 3}, "ta": {3, 1}, "tate": {3, 1}, "te": {4, 1},
		"tea": {4, 1}, "teb": {5, 0}, "u": {5, 0}, "zzz": {5, 0}, "\xff": {5, 0}, "A": {0, 0}, ">": {0, 0}, "\x00": {0, 0}, "at\x00": {1, 0}, "t>": {3, 0},
	} {
		sameWordRange(t, "the five", x, s, want[0], want[1], impl.OK)
	}
	turned := automatonOf("t>ea", "et>a", "aet")
	sameCodedList(t, "BucketOf the end", withCode(impl.BucketOf(turned, 3)), []string{"aet", "et>a", "t>ea"}, impl.OK)
}

// TestHashingOfInvalidDawgs gives automata that are not valid to every function of the chapter; they are told before all else.
func TestHashingOfInvalidDawgs(t *testing.T) {
	for what, d := range invalidDawgs() {
		sameCodedList(t, "CountsOf with "+what, withCode(impl.CountsOf(d)), nil, impl.ErrInvalid)
		sameCoded(t, "SumOf with "+what, withCode(impl.SumOf(d)), 0, impl.ErrInvalid)
		for _, s := range []string{"", "a", "b", "zzz", ">", "A", "aaaaaaaaaaaaaa"} {
			sameCoded(t, "NumberOf with "+what, withCode(impl.NumberOf(d, s)), 0, impl.ErrInvalid)
			sameWordRange(t, what, d, s, 0, 0, impl.ErrInvalid)
			sameCoded(t, "NextWord with "+what, withCode(impl.NextWord(d, s)), "", impl.ErrInvalid)
		}
		for _, n := range []int64{-1, 0, 1, int64(len(d.Nodes)), math.MinInt64, math.MaxInt64} {
			sameCoded(t, "WordAt with "+what, withCode(impl.WordAt(d, n)), "", impl.ErrInvalid)
			sameCodedList(t, "BucketOf with "+what, withCode(impl.BucketOf(d, n)), nil, impl.ErrInvalid)
		}
	}
}

// TestPurityOfHashing is promise 1 for chapter 7.
func TestPurityOfHashing(t *testing.T) {
	for i, d := range validDawgs() {
		copied := copiedDawg(d)
		for range 2 {
			same(t, "CountsOf", withCode(impl.CountsOf(copied)), withCode(impl.CountsOf(d)))
			same(t, "NumberOf", withCode(impl.NumberOf(copied, "at")), withCode(impl.NumberOf(d, "at")))
			same(t, "WordAt", withCode(impl.WordAt(copied, 1)), withCode(impl.WordAt(d, 1)))
			first, count, code := impl.RangeOf(d, "a")
			sameWordRange(t, "a copy", copied, "a", first, count, code)
			same(t, "NextWord", withCode(impl.NextWord(copied, "a")), withCode(impl.NextWord(d, "a")))
			same(t, "BucketOf", withCode(impl.BucketOf(copied, 1)), withCode(impl.BucketOf(d, 1)))
			same(t, "SumOf", withCode(impl.SumOf(copied)), withCode(impl.SumOf(d)))
		}
		if !keptCopy(copied, d) {
			t.Errorf("the automaton %d has changed", i)
		}
		counts, _ := impl.CountsOf(copied)
		spoil(counts, 99)
		bucket, _ := impl.BucketOf(copied, 0)
		spoil(bucket, "spoilt")
		same(t, "CountsOf after a spoilt result", withCode(impl.CountsOf(copied)), withCode(impl.CountsOf(d)))
		sameCodedList(t, "BucketOf after a spoilt result", withCode(impl.BucketOf(copied, 0)), []string{""}, impl.OK)
		if !keptCopy(copied, d) {
			t.Errorf("the automaton %d has changed with results", i)
		}
	}
}
