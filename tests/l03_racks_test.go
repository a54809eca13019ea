package tests

import (
	"regexp"
	"slices"
	"strconv"
	"strings"
	"testing"

	"loop.example/g00911/impl"
)

// sorted returns the bytes of s in ascending order.
func sorted(s string) string {
	b := []byte(s)
	slices.Sort(b)
	return string(b)
}

// pilePattern matches tiles in ascending order, however many.
var pilePattern = regexp.MustCompile(`\A\?*a*b*c*d*e*f*g*h*i*j*k*l*m*n*o*p*q*r*s*t*u*v*w*x*y*z*\z`)

// somePiles are piles that reach the limits, and others.
func somePiles() []string {
	all := []string{
		"", "?", "??", "a", "z", "?a", "?z", "az", "aa", "zz", "??aa", "?ae", "aae", "ae", "e", "aee", "aen", "aet", "?aet",
		alphabet, "?" + alphabet, "aaaeeennrrsstt", "?aaaeeennrrsstt", "???????", "aaaaaaa", "abcdefg", "????????",
		strings.Repeat("?", 60), strings.Repeat("a", 60), strings.Repeat("?", 119), strings.Repeat("z", 119),
		strings.Repeat("?", 120), strings.Repeat("z", 120), strings.Repeat("?", 119) + "z", "?" + strings.Repeat("a", 119),
		strings.Repeat("?", 60) + strings.Repeat("q", 60),
	}
	for _, s := range validSets() {
		tiles, _ := impl.AllTiles(s)
		all = append(all, tiles)
	}
	next := numbers(3)
	for _, kinds := range []string{"?ab", "?aent", "?" + alphabet} {
		for range 12 {
			var pile []byte
			for range next(12) {
				pile = append(pile, kinds[next(uint32(len(kinds)))])
			}
			all = append(all, sorted(string(pile)))
		}
	}
	return all
}

// notPiles are strings that are no piles, each for one reason or another.
func notPiles() []string {
	all := []string{
		"ba", "a?", "?a?", "aba", "zy", "abcba", "a?b", "aa?", "??a?", "te?a",
		"A", "Z", "?A", "Aa", "aA", "aZ", "?T", "tEst", " ", " a", "a ", "a b", "? a", "a\n", "\na", "a,b", "1", "?1", "a1", "1a",
		"a-", "-a", ">", ">a", "@", "@a", "?@", "`", "`a", "?`a", "a{", "z{", "{", "*", "#", "!a", "\x00", "\x00a", "a\x00", "?\x00",
		"\x7f", "a\x7f", "\xff", "a\xff", "\xbf", "é", "aé", "ſ", "\u212a", "k\u212a", "？", "а",
		strings.Repeat("?", 121), strings.Repeat("a", 121), strings.Repeat("?", 120) + "a", "?" + strings.Repeat("z", 120),
		strings.Repeat("a", 119) + "bb", strings.Repeat("a", 5000), strings.Repeat("?", 1<<16), strings.Repeat("z", 255+1),
		strings.Repeat("z", 119) + "?", strings.Repeat("a", 119) + "A",
	}
	for _, s := range oddStrings() {
		if len(s) > 120 || !pilePattern.MatchString(s) {
			all = append(all, s)
		}
	}
	return all
}

// someWords are words of all lengths.
func someWords() []string {
	all := []string{"a", "e", "z", "aa", "ae", "ea", "aaa", "aae", "tests", "net", "tten", "letters", "abcdefghijkl", "aaaaaaaaaaaa",
		"zzzzzzzzzzzz", "aaaaaaaaaaab", "aabb", "abab", "baba", "xylem"}
	next := numbers(4)
	for range 40 {
		letters := []string{"ab", "aent", alphabet}[next(3)]
		var word []byte
		for range 1 + next(7) {
			word = append(word, letters[next(uint32(len(letters)))])
		}
		all = append(all, string(word))
	}
	return all
}

// notWords are strings that are no words.
func notWords() []string {
	all := []string{"A", "Aa", "aA", "tEst", "AB", "?", "?a", "a?", "a b", " a", "a ", "a-b", "a1", "aaaaaaaaaaaaa", "abcdefghijklm",
		strings.Repeat("a", 120), strings.Repeat("z", 5000), "a\x00", "a{", "`a", "a@", "[a", "\u212a", "a\u212a", "ſ", "é", "İ", "a\xff", ""}
	word := regexp.MustCompile(`\A[a-z]{1,12}\z`)
	for _, s := range oddStrings() {
		if !word.MatchString(s) {
			all = append(all, s)
		}
	}
	return all
}

func TestLimitsOfRacks(t *testing.T) {
	same(t, "MaxRack", impl.MaxRack, 7)
}

func TestValidPile(t *testing.T) {
	for _, s := range somePiles() {
		same(t, "ValidPile("+s+")", impl.ValidPile(s), true)
		same(t, "ValidRack("+s+")", impl.ValidRack(s), len(s) <= 7)
	}
	for _, s := range notPiles() {
		same(t, "ValidPile("+strconv.Quote(s)+")", impl.ValidPile(s), false)
		same(t, "ValidRack("+strconv.Quote(s)+")", impl.ValidRack(s), false)
	}
	for s, want := range map[string]bool{
		"": true, "?": true, "?????aa": true, "???????": true, "????????": false, "aaaaaaa": true, "aaaaaaaa": false,
		"?abcdef": true, "?abcdefg": false, "tuvwxyz": true, "stuvwxyz": false, "ba": false, "abcdegf": false,
	} {
		same(t, "ValidRack("+s+")", impl.ValidRack(s), want)
	}
}

// TestValidPileByPattern holds ValidPile against a regular expression, for all strings of three bytes of some.
func TestValidPileByPattern(t *testing.T) {
	bytes := ">?@A`abyz{\x00\xff"
	for i := range len(bytes) {
		for j := range len(bytes) {
			for k := range len(bytes) {
				s := string([]byte{bytes[i], bytes[j], bytes[k]})
				same(t, "ValidPile("+strconv.Quote(s)+")", impl.ValidPile(s), pilePattern.MatchString(s))
				same(t, "ValidRack("+strconv.Quote(s)+")", impl.ValidRack(s), pilePattern.MatchString(s))
			}
		}
	}
	for c := range 256 {
		s := string([]byte{byte(c)})
		same(t, "ValidPile("+strconv.Quote(s)+")", impl.ValidPile(s), s == "?" || strings.Contains(alphabet, s))
	}
}

// TestInvalidPiles gives strings that are no piles to every function that takes one.
func TestInvalidPiles(t *testing.T) {
	for _, bad := range notPiles() {
		for _, other := range []string{"", "?", "ae", strings.Repeat("a", 120), bad, "ba"} {
			what := strconv.Quote(bad) + " and " + strconv.Quote(other)
			sameCoded(t, "AddTiles of "+what, withCode(impl.AddTiles(bad, other)), "", impl.ErrInvalid)
			sameCoded(t, "AddTiles of "+what, withCode(impl.AddTiles(other, bad)), "", impl.ErrInvalid)
			sameCoded(t, "TakeTiles of "+what, withCode(impl.TakeTiles(bad, other)), "", impl.ErrInvalid)
			sameCoded(t, "TakeTiles of "+what, withCode(impl.TakeTiles(other, bad)), "", impl.ErrInvalid)
			sameCoded(t, "CommonTiles of "+what, withCode(impl.CommonTiles(bad, other)), "", impl.ErrInvalid)
			sameCoded(t, "CommonTiles of "+what, withCode(impl.CommonTiles(other, bad)), "", impl.ErrInvalid)
			same(t, "ContainsTiles of "+what, impl.ContainsTiles(bad, other), false)
			same(t, "ContainsTiles of "+what, impl.ContainsTiles(other, bad), false)
		}
		sameCodedList(t, "SubRacks("+strconv.Quote(bad)+")", withCode(impl.SubRacks(bad)), nil, impl.ErrInvalid)
		for _, word := range []string{"a", "tests", "", "A", "a?", "aaaaaaaaaaaaa"} {
			what := word + " with " + strconv.Quote(bad)
			same(t, "CanMake "+what, impl.CanMake(bad, word), false)
			sameCodedList(t, "WaysToMake "+what, withCode(impl.WaysToMake(bad, word)), nil, impl.ErrInvalid)
		}
		sameCoded(t, "UnseenTiles", withCode(impl.UnseenTiles(smallSet(), bad)), "", impl.ErrInvalid)
		sameCoded(t, "UnseenTiles", withCode(impl.UnseenTiles(impl.TileSet{}, bad)), "", impl.ErrInvalid)
	}
}

func TestSortTiles(t *testing.T) {
	for s, want := range map[string]string{"": "", "?": "?", "te?a": "?aet", "z?a?": "??az", "tests": "esstt", "a": "a", "ba": "ab"} {
		sameCoded(t, "SortTiles("+s+")", withCode(impl.SortTiles(s)), want, impl.OK)
	}
	next := numbers(5)
	for _, pile := range somePiles() {
		mixed := []byte(pile)
		for i := range mixed {
			k := next(uint32(i + 1))
			mixed[i], mixed[k] = mixed[k], mixed[i]
		}
		sameCoded(t, "SortTiles("+string(mixed)+")", withCode(impl.SortTiles(string(mixed))), pile, impl.OK)
		sameCoded(t, "SortTiles of a pile", withCode(impl.SortTiles(pile)), pile, impl.OK)
	}
	for _, word := range someWords() {
		sameCoded(t, "SortTiles("+word+")", withCode(impl.SortTiles(word)), sorted(word), impl.OK)
	}
}

// TestSortTilesErrors has each error, and both of them together.
func TestSortTilesErrors(t *testing.T) {
	tiles := regexp.MustCompile(`\A[?a-z]*\z`)
	for _, s := range append(notPiles(), notWords()...) {
		code := int64(impl.OK)
		want := sorted(s)
		if !tiles.MatchString(s) {
			code, want = impl.ErrSyntax, ""
		} else if len(s) > 120 {
			code, want = impl.ErrFull, ""
		}
		sameCoded(t, "SortTiles("+strconv.Quote(s)+")", withCode(impl.SortTiles(s)), want, code)
	}
	full := strings.Repeat("z?", 60)
	sameCoded(t, "SortTiles of 120 tiles", withCode(impl.SortTiles(full)), sorted(full), impl.OK)
	sameCoded(t, "SortTiles of 121 tiles", withCode(impl.SortTiles(full+"a")), "", impl.ErrFull)
	sameCoded(t, "SortTiles of 121 bytes", withCode(impl.SortTiles(full+"A")), "", impl.ErrSyntax)
	sameCoded(t, "SortTiles of 121 bytes", withCode(impl.SortTiles("A"+full)), "", impl.ErrSyntax)
	sameCoded(t, "SortTiles of 120 bytes", withCode(impl.SortTiles(full[1:]+"A")), "", impl.ErrSyntax)
	sameCoded(t, "SortTiles of many bytes", withCode(impl.SortTiles(strings.Repeat(full, 50)+"1")), "", impl.ErrSyntax)
}

func TestAddTiles(t *testing.T) {
	sameCoded(t, "AddTiles", withCode(impl.AddTiles("?a", "ae")), "?aae", impl.OK)
	sameCoded(t, "AddTiles", withCode(impl.AddTiles("?z", "?a")), "??az", impl.OK)
	for _, a := range somePiles() {
		for _, b := range somePiles() {
			want, code := sorted(a+b), int64(impl.OK)
			if len(a)+len(b) > 120 {
				want, code = "", impl.ErrFull
			}
			sameCoded(t, "AddTiles of "+a+" and "+b, withCode(impl.AddTiles(a, b)), want, code)
		}
	}
	half := strings.Repeat("?", 60)
	sameCoded(t, "AddTiles to 120", withCode(impl.AddTiles(half, half)), half+half, impl.OK)
	sameCoded(t, "AddTiles to 121", withCode(impl.AddTiles(half+"a", half)), "", impl.ErrFull)
	sameCoded(t, "AddTiles of nothing to 120", withCode(impl.AddTiles("", half+half)), half+half, impl.OK)
	sameCoded(t, "AddTiles to 121", withCode(impl.AddTiles("a", half+half)), "", impl.ErrFull)
	sameCoded(t, "AddTiles that are no pile to 120", withCode(impl.AddTiles("ba", half+half)), "", impl.ErrInvalid)
}

// takeOneByOne removes each tile of b from a, and returns false if there is one too few.
func takeOneByOne(a, b string) (string, bool) {
	for i := range len(b) {
		k := strings.IndexByte(a, b[i])
		if k < 0 {
			return "", false
		}
		a = a[:k] + a[k+1:]
	}
	return a, true
}

// commonOneByOne keeps each tile of a that can still be removed from b.
func commonOneByOne(a, b string) string {
	both := ""
	for i := range len(a) {
		if rest, ok := takeOneByOne(b, a[i:i+1]); ok {
			both += a[i : i+1]
			b = rest
		}
	}
	return both
}

func TestTakeTiles(t *testing.T) {
	for _, c := range []struct {
		a, b, want string
		code       int64
	}{
		{"aae", "ae", "a", impl.OK}, {"ae", "ee", "", impl.ErrNotFound}, {"ae", "ae", "", impl.OK}, {"", "", "", impl.OK},
		{"ae", "", "ae", impl.OK}, {"", "a", "", impl.ErrNotFound}, {"?ae", "?", "ae", impl.OK}, {"??ae", "?e", "?a", impl.OK},
		{"?ae", "??", "", impl.ErrNotFound}, {"?ae", "n", "", impl.ErrNotFound}, {"ae", "?", "", impl.ErrNotFound},
		{"???", "aa", "", impl.ErrNotFound}, {"?aa", "aaa", "", impl.ErrNotFound}, {"aaa", "?aa", "", impl.ErrNotFound},
	} {
		sameCoded(t, "TakeTiles of "+c.a+" and "+c.b, withCode(impl.TakeTiles(c.a, c.b)), c.want, c.code)
		same(t, "ContainsTiles of "+c.a+" and "+c.b, impl.ContainsTiles(c.a, c.b), c.code == impl.OK)
	}
}

// TestPilesTakenApart is the part of promise 3 on piles: each pair of piles is added, taken apart and compared tile by tile.
func TestPilesTakenApart(t *testing.T) {
	for _, a := range somePiles() {
		for _, b := range somePiles() {
			what := a + " and " + b
			rest, contained := takeOneByOne(a, b)
			code := int64(impl.OK)
			if !contained {
				code = impl.ErrNotFound
			}
			sameCoded(t, "TakeTiles of "+what, withCode(impl.TakeTiles(a, b)), rest, code)
			same(t, "ContainsTiles of "+what, impl.ContainsTiles(a, b), contained)
			both := commonOneByOne(a, b)
			sameCoded(t, "CommonTiles of "+what, withCode(impl.CommonTiles(a, b)), both, impl.OK)
			same(t, "ContainsTiles of CommonTiles", impl.ContainsTiles(a, both) && impl.ContainsTiles(b, both), true)
			if contained {
				sameCoded(t, "AddTiles to what is left", withCode(impl.AddTiles(rest, b)), a, impl.OK)
			}
			if sum, code := impl.AddTiles(a, b); code == impl.OK {
				same(t, "ValidPile of AddTiles", impl.ValidPile(sum), true)
				sameCoded(t, "TakeTiles from the sum of "+what, withCode(impl.TakeTiles(sum, b)), a, impl.OK)
				sameCoded(t, "TakeTiles from the sum of "+what, withCode(impl.TakeTiles(sum, a)), b, impl.OK)
			}
		}
	}
}

func TestCommonTiles(t *testing.T) {
	for _, c := range [][3]string{
		{"aee", "aen", "ae"}, {"aee", "eez", "ee"}, {"?a", "??a", "?a"}, {"??", "?", "?"}, {"?", "a", ""}, {"??aa", "ab", "a"},
		{"", "a", ""}, {"", "", ""}, {"abc", "xyz", ""}, {"?abc", "?abc", "?abc"},
	} {
		sameCoded(t, "CommonTiles of "+c[0]+" and "+c[1], withCode(impl.CommonTiles(c[0], c[1])), c[2], impl.OK)
		sameCoded(t, "CommonTiles of "+c[1]+" and "+c[0], withCode(impl.CommonTiles(c[1], c[0])), c[2], impl.OK)
	}
}

func TestTilesOfWord(t *testing.T) {
	for word, want := range map[string]string{
		"a": "a", "A": "?", "z": "z", "Z": "?", "tEst": "?stt", "Aa": "?a", "aA": "?a", "AA": "??", "tests": "esstt", "TESTS": "?????",
		"zYx": "?xz", "abcdefghijkl": "abcdefghijkl", "lkjihgfedcba": "abcdefghijkl", "ABCDEFGHIJKL": "????????????",
		"zZzZzZzZzZzZ": "??????zzzzzz",
	} {
		same(t, "TilesOfWord("+word+")", impl.TilesOfWord(word), want)
	}
	for _, s := range []string{"", "?", "a?", "?a", "aaaaaaaaaaaaa", "AAAAAAAAAAAAA", "aaaaaaaaaaaaA", "tEst ", " tEst", "tE st", "tEst1",
		"a-b", "a@", "[a", "a`", "{", "É", "é", "aé", "\u212a", "a\u212aA", "ſ", "İ", "\xff", "A\xff", "A\x00", "A\n", strings.Repeat("A", 5000)} {
		same(t, "TilesOfWord("+strconv.Quote(s)+")", impl.TilesOfWord(s), "")
	}
	placed := regexp.MustCompile(`\A[A-Za-z]{1,12}\z`)
	for _, s := range append(append(append(oddStrings(), notWords()...), someWords()...), somePiles()...) {
		want := ""
		if placed.MatchString(s) {
			want = sorted(regexp.MustCompile(`[A-Z]`).ReplaceAllString(s, "?"))
		}
		same(t, "TilesOfWord("+strconv.Quote(s)+")", impl.TilesOfWord(s), want)
	}
}

// subRacksByMasks chooses tiles of a rack in every way.
func subRacksByMasks(rack string) []string {
	var all []string
	for mask := range 1 << len(rack) {
		chosen := ""
		for i := range len(rack) {
			if mask>>i&1 == 1 {
				chosen += rack[i : i+1]
			}
		}
		all = append(all, chosen)
	}
	slices.SortFunc(all, func(a, b string) int {
		if len(a) != len(b) {
			return len(a) - len(b)
		}
		return strings.Compare(a, b)
	})
	return slices.Compact(all)
}

func TestSubRacks(t *testing.T) {
	for rack, want := range map[string][]string{
		"":     {""},
		"?":    {"", "?"},
		"a":    {"", "a"},
		"aab":  {"", "a", "b", "aa", "ab", "aab"},
		"??":   {"", "?", "??"},
		"?a":   {"", "?", "a", "?a"},
		"?ab":  {"", "?", "a", "b", "?a", "?b", "ab", "?ab"},
		"??zz": {"", "?", "z", "??", "?z", "zz", "??z", "?zz", "??zz"},
	} {
		sameCodedList(t, "SubRacks("+rack+")", withCode(impl.SubRacks(rack)), want, impl.OK)
	}
	for _, rack := range somePiles() {
		if len(rack) > 7 {
			sameCodedList(t, "SubRacks("+rack+")", withCode(impl.SubRacks(rack)), nil, impl.ErrInvalid)
			continue
		}
		sameCodedList(t, "SubRacks("+rack+")", withCode(impl.SubRacks(rack)), subRacksByMasks(rack), impl.OK)
	}
	racks, code := impl.SubRacks("?abcdef")
	same(t, "most racks", len(racks), 128)
	same(t, "code of them", code, int64(impl.OK))
	sameCodedList(t, "SubRacks of 7 tiles", withCode(impl.SubRacks("tuvwxyz")), subRacksByMasks("tuvwxyz"), impl.OK)
	sameCodedList(t, "SubRacks of 8 tiles", withCode(impl.SubRacks("stuvwxyz")), nil, impl.ErrInvalid)
	sameCodedList(t, "SubRacks of 8 blanks", withCode(impl.SubRacks("????????")), nil, impl.ErrInvalid)
}

// TestSubRacksOfAll compares SubRacks for all racks of some kinds of tiles.
func TestSubRacksOfAll(t *testing.T) {
	full, _ := impl.SortTiles("???aaabbbz")
	for _, rack := range subRacksByMasks(full) {
		if len(rack) <= 7 {
			sameCodedList(t, "SubRacks("+rack+")", withCode(impl.SubRacks(rack)), subRacksByMasks(rack), impl.OK)
		}
	}
}

// waysByMasks makes some letters of a word capital, in every way, and keeps those whose tiles can be removed from the pile.
func waysByMasks(pile, word string) []string {
	var all []string
	for mask := range 1 << len(word) {
		placed, tiles := []byte(word), []byte(word)
		for i := range placed {
			if mask>>i&1 == 1 {
				placed[i] -= 'a' - 'A'
				tiles[i] = '?'
			}
		}
		if _, ok := takeOneByOne(pile, string(tiles)); ok {
			all = append(all, string(placed))
		}
	}
	slices.Sort(all)
	return all
}

func TestWaysToMake(t *testing.T) {
	for _, c := range []struct {
		pile, word string
		want       []string
	}{
		{"?ae", "aa", []string{"Aa", "aA"}}, {"?ae", "aae", []string{"Aae", "aAe"}}, {"?ae", "ae", []string{"Ae", "aE", "ae"}},
		{"?", "z", []string{"Z"}}, {"?", "zz", nil}, {"??", "zz", []string{"ZZ"}}, {"?a", "a", []string{"A", "a"}},
		{"??aa", "aa", []string{"AA", "Aa", "aA", "aa"}}, {"", "a", nil}, {"b", "a", nil}, {"a", "a", []string{"a"}},
		{"a", "aa", nil}, {"???", "abcd", nil}, {"???", "abc", []string{"ABC"}}, {"???b", "abc", []string{"ABC", "AbC"}},
		{"aest", "seat", []string{"seat"}}, {"aest", "seats", nil}, {"?aest", "seats", []string{"Seats", "seatS"}},
		{"?aest", "seatz", []string{"seatZ"}}, {"?aest", "zzeat", nil},
		{"abcdefghijkl", "lkjihgfedcba", []string{"lkjihgfedcba"}}, {"????????????", "lkjihgfedcba", []string{"LKJIHGFEDCBA"}},
		{"???????????", "lkjihgfedcba", nil}, {"???????????a", "lkjihgfedcba", []string{"LKJIHGFEDCBa"}},
	} {
		what := c.word + " with " + c.pile
		sameCodedList(t, "WaysToMake "+what, withCode(impl.WaysToMake(c.pile, c.word)), c.want, impl.OK)
		same(t, "CanMake "+what, impl.CanMake(c.pile, c.word), len(c.want) > 0)
	}
}

// TestWaysByMasks is the part of promise 3 on words: the ways are all placed words that are ways, and a word can be made if there is one.
func TestWaysByMasks(t *testing.T) {
	for _, pile := range somePiles() {
		for _, word := range someWords() {
			if len(word) > 7 && len(pile) > 20 {
				continue
			}
			what := word + " with " + pile
			want := waysByMasks(pile, word)
			sameCodedList(t, "WaysToMake "+what, withCode(impl.WaysToMake(pile, word)), want, impl.OK)
			same(t, "CanMake "+what, impl.CanMake(pile, word), len(want) > 0)
			for _, way := range want {
				same(t, "a way becomes the word", strings.ToLower(way), word)
				same(t, "the pile contains the tiles of "+way, impl.ContainsTiles(pile, impl.TilesOfWord(way)), true)
			}
		}
	}
}

// TestMostWays has every way to make letters capital.
func TestMostWays(t *testing.T) {
	pile := "????????????" + "abcdefghijkl"
	ways, code := impl.WaysToMake(pile, "abcdefghijkl")
	same(t, "code", code, int64(impl.OK))
	same(t, "number of ways", len(ways), 4096)
	same(t, "ways", slices.Equal(ways, waysByMasks(pile, "abcdefghijkl")), true)
	sameCodedList(t, "WaysToMake with 120 blanks", withCode(impl.WaysToMake(strings.Repeat("?", 120), "abcdefghijkl")), []string{"ABCDEFGHIJKL"}, impl.OK)
	sameCodedList(t, "WaysToMake with 121 blanks", withCode(impl.WaysToMake(strings.Repeat("?", 121), "abcdefghijkl")), nil, impl.ErrInvalid)
	sameCodedList(t, "WaysToMake with 120 letters", withCode(impl.WaysToMake(strings.Repeat("a", 120), "aaaaaaaaaaaa")), []string{"aaaaaaaaaaaa"}, impl.OK)
	sameCodedList(t, "WaysToMake of 13 letters", withCode(impl.WaysToMake(strings.Repeat("a", 120), "aaaaaaaaaaaaa")), nil, impl.ErrSyntax)
	same(t, "CanMake of 13 letters", impl.CanMake(strings.Repeat("a", 120), "aaaaaaaaaaaaa"), false)
}

// TestWaysOfNoWords gives strings that are no words, with piles and without.
func TestWaysOfNoWords(t *testing.T) {
	for _, word := range notWords() {
		for _, pile := range []string{"", "?", "????????????", "?aaestz", "?" + alphabet, strings.Repeat("?", 120)} {
			what := strconv.Quote(word) + " with " + pile
			sameCodedList(t, "WaysToMake "+what, withCode(impl.WaysToMake(pile, word)), nil, impl.ErrSyntax)
			same(t, "CanMake "+what, impl.CanMake(pile, word), false)
		}
		for _, bad := range []string{"ba", "A", strings.Repeat("a", 121)} {
			sameCodedList(t, "WaysToMake without a pile", withCode(impl.WaysToMake(bad, word)), nil, impl.ErrInvalid)
			same(t, "CanMake without a pile", impl.CanMake(bad, word), false)
		}
	}
}

func TestUnseenTiles(t *testing.T) {
	for seen, want := range map[string]string{
		"aest": "?aaeennrrst", "": "?aaaeeennrrsstt", "?": "aaaeeennrrsstt", "?aaaeeennrrsstt": "", "aaa": "?eeennrrsstt", "?tt": "aaaeeennrrss",
	} {
		sameCoded(t, "UnseenTiles("+seen+")", withCode(impl.UnseenTiles(smallSet(), seen)), want, impl.OK)
	}
	for _, seen := range []string{"??", "aaaa", "z", "?z", "?aaaaeeennrrsstt", "ttt", strings.Repeat("?", 120), "?aaaeeennrrssttz"} {
		sameCoded(t, "UnseenTiles("+seen+")", withCode(impl.UnseenTiles(smallSet(), seen)), "", impl.ErrNotFound)
	}
	sameCoded(t, "UnseenTiles of 121", withCode(impl.UnseenTiles(smallSet(), strings.Repeat("?", 121))), "", impl.ErrInvalid)
	for _, s := range validSets() {
		tiles, _ := impl.AllTiles(s)
		for _, seen := range somePiles() {
			rest, ok := takeOneByOne(tiles, seen)
			code := int64(impl.OK)
			if !ok {
				code = impl.ErrNotFound
			}
			sameCoded(t, "UnseenTiles("+seen+") of "+tiles, withCode(impl.UnseenTiles(s, seen)), rest, code)
		}
	}
	for _, s := range invalidSets() {
		for _, seen := range []string{"", "?", "a", "ab", "z", "ba", "A", strings.Repeat("a", 121)} {
			sameCoded(t, "UnseenTiles of an invalid set", withCode(impl.UnseenTiles(s, seen)), "", impl.ErrInvalid)
		}
	}
}

// TestPurityOfRacks is promise 1 for chapter 3: results are equal again and share no memory, and tile sets stay.
func TestPurityOfRacks(t *testing.T) {
	makers := map[string]func() []string{
		"SubRacks":   func() []string { racks, _ := impl.SubRacks("?aab"); return racks },
		"WaysToMake": func() []string { ways, _ := impl.WaysToMake("??aes", "seas"); return ways },
	}
	for name, build := range makers {
		first, second := build(), build()
		sameList(t, name+" again", first, second)
		kept := slices.Clone(second)
		spoil(first, "spoilt")
		sameList(t, name+" beside a spoilt one", second, kept)
		sameList(t, name+" after a spoilt one", build(), kept)
	}
	const mark = -77
	for _, s := range append(validSets(), invalidSets()...) {
		a := set(s.Letters, roomy(s.Values, mark), roomy(s.Counts, mark), s.Blanks)
		for _, seen := range []string{"", "a", "?", "zz", "ba"} {
			first := withCode(impl.UnseenTiles(a, seen))
			same(t, "UnseenTiles again", withCode(impl.UnseenTiles(a, seen)), first)
			same(t, "UnseenTiles of an equal set", withCode(impl.UnseenTiles(s, seen)), first)
		}
		sameList(t, "values of an argument", a.Values, s.Values)
		sameList(t, "counts of an argument", a.Counts, s.Counts)
		sameList(t, "unused capacity of values", a.Values[len(a.Values):len(a.Values)+3], times(3, mark))
		sameList(t, "unused capacity of counts", a.Counts[len(a.Counts):len(a.Counts)+3], times(3, mark))
	}
}

// TestRacksAgain calls every function twice with the same strings, whatever they are.
func TestRacksAgain(t *testing.T) {
	for _, s := range append(oddStrings(), somePiles()...) {
		same(t, "SortTiles", withCode(impl.SortTiles(s)), withCode(impl.SortTiles(s)))
		same(t, "AddTiles", withCode(impl.AddTiles(s, s)), withCode(impl.AddTiles(s, s)))
		same(t, "TakeTiles", withCode(impl.TakeTiles(s, s)), withCode(impl.TakeTiles(s, s)))
		same(t, "CommonTiles", withCode(impl.CommonTiles(s, s)), withCode(impl.CommonTiles(s, s)))
		same(t, "SubRacks", withCode(impl.SubRacks(s)), withCode(impl.SubRacks(s)))
		same(t, "WaysToMake", withCode(impl.WaysToMake(s, "aa")), withCode(impl.WaysToMake(s, "aa")))
		same(t, "WaysToMake", withCode(impl.WaysToMake("?a", s)), withCode(impl.WaysToMake("?a", s)))
		if impl.TilesOfWord(s) != impl.TilesOfWord(s) || impl.CanMake(s, s) != impl.CanMake(s, s) || impl.ContainsTiles(s, s) != impl.ValidPile(s) {
			t.Errorf("%q: two calls have different results", s)
		}
	}
}
