package tests

import (
	"math"
	"regexp"
	"slices"
	"strconv"
	"strings"
	"testing"

	"loop.example/g00911/impl"
)

const (
	smallText   = "a1x3 e1x3 n2x2 r2x2 s1x2 t2x2 ?x1"
	englishText = "a1x9 b3x2 c3x2 d2x4 e1x12 f4x2 g2x3 h4x2 i1x9 j8x1 k5x1 l1x4 m3x2 n1x6 o1x8 p3x2 q10x1 r1x6 s1x4 t1x6 u1x4 v4x2 w4x2 x8x1 y4x2 z10x1 ?x2"
	alphabet    = "abcdefghijklmnopqrstuvwxyz"
)

func smallSet() impl.TileSet {
	return set("aenrst", []int64{1, 1, 2, 2, 1, 2}, []int64{3, 3, 2, 2, 2, 2}, 1)
}

func englishSet() impl.TileSet {
	return set(alphabet,
		[]int64{1, 3, 3, 2, 1, 4, 2, 4, 1, 8, 5, 1, 3, 1, 1, 3, 10, 1, 1, 1, 1, 4, 4, 8, 4, 10},
		[]int64{9, 2, 2, 4, 12, 2, 3, 2, 9, 1, 1, 4, 2, 6, 8, 2, 1, 6, 4, 6, 4, 2, 2, 1, 2, 1}, 2)
}

// times returns a list of n equal numbers.
func times(n int, number int64) []int64 {
	return slices.Repeat([]int64{number}, n)
}

// validSets are tile sets that reach the limits, and others.
func validSets() []impl.TileSet {
	all := []impl.TileSet{
		smallSet(), englishSet(),
		set("x", []int64{8}, []int64{1}, 0),
		set("x", []int64{0}, []int64{1}, 1),
		set("wxy", []int64{4, 8, 4}, []int64{2, 1, 2}, 3),
		set("a", []int64{20}, []int64{20}, 4),
		set("z", []int64{10}, []int64{10}, 0),
		set("az", []int64{0, 20}, []int64{1, 20}, 4),
		set(alphabet, times(26, 20), append(times(25, 4), 16), 4),
		set(alphabet, times(26, 0), append(times(25, 4), 20), 0),
		set("abcdef", times(6, 20), times(6, 20), 0),
		set("abcdef", times(6, 1), append(times(5, 20), 16), 4),
	}
	next := numbers(1)
	for range 60 {
		s := set("", nil, nil, next(5))
		for _, c := range alphabet {
			if next(3) == 0 {
				s.Letters += string(c)
				s.Values = append(s.Values, next(21))
				s.Counts = append(s.Counts, 1+next(10))
			}
		}
		if s.Letters != "" && total(s) <= 120 {
			all = append(all, s)
		}
	}
	return all
}

func total(s impl.TileSet) int64 {
	n := s.Blanks
	for _, count := range s.Counts {
		n += count
	}
	return n
}

// invalidSets are tile sets each of which breaks one rule.
func invalidSets() []impl.TileSet {
	big := int64(1) << 62
	return []impl.TileSet{
		{},
		set("", nil, nil, 1),
		set("", []int64{}, []int64{}, 0),
		set("", []int64{1}, []int64{1}, 0),
		set("ba", []int64{1, 1}, []int64{1, 1}, 0),
		set("aa", []int64{1, 1}, []int64{1, 1}, 0),
		set("abb", []int64{1, 1, 1}, []int64{1, 1, 1}, 0),
		set("abcb", times(4, 1), times(4, 1), 0),
		set("acb", times(3, 1), times(3, 1), 0),
		set("A", []int64{1}, []int64{1}, 0),
		set("Aa", []int64{1, 1}, []int64{1, 1}, 0),
		set("?", []int64{1}, []int64{1}, 0),
		set("?a", []int64{0, 1}, []int64{1, 1}, 0),
		set("1", []int64{1}, []int64{1}, 0),
		set("a b", times(3, 1), times(3, 1), 0),
		set("`", []int64{1}, []int64{1}, 0),
		set("z{", []int64{1, 1}, []int64{1, 1}, 0),
		set("é", []int64{1}, []int64{1}, 0),
		set("é", []int64{1, 1}, []int64{1, 1}, 0),
		set("a\xff", []int64{1, 1}, []int64{1, 1}, 0),
		set("\x00", []int64{1}, []int64{1}, 0),
		set(alphabet+"z", times(27, 1), times(27, 1), 0),
		set("a"+alphabet, times(27, 1), times(27, 1), 0),
		set(alphabet+"{", times(27, 1), times(27, 1), 0),
		set("a", nil, []int64{1}, 0),
		set("a", []int64{1}, nil, 0),
		set("a", nil, nil, 0),
		set("ab", []int64{1}, []int64{1, 1}, 0),
		set("ab", []int64{1, 1}, []int64{1}, 0),
		set("ab", []int64{1, 1, 1}, []int64{1, 1}, 0),
		set("ab", []int64{1, 1}, []int64{1, 1, 1}, 0),
		set("ab", []int64{1, 1, 1}, []int64{1, 1, 1}, 0),
		set("a", []int64{-1}, []int64{1}, 0),
		set("a", []int64{21}, []int64{1}, 0),
		set("ab", []int64{1, 21}, []int64{1, 1}, 0),
		set("ab", []int64{-1, 1}, []int64{1, 1}, 0),
		set("a", []int64{math.MaxInt64}, []int64{1}, 0),
		set("a", []int64{math.MinInt64}, []int64{1}, 0),
		set("a", []int64{1}, []int64{0}, 0),
		set("a", []int64{1}, []int64{21}, 0),
		set("a", []int64{1}, []int64{-1}, 0),
		set("ab", []int64{1, 1}, []int64{0, 1}, 4),
		set("ab", []int64{1, 1}, []int64{1, 0}, 4),
		set("ab", []int64{1, 1}, []int64{21, 1}, 0),
		set("ab", []int64{1, 1}, []int64{1, 21}, 0),
		set("abcd", times(4, 1), times(4, big), 0),
		set("ab", times(2, 1), []int64{math.MaxInt64, math.MinInt64}, 2),
		set("a", []int64{1}, []int64{1}, -1),
		set("a", []int64{1}, []int64{1}, 5),
		set("a", []int64{1}, []int64{1}, math.MinInt64),
		set("a", []int64{1}, []int64{1}, math.MaxInt64),
		set("abcdef", times(6, 20), times(6, 20), 1),
		set("abcdef", times(6, 1), append(times(5, 20), 17), 4),
		set("abcdefg", times(7, 1), append(times(6, 20), 1), 0),
		set(alphabet, times(26, 20), append(times(25, 4), 17), 4),
		set(alphabet, times(26, 20), times(26, 20), 4),
	}
}

func TestLimitsOfTiles(t *testing.T) {
	same(t, "MaxValue", impl.MaxValue, 20)
	same(t, "MaxCount", impl.MaxCount, 20)
	same(t, "MaxBlanks", impl.MaxBlanks, 4)
	same(t, "MaxTiles", impl.MaxTiles, 120)
}

func TestValidTiles(t *testing.T) {
	for _, s := range validSets() {
		if !impl.ValidTiles(s) {
			t.Errorf("ValidTiles(%#v): got false", s)
		}
	}
	for _, s := range invalidSets() {
		if impl.ValidTiles(s) {
			t.Errorf("ValidTiles(%#v): got true", s)
		}
	}
}

// TestInvalidTiles gives tile sets that are not valid to every function that takes one.
func TestInvalidTiles(t *testing.T) {
	for _, s := range invalidSets() {
		for c := range 256 {
			same(t, "ValueOf", impl.ValueOf(s, byte(c)), int64(0))
			same(t, "CountOf", impl.CountOf(s, byte(c)), int64(0))
		}
		tiles, code := impl.AllTiles(s)
		same(t, "AllTiles", tiles, "")
		same(t, "code of AllTiles", code, int64(impl.ErrInvalid))
		value, code := impl.TotalValue(s)
		same(t, "TotalValue", value, int64(0))
		same(t, "code of TotalValue", code, int64(impl.ErrInvalid))
		for _, word := range []string{"", "a", "ab", "z", "abcd", "?", "\xff", "é"} {
			same(t, "LettersValue", impl.LettersValue(s, word), int64(0))
			same(t, "CoversWord", impl.CoversWord(s, word), false)
		}
		same(t, "TilesText", impl.TilesText(s), "")
	}
}

func TestSameTiles(t *testing.T) {
	all := append(validSets(), invalidSets()...)
	all = append(all,
		set("ab", []int64{1, 2}, []int64{3, 4}, 0), set("ab", []int64{3, 4}, []int64{1, 2}, 0),
		set("ab", []int64{2, 1}, []int64{3, 4}, 0), set("ab", []int64{1, 2}, []int64{4, 3}, 0),
		set("ab", []int64{1, 2}, []int64{3, 5}, 0), set("ab", []int64{0, 2}, []int64{3, 4}, 0),
		set("ac", []int64{1, 2}, []int64{3, 4}, 0), set("ab", []int64{1, 2}, []int64{3, 4}, 1),
		set("ab", []int64{1, 2, 3}, []int64{4}, 0), set("ab", []int64{1}, []int64{2, 3, 4}, 0),
		set("ab", []int64{1, 2, 0}, []int64{3, 4}, 0), set("ab", []int64{1, 2}, []int64{3, 4, 0}, 0),
		set("", nil, []int64{0}, 0), set("", []int64{0}, nil, 0), set("\xff", nil, nil, 0), set("\xfe", nil, nil, 0))
	for i, a := range all {
		copied := set(a.Letters, slices.Clone(a.Values), slices.Clone(a.Counts), a.Blanks)
		if !impl.SameTiles(a, copied) || !impl.SameTiles(copied, a) {
			t.Errorf("SameTiles: %#v differs from its copy", a)
		}
		for j, b := range all {
			equal := a.Letters == b.Letters && a.Blanks == b.Blanks && slices.Equal(a.Values, b.Values) && slices.Equal(a.Counts, b.Counts)
			if got := impl.SameTiles(a, b); got != equal || i == j && !got {
				t.Errorf("SameTiles(%#v, %#v): got %t", a, b, got)
			}
		}
	}
	same(t, "nil and empty", impl.SameTiles(impl.TileSet{}, set("", []int64{}, []int64{}, 0)), true)
	same(t, "nil and empty", impl.SameTiles(set("a", []int64{}, nil, 7), set("a", nil, []int64{}, 7)), true)
	same(t, "nil and one element", impl.SameTiles(set("a", nil, nil, 0), set("a", []int64{0}, nil, 0)), false)
}

func TestStandardNames(t *testing.T) {
	names := impl.StandardNames()
	sameList(t, "StandardNames", names, []string{"english", "small"})
	spoil(names, "spoilt")
	sameList(t, "StandardNames after a spoilt one", impl.StandardNames(), []string{"english", "small"})
}

// TestStandardTiles is promise 2: tile sets have the tiles that are told.
func TestStandardTiles(t *testing.T) {
	wanted := map[string]impl.TileSet{"small": smallSet(), "english": englishSet()}
	for _, name := range impl.StandardNames() {
		s, code := impl.StandardTiles(name)
		same(t, "code of "+name, code, int64(impl.OK))
		sameSet(t, name, s, wanted[name])
		same(t, name+" is valid", impl.ValidTiles(s), true)
		same(t, name+" is a name", impl.IsName(name), true)
	}
	for _, name := range append(oddStrings(), "none", "Small", "SMALL", "small ", " small", "smal", "smalls", "englis", "English",
		"english small", "small\n", "small\x00", smallText, englishText) {
		s, code := impl.StandardTiles(name)
		same(t, "code of "+strconv.Quote(name), code, int64(impl.ErrNotFound))
		sameSet(t, "tiles of "+strconv.Quote(name), s, impl.TileSet{})
	}
}

// TestStandardValues is promise 2 in numbers and texts.
func TestStandardValues(t *testing.T) {
	small, _ := impl.StandardTiles("small")
	english, _ := impl.StandardTiles("english")
	tiles, code := impl.AllTiles(small)
	same(t, "tiles of small", tiles, "?aaaeeennrrsstt")
	same(t, "code of them", code, int64(impl.OK))
	value, code := impl.TotalValue(small)
	same(t, "value of small", value, int64(20))
	same(t, "code of it", code, int64(impl.OK))
	tiles, _ = impl.AllTiles(english)
	same(t, "tiles of english", tiles, "??aaaaaaaaabbccddddeeeeeeeeeeeeffggghhiiiiiiiiijkllllmmnnnnnnooooooooppqrrrrrrssssttttttuuuuvvwwxyyz")
	value, _ = impl.TotalValue(english)
	same(t, "value of english", value, int64(187))
	same(t, "text of small", impl.TilesText(small), smallText)
	same(t, "text of english", impl.TilesText(english), englishText)
	same(t, "value of x", impl.ValueOf(english, 'x'), int64(8))
	same(t, "count of x", impl.CountOf(english, 'x'), int64(1))
	same(t, "blanks", impl.CountOf(english, '?'), int64(2))
	same(t, "value of quiz", impl.LettersValue(english, "quiz"), int64(22))
}

// TestEachTile holds ValueOf and CountOf against the fields, for every byte.
func TestEachTile(t *testing.T) {
	for _, s := range validSets() {
		for c := range 256 {
			var value, count int64
			for i := range len(s.Letters) {
				if s.Letters[i] == byte(c) {
					value, count = s.Values[i], s.Counts[i]
				}
			}
			if c == '?' {
				count = s.Blanks
			}
			if impl.ValueOf(s, byte(c)) != value || impl.CountOf(s, byte(c)) != count {
				t.Errorf("%#v: wrong value or count of the byte %d", s, c)
			}
		}
	}
}

func TestAllTiles(t *testing.T) {
	for _, s := range validSets() {
		want := strings.Repeat("?", int(s.Blanks))
		var sum int64
		for i, count := range s.Counts {
			for range count {
				want += s.Letters[i : i+1]
				sum += s.Values[i]
			}
		}
		tiles, code := impl.AllTiles(s)
		same(t, "AllTiles", tiles, want)
		same(t, "code of AllTiles", code, int64(impl.OK))
		same(t, "AllTiles in order", slices.IsSorted([]byte(tiles)), true)
		value, code := impl.TotalValue(s)
		same(t, "TotalValue", value, sum)
		same(t, "code of TotalValue", code, int64(impl.OK))
		same(t, "LettersValue of AllTiles", impl.LettersValue(s, tiles), sum)
	}
	tiles, _ := impl.AllTiles(set("abcdef", times(6, 20), times(6, 20), 0))
	same(t, "most tiles", len(tiles), 120)
	value, _ := impl.TotalValue(set("abcdef", times(6, 20), times(6, 20), 0))
	same(t, "greatest value", value, int64(2400))
}

func TestLettersValue(t *testing.T) {
	small, english := smallSet(), englishSet()
	for s, want := range map[string]int64{
		"": 0, "a": 1, "n": 2, "test": 6, "tEst": 5, "?": 0, "?a?": 1, "TEST": 0, "xyz": 0, "z": 0, "a b\n\x00\xffa": 2,
		"é": 0, "tttttttttttttt": 28, "stern-nest 1": 14,
	} {
		same(t, "LettersValue of "+strconv.Quote(s), impl.LettersValue(small, s), want)
	}
	same(t, "LettersValue of xyz", impl.LettersValue(english, "xyz"), int64(22))
	same(t, "LettersValue of a long string", impl.LettersValue(english, strings.Repeat("zebra ", 10000)), int64(160000))
	for _, s := range validSets() {
		for _, text := range oddStrings() {
			var sum int64
			for i := range len(text) {
				if k := strings.IndexByte(s.Letters, text[i]); k >= 0 {
					sum += s.Values[k]
				}
			}
			same(t, "LettersValue of "+strconv.Quote(text), impl.LettersValue(s, text), sum)
		}
	}
}

func TestCoversWord(t *testing.T) {
	one := set("ab", []int64{0, 1}, []int64{2, 1}, 0)
	four := set("a", []int64{1}, []int64{1}, 4)
	full := set("a", []int64{1}, []int64{20}, 0)
	for _, c := range []struct {
		s    impl.TileSet
		word string
		want bool
	}{
		{smallSet(), "tests", true}, {smallSet(), "tatt", true}, {smallSet(), "ttatt", false}, {smallSet(), "ttat", true},
		{smallSet(), "z", true}, {smallSet(), "zz", false}, {smallSet(), "zoo", false}, {smallSet(), "aaaeeennrrss", true},
		{smallSet(), "aaaaeeennrrs", true}, {smallSet(), "aaaaeeeennrr", false}, {smallSet(), "zaaaa", false},
		{one, "a", true}, {one, "aab", true}, {one, "aba", true}, {one, "abb", false}, {one, "aaa", false}, {one, "c", false},
		{four, "zzzz", true}, {four, "zzzzz", false}, {four, "azzzz", true}, {four, "aaaaa", true}, {four, "aaaaaa", false},
		{four, "zzazz", true}, {four, "zyxwa", true}, {four, "zyxwv", false},
		{full, "aaaaaaaaaaaa", true}, {full, "aaaaaaaaaaaaa", false}, {full, "", false}, {full, "A", false}, {full, "?", false},
		{four, "?", false}, {four, "a?", false}, {four, "", false}, {four, "aA", false}, {four, "a a", false}, {four, "a1", false},
		{four, "é", false}, {four, "a\xff", false}, {four, "a-a", false},
	} {
		same(t, "CoversWord "+strconv.Quote(c.word)+" with "+impl.TilesText(c.s), impl.CoversWord(c.s, c.word), c.want)
	}
}

// TestCoversWordByTaking takes the letters of a word from AllTiles, one after the other.
func TestCoversWordByTaking(t *testing.T) {
	words := []string{"a", "x", "z", "aa", "xx", "tests", "tttt", "xylem", "jazz", "pizzazz", "qqqq", "qqqqq", "aeaeaeaeaeae", "abcdefghijkl", "zzzzzzzzzzzz"}
	for _, s := range validSets() {
		for _, word := range words {
			tiles, _ := impl.AllTiles(s)
			covered := true
			for i := range len(word) {
				k := strings.IndexByte(tiles, word[i])
				if k < 0 {
					k = strings.IndexByte(tiles, '?')
				}
				if k < 0 {
					covered = false
					break
				}
				tiles = tiles[:k] + tiles[k+1:]
			}
			same(t, "CoversWord "+word+" with "+impl.TilesText(s), impl.CoversWord(s, word), covered)
		}
	}
}

// TestTilesTexts reads the texts of tile sets back.
func TestTilesTexts(t *testing.T) {
	for want, s := range map[string]impl.TileSet{
		smallText: smallSet(), englishText: englishSet(),
		"x8x1":            set("x", []int64{8}, []int64{1}, 0),
		"x0x1 ?x1":        set("x", []int64{0}, []int64{1}, 1),
		"w4x2 x8x1 y4x2":  set("wxy", []int64{4, 8, 4}, []int64{2, 1, 2}, 0),
		"x10x10 z20x20":   set("xz", []int64{10, 20}, []int64{10, 20}, 0),
		"a0x1 z20x20 ?x4": set("az", []int64{0, 20}, []int64{1, 20}, 4),
	} {
		same(t, "TilesText", impl.TilesText(s), want)
		read, ok := impl.ReadTiles(want)
		same(t, "ReadTiles("+want+")", ok, true)
		sameSet(t, "ReadTiles("+want+")", read, s)
	}
	for _, s := range validSets() {
		text := impl.TilesText(s)
		read, ok := impl.ReadTiles(text)
		if !ok || !impl.SameTiles(read, s) || impl.TilesText(read) != text {
			t.Errorf("ReadTiles(%q): got %#v and %t", text, read, ok)
		}
	}
}

func TestReadTilesLimits(t *testing.T) {
	full := "a20x20 b20x20 c20x20 d20x20 e20x20 "
	for text, want := range map[string]bool{
		"a20x20": true, "a21x20": false, "a20x21": false, "a0x1": true, "a1x0": false, "a-1x1": false, "a1x-1": false,
		"a1x1 ?x1": true, "a1x1 ?x4": true, "a1x1 ?x5": false, "a1x1 ?x0": false, "a1x9 ?x0": false, "a1x1 ?x-1": false,
		full + "f20x20": true, full + "f20x20 ?x1": false, full + "f20x20 g1x1": false, full + "f1x16 ?x4": true,
		full + "f1x17 ?x4": false, "a1x999999999999999999": false, "a999999999999999999x1": false,
		"a9223372036854775808x1": false, "a1x18446744073709551617": false, "a1x1 ?x18446744073709551617": false,
	} {
		s, ok := impl.ReadTiles(text)
		same(t, "ReadTiles("+text+")", ok, want)
		if !want {
			sameSet(t, "tiles of "+text, s, impl.TileSet{})
		}
	}
}

// TestReadTilesNearly gives texts that are nearly right to ReadTiles.
func TestReadTilesNearly(t *testing.T) {
	for _, text := range append(oddStrings(), "?x1", "?x4", "a", "a1", "a1x", "ax1", "ax", "1x1", "x1", "x8", "xx1", "xxx", "x8x", "xx8x1",
		"a1x1x", "a1xx1", "a1x1x1", "x8x1x1", "a1 x1", "a 1x1", "a1x 1", "a1x1 ", " a1x1", "a1x1\n", "a1x1  b1x1", "a1x1,b1x1", "a1x1b1x1",
		"a1x1\tb1x1", "a01x1", "a1x01", "a00x1", "a+1x1", "a1x+1", "a-0x1", "a1X1", "A1x1", "b1x1 a1x1", "a1x1 a1x1", "a1x1 a2x2",
		"?x1 a1x1", "a1x1 ?x1 b1x1", "a1x1 ?x1 ?x1", "a1x1 ?x1 ?x2", "a1x1 ?x2 ?x1", "a1x1 ?", "a1x1 ?x", "a1x1 ?1", "a1x1 ?0x1",
		"a1x1 ?1x1", "a1x1 ?x01", "a1x1 ?x1 ", "a1x1 ?x+1", "a1x1 ?xx1", "a1x1 ??x1", "é1x1", "a1x1 é1x1", "\xff1x1", "a1x1 {1x1", "`1x1",
		"a1x1 x", "aa1x1", "a1x1 b", "a1x1.0", "a0x1x0x1", strings.Repeat("a1x1 ", 5000)+"a1x1", strings.Repeat(" ", 5000)) {
		s, ok := impl.ReadTiles(text)
		same(t, "ReadTiles("+strconv.Quote(text)+")", ok, false)
		sameSet(t, "tiles of "+strconv.Quote(text), s, impl.TileSet{})
	}
}

// oddEdits returns the texts that differ from text in one place.
func oddEdits(text string) []string {
	var all []string
	for i := range len(text) + 1 {
		for _, c := range []byte("ax?z019 -+\n\xc3") {
			all = append(all, text[:i]+string([]byte{c})+text[i:])
			if i < len(text) {
				all = append(all, text[:i]+string([]byte{c})+text[i+1:])
			}
		}
		if i < len(text) {
			all = append(all, text[:i]+text[i+1:])
		}
		for _, n := range []int{2, 5} {
			if i+n <= len(text) {
				all = append(all, text[:i]+text[i+n:], text[:i]+text[i:i+n]+text[i:])
			}
		}
	}
	return all
}

// formed reads a text by a regular expression, and returns no set for one that is not of the form of texts.
func formed(text string) impl.TileSet {
	whole := regexp.MustCompile(`\A[a-z](0|[1-9][0-9]?)x[1-9][0-9]?( [a-z](0|[1-9][0-9]?)x[1-9][0-9]?)*( \?x[1-9])?\z`)
	part := regexp.MustCompile(`([a-z?])([0-9]*)x([0-9]+)( |\z)`)
	if !whole.MatchString(text) {
		return impl.TileSet{}
	}
	var s impl.TileSet
	for _, m := range part.FindAllStringSubmatch(text, -1) {
		value, _ := strconv.ParseInt(m[2], 10, 64)
		count, _ := strconv.ParseInt(m[3], 10, 64)
		if m[1] == "?" {
			s.Blanks = count
			continue
		}
		s.Letters += m[1]
		s.Values = append(s.Values, value)
		s.Counts = append(s.Counts, count)
	}
	return s
}

// TestReadTilesByForm holds ReadTiles against a reading by regular expressions, for texts with small mistakes.
func TestReadTilesByForm(t *testing.T) {
	right := 0
	for _, text := range []string{smallText, "x8x1", "w4x2 x8x1 y4x2", "a0x1 x10x10 z20x20 ?x4"} {
		for _, edit := range append(oddEdits(text), text) {
			want := formed(edit)
			valid := impl.ValidTiles(want)
			s, ok := impl.ReadTiles(edit)
			same(t, "ReadTiles("+strconv.Quote(edit)+")", ok, valid)
			if valid {
				right++
				sameSet(t, "tiles of "+edit, s, want)
				same(t, "TilesText", impl.TilesText(s), edit)
			} else {
				sameSet(t, "tiles of "+strconv.Quote(edit), s, impl.TileSet{})
			}
		}
	}
	if right < 50 {
		t.Errorf("only %d of the texts are right", right)
	}
}

// TestArgumentsStay is the part of promise 1 that no argument is modified, not even the unused capacity of a slice.
func TestArgumentsStay(t *testing.T) {
	const mark = -77
	for _, s := range append(validSets(), invalidSets()...) {
		a := set(s.Letters, roomy(s.Values, mark), roomy(s.Counts, mark), s.Blanks)
		for range 2 {
			impl.ValidTiles(a)
			impl.SameTiles(a, a)
			impl.ValueOf(a, 'a')
			impl.CountOf(a, '?')
			impl.AllTiles(a)
			impl.TotalValue(a)
			impl.LettersValue(a, "test")
			impl.CoversWord(a, "test")
			impl.TilesText(a)
		}
		for _, p := range [][2][]int64{{a.Values, s.Values}, {a.Counts, s.Counts}} {
			sameList(t, "slice of an argument", p[0], p[1])
			for _, n := range p[0][len(p[1]) : len(p[1])+3] {
				same(t, "unused capacity of an argument", n, int64(mark))
			}
		}
	}
}

// TestResultsAreNew is the part of promise 1 that results are equal again and share no memory.
func TestResultsAreNew(t *testing.T) {
	makers := map[string]func() impl.TileSet{
		"StandardTiles of small":   func() impl.TileSet { s, _ := impl.StandardTiles("small"); return s },
		"StandardTiles of english": func() impl.TileSet { s, _ := impl.StandardTiles("english"); return s },
		"ReadTiles":                func() impl.TileSet { s, _ := impl.ReadTiles(smallText); return s },
	}
	for name, build := range makers {
		first, second := build(), build()
		sameSet(t, name+" again", first, second)
		spoil(first.Values, 9)
		sameList(t, name+": Counts beside spoilt Values", first.Counts, second.Counts)
		spoil(first.Counts, 8)
		sameList(t, name+": Values beside spoilt Counts", first.Values, times(len(first.Values), 9))
		sameSet(t, name+" after a spoilt one", build(), second)
	}
}

// TestEqualAgain is the part of promise 1 that equal arguments have equal results.
func TestEqualAgain(t *testing.T) {
	for _, s := range append(validSets(), invalidSets()...) {
		copied := set(s.Letters, roomy(s.Values, 1), roomy(s.Counts, 1), s.Blanks)
		a, acode := impl.AllTiles(s)
		b, bcode := impl.AllTiles(copied)
		v, vcode := impl.TotalValue(s)
		w, wcode := impl.TotalValue(copied)
		if a != b || acode != bcode || v != w || vcode != wcode || impl.TilesText(s) != impl.TilesText(copied) ||
			impl.ValidTiles(s) != impl.ValidTiles(copied) || impl.CoversWord(s, "test") != impl.CoversWord(copied, "test") ||
			impl.LettersValue(s, "text") != impl.LettersValue(copied, "text") {
			t.Errorf("%#v: two calls have different results", s)
		}
	}
}
