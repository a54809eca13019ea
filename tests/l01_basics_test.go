package tests

import (
	"math"
	"regexp"
	"strconv"
	"strings"
	"testing"

	"loop.example/g00911/impl"
)

func TestCodes(t *testing.T) {
	codes := []int64{impl.OK, impl.ErrInvalid, impl.ErrRange, impl.ErrNotFound, impl.ErrExists, impl.ErrFull,
		impl.ErrState, impl.ErrSyntax, impl.ErrFormat, impl.ErrIllegal, impl.ErrOver}
	names := strings.Fields("ok invalid range not-found exists full state syntax format illegal over")
	for i, code := range codes {
		same(t, "value of "+names[i], code, int64(i))
		same(t, "CodeName of "+names[i], impl.CodeName(code), names[i])
	}
	for _, code := range []int64{-1, 11, 12, 255, 256, 1 << 32, math.MinInt64, math.MinInt64 + 1, math.MaxInt64, -1 << 32} {
		same(t, "CodeName("+strconv.FormatInt(code, 10)+")", impl.CodeName(code), "")
	}
}

func TestLimitsOfBasics(t *testing.T) {
	same(t, "MaxName", impl.MaxName, 12)
	same(t, "MaxWord", impl.MaxWord, 12)
}

func TestIsName(t *testing.T) {
	for _, s := range []string{"a", "z", "club", "club-3", "a-", "a--b", "z0", "z9", "abcdefghijkl", "a-2-4-6-8-10"} {
		same(t, "IsName("+s+")", impl.IsName(s), true)
	}
	for _, s := range []string{"", "-", "-a", "3", "3-club", "0a", "9", "Club", "cLub", "club 3", " club", "club ", "club_3",
		"abcdefghijklm", "a-2-4-6-8-102", "é", "clüb", "a\n", "a\x00", "a\xff", "ab`", "ab{", "ab/", "ab:", "a.b", "a٣", "ａ"} {
		same(t, "IsName("+strconv.Quote(s)+")", impl.IsName(s), false)
	}
}

func TestIsWord(t *testing.T) {
	for _, s := range []string{"a", "z", "club", "aaa", "abcdefghijkl", "zzzzzzzzzzzz"} {
		same(t, "IsWord("+s+")", impl.IsWord(s), true)
	}
	for _, s := range []string{"", "club-3", "club3", "3", "-", "Club", "cluB", "?", "cl?b", "a b", " a", "a ", "abcdefghijklm",
		"é", "clüb", "a\n", "a\xff", "a`", "a{", "ａ", "a>b"} {
		same(t, "IsWord("+strconv.Quote(s)+")", impl.IsWord(s), false)
	}
}

// TestNamesAndWordsByPattern holds IsName and IsWord against regular expressions, for many strings.
func TestNamesAndWordsByPattern(t *testing.T) {
	name := regexp.MustCompile(`\A[a-z][a-z0-9-]{0,11}\z`)
	word := regexp.MustCompile(`\A[a-z]{1,12}\z`)
	all := oddStrings()
	for n := range 15 {
		for c := range 256 {
			s := []byte(strings.Repeat("m", n) + "n")
			s[n] = byte(c)
			all = append(all, string(s))
			s[n], s[0] = 'n', byte(c)
			all = append(all, string(s))
		}
	}
	for _, s := range all {
		same(t, "IsName("+strconv.Quote(s)+")", impl.IsName(s), name.MatchString(s))
		same(t, "IsWord("+strconv.Quote(s)+")", impl.IsWord(s), word.MatchString(s))
	}
}

func TestDecimal(t *testing.T) {
	for want, n := range map[string]int64{
		"0": 0, "1": 1, "-1": -1, "9": 9, "10": 10, "-10": -10, "100": 100, "-12": -12, "1000000007": 1000000007,
		"999999999999999999": 999999999999999999, "1000000000000000000": 1000000000000000000,
		"9223372036854775807": math.MaxInt64, "-9223372036854775807": -math.MaxInt64, "-9223372036854775808": math.MinInt64,
	} {
		same(t, "Decimal", impl.Decimal(n), want)
	}
}

func TestReadDecimal(t *testing.T) {
	for s, want := range map[string]int64{
		"0": 0, "7": 7, "-7": -7, "10": 10, "-12": -12, "100": 100, "-1000": -1000, "120345": 120345,
		"99999999999999999": 99999999999999999, "100000000000000000": 100000000000000000,
		"999999999999999999": 999999999999999999, "-999999999999999999": -999999999999999999,
		"-100000000000000000": -100000000000000000,
	} {
		n, ok := impl.ReadDecimal(s)
		same(t, "ReadDecimal("+s+")", n, want)
		same(t, "ReadDecimal("+s+")", ok, true)
	}
	for _, s := range []string{"", "-", "+", "+1", "--1", "-+1", "1-", "-0", "00", "01", "-01", "007", "0x1", "1e3", "1_000",
		"1.", ".1", "1.0", "1,000", " 1", "1 ", "1\n", "\n1", "1 2", "- 1", "a", "1a", "a1", "é", "٣", "１", "\xff", "1\x00",
		"1000000000000000000", "-1000000000000000000", "9223372036854775807", "-9223372036854775808",
		"9223372036854775808", "18446744073709551617", "0000000000000000001", "000000000000000001",
		"000000000000000000", "1" + strings.Repeat("0", 400), "-1" + strings.Repeat("0", 400), strings.Repeat("0", 400)} {
		n, ok := impl.ReadDecimal(s)
		same(t, "ReadDecimal("+strconv.Quote(s)+")", n, int64(0))
		same(t, "ReadDecimal("+strconv.Quote(s)+")", ok, false)
	}
}

// TestDecimalBothWays reads what Decimal writes, for numbers of any size.
func TestDecimalBothWays(t *testing.T) {
	numbers := []int64{0, math.MaxInt64, math.MinInt64}
	for ten, k := int64(1), 0; k < 19; k++ {
		for d := int64(-2); d <= 2; d++ {
			numbers = append(numbers, ten+d, -ten+d, ten*7+d, -ten*9+d)
		}
		ten *= 10
	}
	for _, n := range numbers {
		s := strconv.FormatInt(n, 10)
		same(t, "Decimal", impl.Decimal(n), s)
		read, ok := impl.ReadDecimal(s)
		small := -999999999999999999 <= n && n <= 999999999999999999
		same(t, "ReadDecimal("+s+")", ok, small)
		if small {
			same(t, "ReadDecimal("+s+")", read, n)
		} else {
			same(t, "ReadDecimal("+s+")", read, int64(0))
		}
	}
}

// TestReadDecimalByPattern tries all short strings of some bytes.
func TestReadDecimalByPattern(t *testing.T) {
	form := regexp.MustCompile(`\A(0|-?[1-9][0-9]{0,17})\z`)
	all := oddStrings()
	short := []string{""}
	for range 4 {
		var longer []string
		for _, s := range short {
			for _, c := range "0192+-_ x" {
				longer = append(longer, s+string(c))
			}
		}
		all = append(all, longer...)
		short = longer
	}
	for _, s := range all {
		n, ok := impl.ReadDecimal(s)
		same(t, "ReadDecimal("+strconv.Quote(s)+")", ok, form.MatchString(s))
		if ok && strconv.FormatInt(n, 10) != s || !ok && n != 0 {
			t.Errorf("ReadDecimal(%q): got %d", s, n)
		}
	}
}

func TestSplitWords(t *testing.T) {
	for _, c := range []struct {
		s    string
		want []string
	}{
		{"", nil},
		{" ", nil},
		{"    ", nil},
		{"a", []string{"a"}},
		{"play a1 ten", []string{"play", "a1", "ten"}},
		{"  play   a1 ", []string{"play", "a1"}},
		{"same same", []string{"same", "same"}},
		{"tab\tis none", []string{"tab\tis", "none"}},
		{"\n \r\n", []string{"\n", "\r\n"}},
		{"a\vb\fc d", []string{"a\vb\fc", "d"}},
		{"a\u00a0b a\u2003b a\u0085b a\u3000b", []string{"a\u00a0b", "a\u2003b", "a\u0085b", "a\u3000b"}},
		{"é ü", []string{"é", "ü"}},
		{"\xff \xc3 \xe2\x80", []string{"\xff", "\xc3", "\xe2\x80"}},
		{"\xc3 ", []string{"\xc3"}},
		{"\x00 \x1f\x21", []string{"\x00", "\x1f!"}},
	} {
		sameList(t, "SplitWords("+strconv.Quote(c.s)+")", impl.SplitWords(c.s), c.want)
	}
}

// TestSplitWordsByParts holds SplitWords against the parts between single blanks that are not empty.
func TestSplitWordsByParts(t *testing.T) {
	all := oddStrings()
	for _, s := range oddStrings() {
		all = append(all, s+" "+s, " "+s+"  b")
	}
	for _, s := range all {
		var want []string
		for _, part := range strings.Split(s, " ") {
			if part != "" {
				want = append(want, part)
			}
		}
		sameList(t, "SplitWords("+strconv.Quote(s)+")", impl.SplitWords(s), want)
	}
}

// TestPurityOfBasics is promise 1 for chapter 1: equal results, which share no memory.
func TestPurityOfBasics(t *testing.T) {
	first := impl.SplitWords("check ten tea")
	second := impl.SplitWords("check ten tea")
	spoil(first, "spoilt")
	sameList(t, "SplitWords beside a spoilt one", second, []string{"check", "ten", "tea"})
	sameList(t, "SplitWords after a spoilt one", impl.SplitWords("check ten tea"), []string{"check", "ten", "tea"})
	for _, s := range oddStrings() {
		a, aok := impl.ReadDecimal(s)
		b, bok := impl.ReadDecimal(s)
		if a != b || aok != bok || impl.IsName(s) != impl.IsName(s) || impl.IsWord(s) != impl.IsWord(s) {
			t.Errorf("%q: two calls have different results", s)
		}
		sameList(t, "SplitWords again", impl.SplitWords(s), impl.SplitWords(s))
	}
}
