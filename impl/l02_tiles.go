package impl

import (
	"slices"
	"strings"
)

// Limits of tile sets.
const (
	MaxValue  = 20
	MaxCount  = 20
	MaxBlanks = 4
	MaxTiles  = 120
)

// blankTile is the byte of a blank.
const blankTile = '?'

// The texts of the tile sets that are given.
const (
	englishTiles = "a1x9 b3x2 c3x2 d2x4 e1x12 f4x2 g2x3 h4x2 i1x9 j8x1 k5x1 l1x4 m3x2 " +
		"n1x6 o1x8 p3x2 q10x1 r1x6 s1x4 t1x6 u1x4 v4x2 w4x2 x8x1 y4x2 z10x1 ?x2"
	smallTiles = "a1x3 e1x3 n2x2 r2x2 s1x2 t2x2 ?x1"
)

// TileSet are the tiles of a game: letters with their values and numbers, and blanks.
type TileSet struct {
	Letters string
	Values  []int64
	Counts  []int64
	Blanks  int64
}

// plainTiles are the fields of a tile set that == can compare; slices it cannot.
type plainTiles struct {
	letters string
	blanks  int64
}

// ValidTiles reports whether t is valid.
func ValidTiles(t TileSet) bool {
	n := len(t.Letters)
	if !validLetters(t.Letters) || len(t.Values) != n || len(t.Counts) != n {
		return false
	}
	if t.Blanks < 0 || t.Blanks > MaxBlanks {
		return false
	}
	tiles := t.Blanks
	for i, count := range t.Counts {
		if count < 1 || count > MaxCount || t.Values[i] < 0 || t.Values[i] > MaxValue {
			return false
		}
		tiles += count
	}
	return tiles <= MaxTiles
}

// validLetters needs no limit of its own: no more than 26 small letters can be strictly increasing.
func validLetters(letters string) bool {
	last := rune(0)
	for _, r := range letters {
		if !isSmall(r) || r <= last {
			return false
		}
		last = r
	}
	return letters != ""
}

// SameTiles reports whether two tile sets are equal.
func SameTiles(a, b TileSet) bool {
	return plainOf(a) == plainOf(b) && slices.Equal(a.Values, b.Values) && slices.Equal(a.Counts, b.Counts)
}

func plainOf(t TileSet) plainTiles {
	return plainTiles{t.Letters, t.Blanks}
}

// StandardNames returns the names of the tile sets that are given.
func StandardNames() []string {
	return []string{"english", "small"}
}

// StandardTiles returns a tile set that is given.
func StandardTiles(name string) (TileSet, int64) {
	var text string
	switch name {
	case "english":
		text = englishTiles
	case "small":
		text = smallTiles
	default:
		return TileSet{}, ErrNotFound
	}
	t, _ := ReadTiles(text)
	return t, OK
}

// ValueOf returns the value of a letter.
func ValueOf(t TileSet, letter byte) int64 {
	if !ValidTiles(t) {
		return 0
	}
	return byLetter(t.Letters, t.Values)[letter]
}

// byLetter returns the number of each letter; both arguments have the same length.
func byLetter(letters string, numbers []int64) map[byte]int64 {
	m := make(map[byte]int64, len(letters))
	for i, number := range numbers {
		m[letters[i]] = number
	}
	return m
}

// CountOf returns how many tiles of a kind there are.
func CountOf(t TileSet, tile byte) int64 {
	if !ValidTiles(t) {
		return 0
	}
	if tile == blankTile {
		return t.Blanks
	}
	return byLetter(t.Letters, t.Counts)[tile]
}

// AllTiles returns all tiles.
func AllTiles(t TileSet) (string, int64) {
	if !ValidTiles(t) {
		return "", ErrInvalid
	}
	var b strings.Builder
	b.WriteString(strings.Repeat(string(blankTile), int(t.Blanks)))
	for i, count := range t.Counts {
		b.WriteString(strings.Repeat(t.Letters[i:i+1], int(count)))
	}
	return b.String(), OK
}

// TotalValue returns the value of all tiles.
func TotalValue(t TileSet) (int64, int64) {
	if !ValidTiles(t) {
		return 0, ErrInvalid
	}
	var sum int64
	for i, count := range t.Counts {
		sum += count * t.Values[i]
	}
	return sum, OK
}

// LettersValue returns the value of letters.
func LettersValue(t TileSet, s string) int64 {
	if !ValidTiles(t) {
		return 0
	}
	values := byLetter(t.Letters, t.Values)
	var sum int64
	for i := range len(s) {
		sum += values[s[i]]
	}
	return sum
}

// CoversWord reports whether the tiles are enough for a word.
func CoversWord(t TileSet, word string) bool {
	if !ValidTiles(t) || !IsWord(word) {
		return false
	}
	left := byLetter(t.Letters, t.Counts)
	blanks := t.Blanks
	for i := range len(word) {
		if left[word[i]] > 0 {
			left[word[i]]--
		} else {
			blanks--
		}
	}
	return blanks >= 0
}

// TilesText returns the text form of a tile set.
func TilesText(t TileSet) string {
	if !ValidTiles(t) {
		return ""
	}
	var parts []string
	for i, count := range t.Counts {
		parts = append(parts, t.Letters[i:i+1]+Decimal(t.Values[i])+"x"+Decimal(count))
	}
	if t.Blanks > 0 {
		parts = append(parts, string(blankTile)+"x"+Decimal(t.Blanks))
	}
	return strings.Join(parts, " ")
}

// ReadTiles returns the tile set with a text form.
func ReadTiles(s string) (TileSet, bool) {
	t := roughTiles(s)
	// Whatever is out of place in s, missing, or told twice shows in the text of what was read.
	if !ValidTiles(t) || TilesText(t) != s {
		return TileSet{}, false
	}
	return t, true
}

// roughTiles reads the parts of a text as if each of them were right.
func roughTiles(s string) TileSet {
	var t TileSet
	var letters []byte
	for _, part := range SplitWords(s) {
		// The letter may be an x as well, so the x between the numbers is looked for behind it.
		before, behind, _ := strings.Cut(part[1:], "x")
		value, _ := ReadDecimal(before)
		count, _ := ReadDecimal(behind)
		if part[0] == blankTile {
			t.Blanks = count
			continue
		}
		letters = append(letters, part[0])
		t.Values = append(t.Values, value)
		t.Counts = append(t.Counts, count)
	}
	t.Letters = string(letters)
	return t
}
