package tests

import (
	"math"
	"regexp"
	"slices"
	"strconv"
	"strings"
	"testing"

	"loop.example/g00911/impl"
)

// right and down make plays in the two directions.
func right(row, col int64, word string) impl.Play {
	return impl.Play{Row: row, Col: col, Word: word}
}

func down(row, col int64, word string) impl.Play {
	return impl.Play{Row: row, Col: col, Down: true, Word: word}
}

// turnedPlay is TransposePlay.
func turnedPlay(p impl.Play) impl.Play {
	p.Row, p.Col, p.Down = p.Col, p.Row, !p.Down
	return p
}

// turnedBoard is TransposeBoard for a board that is valid.
func turnedBoard(b impl.Board) impl.Board {
	return impl.Board{Size: b.Size, Premium: strings.Join(columnsOf(b, b.Premium), ""), Cells: strings.Join(columnsOf(b, b.Cells), "")}
}

var (
	longPlaced = regexp.MustCompile(`\A[a-zA-Z]{2,12}\z`)
	letterRuns = regexp.MustCompile(`[a-zA-Z]{2,}`)
)

// effect is what a play does on a board; the zero effect is that of a play that is not valid there.
type effect struct {
	valid   bool
	squares []impl.Square
	tiles   string
	words   []string
	touches bool
	after   impl.Board
}

// effectOf finds the effect of a play on a valid board by the definitions: a play downwards is one to the right on the
// transposed board, and a play to the right is compared with its row.
func effectOf(b impl.Board, p impl.Play) effect {
	if p.Down {
		e := effectOf(turnedBoard(b), turnedPlay(p))
		for i, s := range e.squares {
			e.squares[i] = impl.Square{Row: s.Col, Col: s.Row}
		}
		if e.valid {
			e.after = turnedBoard(e.after)
		}
		return e
	}
	if !longPlaced.MatchString(p.Word) || p.Row < 0 || p.Row >= b.Size || p.Col < 0 || p.Col > b.Size-int64(len(p.Word)) {
		return effect{}
	}
	rows := rowsOf(b, b.Cells)
	row := rows[p.Row]
	first, end := int(p.Col), int(p.Col)+len(p.Word)
	framed := "." + row + "."
	if framed[first] != '.' || framed[end+1] != '.' {
		return effect{}
	}
	e := effect{words: []string{strings.ToLower(p.Word)}}
	var placed []string
	for i := first; i < end; i++ {
		letter := p.Word[i-first : i-first+1]
		switch row[i : i+1] {
		case ".":
			e.squares = append(e.squares, impl.Square{Row: p.Row, Col: int64(i)})
			placed = append(placed, letter)
		case letter:
		default:
			return effect{}
		}
	}
	if len(placed) == 0 {
		return effect{}
	}
	e.valid = true
	e.tiles = sorted(regexp.MustCompile(`[A-Z]`).ReplaceAllString(strings.Join(placed, ""), "?"))
	rows[p.Row] = row[:first] + p.Word + row[end:]
	e.after = impl.Board{Size: b.Size, Premium: b.Premium, Cells: strings.Join(rows, "")}
	e.addCrossWords()
	middle := int64(len(rows) / 2)
	if strings.Trim(b.Cells, ".") == "" {
		e.touches = slices.Contains(e.squares, impl.Square{Row: middle, Col: middle})
	} else {
		e.touches = len(e.squares) != len(p.Word) || len(e.words) != 1
	}
	return e
}

// addCrossWords adds the words in columns of the board afterwards that contain a new square of a play to the right.
func (e *effect) addCrossWords() {
	columns := columnsOf(e.after, e.after.Cells)
	for _, s := range e.squares {
		for _, run := range letterRuns.FindAllStringIndex(columns[s.Col], -1) {
			if run[0] <= int(s.Row) && int(s.Row) < run[1] {
				e.words = append(e.words, strings.ToLower(columns[s.Col][run[0]:run[1]]))
			}
		}
	}
}

// wrongOf returns the words that a lexicon does not have.
func wrongOf(l impl.Lexicon, words []string) []string {
	var wrong []string
	for _, word := range words {
		if !slices.Contains(l.Words, word) {
			wrong = append(wrong, word)
		}
	}
	return wrong
}

// faultOf is LegalPlay for a valid board, a valid lexicon and a rack.
func faultOf(b impl.Board, l impl.Lexicon, rack string, p impl.Play) int64 {
	e := effectOf(b, p)
	_, enough := takeOneByOne(rack, e.tiles)
	switch {
	case !e.valid:
		return impl.ErrRange
	case !enough:
		return impl.ErrNotFound
	case !e.touches:
		return impl.ErrState
	case p.Down && len(e.squares) == 1 && len(e.words) > 1:
		return impl.ErrExists
	case len(wrongOf(l, e.words)) > 0:
		return impl.ErrIllegal
	}
	return impl.OK
}

// toldPlay names a play on a board in an error.
func toldPlay(b impl.Board, p impl.Play) string {
	return strings.Join(rowsOf(b, b.Cells), "/") + " with " + toldPlayAlone(p)
}

func toldPlayAlone(p impl.Play) string {
	return strconv.FormatInt(p.Row, 10) + " " + strconv.FormatInt(p.Col, 10) + " " + strconv.FormatBool(p.Down) + " " + strconv.Quote(p.Word)
}

// sameEffect checks all functions that tell what a play does on a valid board, and returns whether it is valid there.
func sameEffect(t *testing.T, b impl.Board, p impl.Play, want effect) bool {
	t.Helper()
	what, code := toldPlay(b, p), int64(impl.OK)
	if !want.valid {
		code = impl.ErrInvalid
	}
	same(t, "ValidPlay on "+what, impl.ValidPlay(b, p), want.valid)
	sameCodedList(t, "NewSquares on "+what, withCode(impl.NewSquares(b, p)), want.squares, code)
	sameCoded(t, "PlacedTiles on "+what, withCode(impl.PlacedTiles(b, p)), want.tiles, code)
	sameCodedList(t, "WordsFormed on "+what, withCode(impl.WordsFormed(b, p)), want.words, code)
	same(t, "TouchesBoard on "+what, impl.TouchesBoard(b, p), want.touches)
	after, afterCode := impl.MakePlay(b, p)
	sameBoard(t, "MakePlay on "+what, after, afterCode, want.after, code)
	return want.valid
}

// sameWrong checks WrongWords on a valid board with a valid lexicon.
func sameWrong(t *testing.T, b impl.Board, l impl.Lexicon, p impl.Play, want effect) {
	t.Helper()
	code := int64(impl.OK)
	if !want.valid {
		code = impl.ErrInvalid
	}
	sameCodedList(t, "WrongWords on "+toldPlay(b, p), withCode(impl.WrongWords(b, l, p)), wrongOf(l, want.words), code)
}

// sameFault checks LegalPlay, and returns the code.
func sameFault(t *testing.T, b impl.Board, l impl.Lexicon, rack string, p impl.Play, want int64) int64 {
	t.Helper()
	same(t, "LegalPlay with "+strconv.Quote(rack)+" on "+toldPlay(b, p), impl.LegalPlay(b, l, rack, p), want)
	return want
}

// farNumbers are numbers that no row and no column has, and that may lead back to one by an overflow.
func farNumbers() []int64 {
	return []int64{-1, -2, -5, -15, -100, 15, 16, 100, 255, 256, 1 << 16, 1 << 31, 1 << 32, 1<<32 + 2, -1 << 32, 1 << 62, -1 << 62,
		math.MaxInt64, math.MaxInt64 - 1, math.MaxInt64 - 2, math.MaxInt64 - 12, math.MinInt64, math.MinInt64 + 1, math.MinInt64 + 2, math.MinInt64 + 12}
}

// TestPlaysByPlace has plays on boards without letters in the corners, on the edges, in the middle, and beyond.
func TestPlaysByPlace(t *testing.T) {
	free := bareBoard(5, strings.Repeat(".", 25))
	for _, c := range []struct {
		row, col int64
		word     string
		want     bool
	}{
		{0, 0, "ab", true}, {0, 0, "abcde", true}, {0, 0, "abcdef", false}, {0, 3, "ab", true}, {0, 3, "abc", false}, {0, 4, "ab", false},
		{4, 0, "ab", true}, {4, 0, "abcde", true}, {4, 3, "ab", true}, {4, 3, "abc", false}, {4, 4, "ab", false}, {2, 4, "ab", false},
		{2, 0, "abc", true}, {2, 1, "abc", true}, {2, 2, "abc", true}, {2, 3, "abc", false}, {1, 1, "Ab", true}, {3, 1, "AB", true},
		{2, 2, "", false}, {2, 2, "a", false}, {2, 2, "A", false}, {4, 4, "a", false}, {0, 0, "abcdefghijkl", false}, {0, 0, "abcdefghijklm", false},
		{-1, 0, "abc", false}, {0, -1, "abc", false}, {-1, 2, "ab", false}, {2, -1, "ab", false}, {-5, 0, "ab", false}, {0, -5, "ab", false}, {-1, -1, "abc", false},
		{5, 0, "ab", false}, {0, 5, "ab", false}, {5, 5, "ab", false}, {1, -1, "abcdef", false}, {0, -2, "abcdefg", false},
	} {
		same(t, "ValidPlay to the right "+toldPlayAlone(right(c.row, c.col, c.word)), impl.ValidPlay(free, right(c.row, c.col, c.word)), c.want)
		same(t, "ValidPlay downwards "+toldPlayAlone(down(c.col, c.row, c.word)), impl.ValidPlay(free, down(c.col, c.row, c.word)), c.want)
	}
	for _, far := range farNumbers() {
		for _, near := range append(farNumbers(), 0, 2, 4) {
			for _, word := range []string{"ab", "abcde", "abcdefghijkl"} {
				for _, p := range []impl.Play{right(far, near, word), right(near, far, word), down(far, near, word), down(near, far, word)} {
					sameEffect(t, free, p, effect{})
					sameEffect(t, bareBoard(15, strings.Repeat(".", 225)), p, effect{})
				}
			}
		}
	}
}

// TestPlaysOfLongWords has words of twelve letters and more on boards with more, as many, and fewer rows.
func TestPlaysOfLongWords(t *testing.T) {
	all := "abcdefghijklmnopq"
	for size := int64(5); size <= 15; size++ {
		free := bareBoard(int(size), strings.Repeat(".", int(size*size)))
		for n := range int64(len(all) + 1) {
			for first := range size + 1 {
				p := right(size/2, first, all[:n])
				want := n >= 2 && n <= 12 && first+n <= size
				same(t, "ValidPlay on the size "+strconv.FormatInt(size, 10)+" "+toldPlayAlone(p), impl.ValidPlay(free, p), want)
				same(t, "ValidPlay downwards on the size "+strconv.FormatInt(size, 10)+" "+toldPlayAlone(p), impl.ValidPlay(free, turnedPlay(p)), want)
				sameEffect(t, free, p, effectOf(free, p))
			}
		}
	}
	// A word of twelve letters is still valid if most of them lie there, and one of thirteen is not.
	row := func(cells string) impl.Board { return bareBoard(15, cells+strings.Repeat(".", 210)) }
	same(t, "a word of twelve letters", impl.ValidPlay(row("abcdefghijk...."), right(0, 0, "abcdefghijkl")), true)
	same(t, "a word of thirteen letters", impl.ValidPlay(row("abcdefghijkl..."), right(0, 0, "abcdefghijklm")), false)
	same(t, "twelve letters of more", impl.ValidPlay(row("abcdefghijk.m.."), right(0, 0, "abcdefghijkl")), false)
	same(t, "a very long word", impl.ValidPlay(row(strings.Repeat(".", 15)), right(0, 0, strings.Repeat("a", 100000))), false)
}

// TestPlaysOfNoWords has strings that are no placed words.
func TestPlaysOfNoWords(t *testing.T) {
	for _, b := range []impl.Board{bareBoard(5, strings.Repeat(".", 25)), bareBoard(15, strings.Repeat(".", 225)), cellsBoard("ab...", ".....", ".....", ".....", ".....")} {
		for _, word := range append(oddStrings(), "a.", ".a", "..", "a b", "ab ", " ab", "ab\n", "a?", "?a", "a-b", "a1", "`a", "{a", "@A", "[A", "a@", "a[", "K\u212a", "\u212aa", "ſt", "é", "éa", "ab.", "ab\x00", "\x00\x00") {
			if longPlaced.MatchString(word) {
				continue
			}
			for _, p := range []impl.Play{right(0, 0, word), right(2, 1, word), down(0, 0, word), down(1, 2, word), down(-1, 9, word)} {
				sameEffect(t, b, p, effect{})
			}
		}
	}
}

// TestPlaysOverLetters has plays over letters that lie there, in rows that are put in the first, the middle and the last place.
func TestPlaysOverLetters(t *testing.T) {
	for _, c := range []struct {
		row, word string
		col       int64
		want      bool
	}{
		{".tEn.", "tEns", 1, true}, {".tEn.", "atEn", 0, true}, {".tEn.", "atEns", 0, true}, {".tEn.", "tEn", 1, false}, {".tEn.", "tEnS", 1, true},
		{".tEn.", "tens", 1, false}, {".tEn.", "TEns", 1, false}, {".tEn.", "TENS", 1, false}, {".tEn.", "tEms", 1, false}, {".tEn.", "sEns", 1, false}, {".tEn.", "tAns", 1, false},
		{".tEn.", "ns", 3, false}, {".tEn.", "Ens", 2, false}, {".tEn.", "at", 0, false}, {".tEn.", "atE", 0, false}, {".tEn.", "En", 2, false}, {".tEn.", "tE", 1, false}, {".tEn.", "so", 4, false},
		{"t.n..", "ten", 0, true}, {"t.n..", "tEn", 0, true}, {"t.n..", "tens", 0, true}, {"t.n..", "te", 0, false}, {"t.n..", "en", 1, false}, {"t.n..", "tan", 0, true}, {"t.n..", "tam", 0, false}, {"t.n..", "no", 2, true},
		{"..n.t", "anet", 1, true}, {"..n.t", "net", 2, true}, {"..n.t", "et", 3, false}, {"..n.t", "nea", 2, false}, {"..n.t", "ane", 1, false}, {"..n.t", "nets", 2, false},
		{"a...b", "aocob", 0, true}, {"a...b", "oco", 1, false}, {"a...b", "ao", 0, true}, {"a...b", "oc", 1, false}, {"a...b", "co", 2, false}, {"a...b", "ob", 3, true}, {"a...b", "aoco", 0, false},
		{"a....", "abc", 1, false}, {"a....", "abc", 2, true}, {"....a", "abc", 0, true}, {"....a", "abc", 1, false}, {"....a", "abca", 1, true},
		{"abcde", "abcde", 0, false}, {"abcd.", "abcde", 0, true}, {".bcde", "abcde", 0, true}, {"ab.de", "abcde", 0, true}, {"ABCD.", "ABCDE", 0, true}, {"ABCD.", "abcde", 0, false}, {"abcd.", "ABCDE", 0, false},
		{".a.a.", "babab", 0, true}, {".a.a.", "aba", 1, true}, {".a.a.", "ab", 1, false}, {".a.a.", "ba", 2, false}, {".a.a.", "bA", 0, false},
	} {
		for row := range int64(5) {
			cells := strings.Repeat(".....", int(row)) + c.row + strings.Repeat(".....", int(4-row))
			b, p := bareBoard(5, cells), right(row, c.col, c.word)
			same(t, "ValidPlay on "+toldPlay(b, p), impl.ValidPlay(b, p), c.want)
			same(t, "ValidPlay downwards, turned from "+toldPlay(b, p), impl.ValidPlay(turnedBoard(b), turnedPlay(p)), c.want)
			sameEffect(t, b, p, effectOf(b, p))
		}
	}
	// Rows do not go on in the next one: what is at the end of one is neither before nor behind what is in another one.
	b := cellsBoard("....a", "...b.", ".....", "c....", "d....")
	for _, p := range []impl.Play{right(1, 0, "no"), right(2, 3, "no"), right(0, 0, "no"), down(1, 1, "no"), down(0, 1, "no"), down(3, 4, "no"), down(0, 0, "no")} {
		same(t, "ValidPlay on "+toldPlay(b, p), impl.ValidPlay(b, p), true)
	}
}

// square makes a square.
func square(row, col int64) impl.Square {
	return impl.Square{Row: row, Col: col}
}

// TestEffectsByHand has plays with all that they do.
func TestEffectsByHand(t *testing.T) {
	ten := []string{".....", ".....", ".tEn.", ".....", "....."}
	cross := []string{"..a..", "..b..", "ab.ba", "..C..", "..d.."}
	for _, c := range []struct {
		rows    []string
		play    impl.Play
		squares []impl.Square
		tiles   string
		words   string
		touches bool
		after   []string
	}{
		{ten, right(2, 1, "tEns"), []impl.Square{square(2, 4)}, "s", "tens", true, []string{".....", ".....", ".tEns", ".....", "....."}},
		{ten, right(2, 0, "AtEns"), []impl.Square{square(2, 0), square(2, 4)}, "?s", "atens", true, []string{".....", ".....", "AtEns", ".....", "....."}},
		{ten, down(1, 2, "sEa"), []impl.Square{square(1, 2), square(3, 2)}, "as", "sea", true, []string{".....", "..s..", ".tEn.", "..a..", "....."}},
		{ten, down(1, 2, "zEBra"), nil, "", "", false, nil},
		{ten, down(1, 2, "zEBr"), []impl.Square{square(1, 2), square(3, 2), square(4, 2)}, "?rz", "zebr", true, []string{".....", "..z..", ".tEn.", "..B..", "..r.."}},
		// No other word, one and several, at the first and at the last letter.
		{ten, right(0, 0, "abcde"), []impl.Square{square(0, 0), square(0, 1), square(0, 2), square(0, 3), square(0, 4)}, "abcde", "abcde", false, []string{"abcde", ".....", ".tEn.", ".....", "....."}},
		{ten, right(3, 0, "Sat"), []impl.Square{square(3, 0), square(3, 1), square(3, 2)}, "?at", "sat ta et", true, []string{".....", ".....", ".tEn.", "Sat..", "....."}},
		{ten, right(3, 1, "aT"), []impl.Square{square(3, 1), square(3, 2)}, "?a", "at ta et", true, []string{".....", ".....", ".tEn.", ".aT..", "....."}},
		{ten, right(3, 3, "at"), []impl.Square{square(3, 3), square(3, 4)}, "at", "at na", true, []string{".....", ".....", ".tEn.", "...at", "....."}},
		{ten, right(1, 0, "at"), []impl.Square{square(1, 0), square(1, 1)}, "at", "at tt", true, []string{".....", "at...", ".tEn.", ".....", "....."}},
		{ten, right(1, 0, "abcde"), []impl.Square{square(1, 0), square(1, 1), square(1, 2), square(1, 3), square(1, 4)}, "abcde", "abcde bt ce dn", true, []string{".....", "abcde", ".tEn.", ".....", "....."}},
		{ten, down(1, 0, "AbC"), []impl.Square{square(1, 0), square(2, 0), square(3, 0)}, "??b", "abc bten", true, []string{".....", "A....", "btEn.", "C....", "....."}},
		{ten, down(2, 4, "sO"), []impl.Square{square(2, 4), square(3, 4)}, "?s", "so tens", true, []string{".....", ".....", ".tEns", "....O", "....."}},
		{ten, down(1, 4, "so"), []impl.Square{square(1, 4), square(2, 4)}, "os", "so teno", true, []string{".....", "....s", ".tEno", ".....", "....."}},
		{ten, down(2, 1, "ta"), []impl.Square{square(3, 1)}, "a", "ta", true, []string{".....", ".....", ".tEn.", ".a...", "....."}},
		{ten, down(0, 3, "oNn"), []impl.Square{square(0, 3), square(1, 3)}, "?o", "onn", true, []string{"...o.", "...N.", ".tEn.", ".....", "....."}},
		// Through letters on both sides.
		{cross, right(2, 0, "abxba"), []impl.Square{square(2, 2)}, "x", "abxba abxcd", true, []string{"..a..", "..b..", "abxba", "..C..", "..d.."}},
		{cross, down(0, 2, "abXCd"), []impl.Square{square(2, 2)}, "?", "abxcd abxba", true, []string{"..a..", "..b..", "abXba", "..C..", "..d.."}},
		{cross, right(1, 0, "nobon"), []impl.Square{square(1, 0), square(1, 1), square(1, 3), square(1, 4)}, "nnoo", "nobon na ob ob na", true, []string{"..a..", "nobon", "ab.ba", "..C..", "..d.."}},
		{cross, right(3, 1, "oCo"), []impl.Square{square(3, 1), square(3, 3)}, "oo", "oco bo bo", true, []string{"..a..", "..b..", "ab.ba", ".oCo.", "..d.."}},
		{cross, right(3, 1, "oco"), nil, "", "", false, nil},
		{cross, down(1, 1, "oboe"), []impl.Square{square(1, 1), square(3, 1), square(4, 1)}, "eoo", "oboe ob oc ed", true, []string{"..a..", ".ob..", "ab.ba", ".oC..", ".ed.."}},
		// The side and the corner.
		{ten, right(4, 0, "abc"), []impl.Square{square(4, 0), square(4, 1), square(4, 2)}, "abc", "abc", false, []string{".....", ".....", ".tEn.", ".....", "abc.."}},
		{ten, down(3, 0, "ab"), []impl.Square{square(3, 0), square(4, 0)}, "ab", "ab", false, []string{".....", ".....", ".tEn.", "a....", "b...."}},
		{ten, down(0, 0, "ab"), []impl.Square{square(0, 0), square(1, 0)}, "ab", "ab", false, []string{"a....", "b....", ".tEn.", ".....", "....."}},
		{ten, down(3, 4, "AB"), []impl.Square{square(3, 4), square(4, 4)}, "??", "ab", false, []string{".....", ".....", ".tEn.", "....A", "....B"}},
		{ten, down(0, 4, "ab"), []impl.Square{square(0, 4), square(1, 4)}, "ab", "ab", false, []string{"....a", "....b", ".tEn.", ".....", "....."}},
		{ten, down(3, 2, "ab"), nil, "", "", false, nil},
		{ten, down(0, 2, "ab"), nil, "", "", false, nil},
		{ten, down(2, 0, "ab"), []impl.Square{square(2, 0), square(3, 0)}, "ab", "ab aten", true, []string{".....", ".....", "atEn.", "b....", "....."}},
	} {
		want := effect{valid: c.after != nil, squares: c.squares, tiles: c.tiles, words: strings.Fields(c.words), touches: c.touches}
		if want.valid {
			want.after = cellsBoard(c.after...)
		}
		b := cellsBoard(c.rows...)
		sameEffect(t, b, c.play, want)
		sameEffect(t, b, c.play, effectOf(b, c.play))
	}
}

// turned returns the effect of the transposed play on the transposed board.
func (e effect) turned() effect {
	squares := slices.Clone(e.squares)
	for i, s := range squares {
		squares[i] = square(s.Col, s.Row)
	}
	e.squares = squares
	if e.valid {
		e.after = turnedBoard(e.after)
	}
	return e
}

// TestVeryLongWordsAcross has words across the play that are longer than words of a lexicon.
func TestVeryLongWordsAcross(t *testing.T) {
	cells := ""
	for _, c := range "abcdefg.hijklmn" {
		cells += strings.Repeat(".", 7) + string(c) + strings.Repeat(".", 7)
	}
	b := bareBoard(15, cells)
	for _, p := range []impl.Play{right(7, 7, "Xy"), right(7, 6, "yX"), right(7, 1, "mnopqrXstuvw"), right(7, 3, "mnopXyz")} {
		words := []string{strings.ToLower(p.Word), "abcdefgxhijklmn"}
		sameCodedList(t, "WordsFormed on "+toldPlay(b, p), withCode(impl.WordsFormed(b, p)), words, impl.OK)
		sameCodedList(t, "WrongWords on "+toldPlay(b, p), withCode(impl.WrongWords(b, lexicon(words[0]), p)), words[1:], impl.OK)
		sameEffect(t, b, p, effectOf(b, p))
		sameEffect(t, turnedBoard(b), turnedPlay(p), effectOf(b, p).turned())
	}
	sameFault(t, b, lexicon("xy"), "?y", right(7, 7, "Xy"), impl.ErrIllegal)
	// One tile: it is the main word that may not have more than twelve letters.
	cells = strings.Repeat(".", 6*15+7) + "o" + strings.Repeat(".", 7) + "abcdefg.hijklmn" + strings.Repeat(".", 7*15)
	b = bareBoard(15, cells)
	sameFault(t, b, lexicon("ox"), "x", down(6, 7, "ox"), impl.ErrExists)
	sameFault(t, b, lexicon("ox"), "x", right(7, 0, "abcdefgxhijklmn"), impl.ErrRange)
}

// crowdedBoards are boards with few letters, with many, and with words that cross.
func crowdedBoards() []impl.Board {
	all := []impl.Board{
		cellsBoard(".....", ".....", ".tEn.", ".....", "....."), cellsBoard("..a..", "..b..", "ab.ba", "..C..", "..d.."), cellsBoard("a.b.c", ".d.e.", "f.g.h", ".i.j.", "k.l.m"),
		cellsBoard("aaaaa", "aaaaa", "aa.aa", "aaaaa", "aaaaa"), cellsBoard("abcde", "fghij", "klmno", "pqrst", "uvwxy"), cellsBoard("a....", ".....", ".....", ".....", "....Z"),
		cellsBoard(".....", ".....", ".....", ".....", "....."), cellsBoard("......", "......", "......", "......", "......", "......"),
		cellsBoard("ab.cd.", "......", "t.e.s.", "e...e.", "n.o.a.", "......"),
		boardOf("t.d.t", "23dt.", "....3", ".....", "....2", ".....", "..tEn", "...a.", ".....", "....."),
	}
	next := numbers(31)
	for _, size := range []int{5, 6, 7, 9} {
		for _, some := range []uint32{1, 2, 3, 5, 9, 20} {
			premiums := randomSquares(next, size, '.', 2, "23dt")
			all = append(all, impl.Board{Size: int64(size), Premium: premiums, Cells: randomSquares(next, size, '.', some, "abABzZ")})
		}
		all = append(all, bareBoard(size, randomSquares(next, size, 'e', 4, "....a")))
	}
	return append(all, bareBoard(15, randomSquares(next, 15, '.', 4, allLetters)), bareBoard(14, randomSquares(next, 14, '.', 9, allLetters)))
}

// lyingWord returns a word that fits what lies on a board from a square on, with other letters on free squares.
func lyingWord(next func(n uint32) int64, b impl.Board, row, col int64, isDown bool, n int64) string {
	word := ""
	for i := range n {
		cell := byte('.')
		if k := row + i; isDown && k >= 0 && k < b.Size && col >= 0 && col < b.Size {
			cell = b.Cells[k*b.Size+col]
		}
		if k := col + i; !isDown && k >= 0 && k < b.Size && row >= 0 && row < b.Size {
			cell = b.Cells[row*b.Size+k]
		}
		if cell == '.' {
			cell = "aebZE"[next(5)]
		}
		word += string([]byte{cell})
	}
	return word
}

// someCaseChanged returns a word in which one letter is capital instead of small, or small instead of capital.
func someCaseChanged(next func(n uint32) int64, word string) string {
	if word == "" {
		return word
	}
	letters := []byte(word)
	letters[next(uint32(len(word)))] ^= 'a' - 'A'
	return string(letters)
}

// someLetterChanged returns a word with another letter in one place.
func someLetterChanged(next func(n uint32) int64, word string) string {
	if word == "" {
		return word
	}
	letters := []byte(word)
	letters[next(uint32(len(word)))] = 'x'
	return string(letters)
}

// playsOn are plays from all squares of a board, and from some beside it, with words that fit what lies there or nearly do.
func playsOn(next func(n uint32) int64, b impl.Board) []impl.Play {
	var all []impl.Play
	for row := int64(-1); row <= b.Size; row++ {
		for col := int64(-1); col <= b.Size; col++ {
			for _, isDown := range []bool{false, true} {
				for n := int64(0); n <= min(b.Size+1, 13); n++ {
					if b.Size > 9 && next(12) != 0 {
						continue
					}
					word := lyingWord(next, b, row, col, isDown, n)
					all = append(all, impl.Play{Row: row, Col: col, Down: isDown, Word: word})
					switch next(4) {
					case 0:
						all = append(all, impl.Play{Row: row, Col: col, Down: isDown, Word: someCaseChanged(next, word)})
					case 1:
						all = append(all, impl.Play{Row: row, Col: col, Down: isDown, Word: someLetterChanged(next, word)})
					}
				}
			}
		}
	}
	return all
}

// TestEffects compares plays on many boards with the definitions, and with the transposed plays on the transposed boards.
func TestEffects(t *testing.T) {
	next := numbers(32)
	l := lexicon("aa", "ab", "aba", "ba", "bz", "za", "zz")
	valid, invalid, touching := 0, 0, 0
	for _, b := range crowdedBoards() {
		over := turnedBoard(b)
		for _, p := range playsOn(next, b) {
			want := effectOf(b, p)
			sameEffect(t, b, p, want)
			sameEffect(t, over, turnedPlay(p), want.turned())
			sameWrong(t, b, l, p, want)
			switch {
			case !want.valid:
				invalid++
			case want.touches:
				touching++
				fallthrough
			default:
				valid++
			}
		}
	}
	same(t, "there are plays of all kinds", valid > 3000 && invalid > 3000 && touching > 1500 && valid-touching > 500, true)
}

// TestFirstPlays has all first plays of one word on boards of all sizes.
func TestFirstPlays(t *testing.T) {
	for size := int64(5); size <= 15; size++ {
		standard, _ := impl.StandardBoard(size)
		middle := map[int64]int64{5: 2, 6: 3, 7: 3, 8: 4, 9: 4, 10: 5, 11: 5, 12: 6, 13: 6, 14: 7, 15: 7}[size]
		for _, word := range []string{"at", "tEn", "RATES"} {
			n := int64(len(word))
			for row := range size {
				for col := range size - n + 1 {
					want, code := false, int64(impl.ErrState)
					if row == middle && col <= middle && middle < col+n {
						want, code = true, impl.OK
					}
					for _, p := range []impl.Play{right(row, col, word), down(col, row, word)} {
						same(t, "TouchesBoard with "+toldPlay(standard, p), impl.TouchesBoard(standard, p), want)
						sameFault(t, standard, lexicon("at", "rates", "ten"), effectOf(standard, p).tiles, p, code)
					}
				}
			}
		}
	}
	for _, c := range []struct {
		rows []string
		play impl.Play
		want bool
	}{
		// The square in the middle is free, but not without letters on the board.
		{[]string{"a....", ".....", ".....", ".....", "....."}, right(2, 1, "ten"), false},
		{[]string{"a....", ".....", ".....", ".....", "....."}, down(1, 2, "ten"), false},
		{[]string{"a....", ".....", ".....", ".....", "....."}, right(0, 0, "at"), true},
		{[]string{".....", ".....", ".....", ".....", "....A"}, down(2, 4, "teA"), true},
		{[]string{".....", ".....", ".....", ".....", "....A"}, down(0, 4, "te"), false},
		{[]string{".....", ".....", "..a..", ".....", "....."}, right(2, 2, "at"), true},
		{[]string{".....", ".....", "..a..", ".....", "....."}, right(1, 2, "at"), true},
		{[]string{".....", ".....", "..a..", ".....", "....."}, right(1, 1, "at"), true},
		{[]string{".....", ".....", "..a..", ".....", "....."}, right(3, 0, "tea"), true},
		{[]string{".....", ".....", "..a..", ".....", "....."}, right(1, 3, "at"), false},
		{[]string{".....", ".....", "..a..", ".....", "....."}, right(1, 0, "at"), false},
		{[]string{".....", ".....", "..a..", ".....", "....."}, right(3, 3, "at"), false},
		{[]string{".....", ".....", "..a..", ".....", "....."}, down(0, 1, "at"), false},
		{[]string{".....", ".....", "..a..", ".....", "....."}, down(0, 1, "ate"), true},
		{[]string{".....", ".....", "..a..", ".....", "....."}, down(3, 1, "at"), false},
		{[]string{".....", ".....", "..a..", ".....", "....."}, down(2, 3, "at"), true},
	} {
		b := cellsBoard(c.rows...)
		same(t, "TouchesBoard with "+toldPlay(b, c.play), impl.TouchesBoard(b, c.play), c.want)
		same(t, "TouchesBoard turned from "+toldPlay(b, c.play), impl.TouchesBoard(turnedBoard(b), turnedPlay(c.play)), c.want)
	}
	// A play that is not valid touches nothing.
	b := cellsBoard(".....", ".....", "..a..", ".....", ".....")
	for _, p := range []impl.Play{right(2, 3, "at"), right(2, 2, "a"), right(2, 2, "At"), right(2, 2, "aten"), {}} {
		same(t, "TouchesBoard with "+toldPlay(b, p), impl.TouchesBoard(b, p), false)
	}
}

// TestLegalPlayByHand has one fault after the other.
func TestLegalPlayByHand(t *testing.T) {
	ten := cellsBoard(".....", ".....", ".tEn.", ".....", ".....")
	l := lexicon("ant", "at", "atens", "en", "et", "na", "nat", "sea", "ta", "tan", "ten", "tens")
	for _, c := range []struct {
		rack string
		play impl.Play
		want int64
	}{
		{"s", right(2, 1, "tEns"), impl.OK}, {"aens", right(2, 1, "tEns"), impl.OK}, {"?aensst", right(2, 1, "tEns"), impl.OK}, {"as", right(2, 0, "atEns"), impl.OK}, {"?s", right(2, 0, "AtEns"), impl.OK}, {"?a", right(2, 0, "atEnS"), impl.OK}, {"??", right(2, 0, "AtEnS"), impl.OK},
		{"as", down(1, 2, "sEa"), impl.OK}, {"at", right(3, 1, "at"), impl.OK}, {"?t", right(3, 1, "At"), impl.OK}, {"?a", right(3, 1, "aT"), impl.OK}, {"??", right(3, 1, "AT"), impl.OK},
		// The rack lacks a tile; has a blank in its place; needs a blank, and lacks it.
		{"", right(2, 1, "tEns"), impl.ErrNotFound}, {"ent", right(2, 1, "tEns"), impl.ErrNotFound}, {"?", right(2, 1, "tEns"), impl.ErrNotFound}, {"???????", right(2, 1, "tEns"), impl.ErrNotFound},
		{"s", right(2, 1, "tEnS"), impl.ErrNotFound}, {"sssssss", right(2, 1, "tEnS"), impl.ErrNotFound}, {"?", right(2, 1, "tEnS"), impl.OK}, {"?s", right(2, 1, "tEnS"), impl.OK},
		{"a", right(3, 1, "at"), impl.ErrNotFound}, {"t", right(3, 1, "at"), impl.ErrNotFound}, {"?a", right(3, 1, "at"), impl.ErrNotFound}, {"?t", right(3, 1, "at"), impl.ErrNotFound},
		{"at", right(3, 1, "aT"), impl.ErrNotFound}, {"?", right(3, 1, "AT"), impl.ErrNotFound}, {"?at", right(3, 1, "AT"), impl.ErrNotFound}, {"??at", right(3, 1, "AT"), impl.OK},
		{"ant", right(4, 1, "tat"), impl.ErrNotFound}, {"as", down(1, 2, "sea"), impl.ErrRange}, {"aes", down(1, 2, "sEa"), impl.OK}, {"ae", down(1, 2, "sEa"), impl.ErrNotFound},
		// The play touches nothing, or touches only by a corner.
		{"at", right(4, 1, "at"), impl.ErrState}, {"at", right(0, 0, "at"), impl.ErrState}, {"at", right(3, 3, "at"), impl.OK}, {"at", right(1, 0, "at"), impl.ErrIllegal}, {"ant", down(2, 0, "nat"), impl.ErrIllegal}, {"at", down(3, 0, "at"), impl.ErrState}, {"at", down(0, 4, "at"), impl.ErrState},
		// The words are wrong: the main one, another one, or both.
		{"az", right(3, 1, "az"), impl.ErrIllegal}, {"aty", right(2, 0, "ytEn"), impl.ErrIllegal}, {"ast", right(3, 0, "Sat"), impl.ErrNotFound}, {"?at", right(3, 0, "Sat"), impl.ErrIllegal}, {"e", down(2, 1, "te"), impl.ErrIllegal},
		// One tile, with and without a second word.
		{"a", down(2, 1, "ta"), impl.OK}, {"a", right(2, 0, "atEn"), impl.ErrIllegal}, {"a", down(2, 3, "na"), impl.OK}, {"?", down(2, 3, "nA"), impl.OK}, {"a", down(1, 1, "at"), impl.OK},
		// The play is not valid.
		{"ent", right(2, 1, "tEn"), impl.ErrRange}, {"?ent", right(2, 1, "ten"), impl.ErrRange}, {"at", right(2, 4, "at"), impl.ErrRange}, {"at", right(-1, 1, "at"), impl.ErrRange}, {"at", right(5, 1, "at"), impl.ErrRange}, {"ns", right(2, 3, "ns"), impl.ErrRange}, {"a", right(3, 1, "a"), impl.ErrRange}, {"", impl.Play{}, impl.ErrRange},
	} {
		sameFault(t, ten, l, c.rack, c.play, c.want)
		same(t, "the fault by definition with "+c.rack+" on "+toldPlay(ten, c.play), faultOf(ten, l, c.rack, c.play), c.want)
	}
	// More than a rack may have is never placed at once.
	wide := bareBoard(15, strings.Repeat(".", 225))
	sameFault(t, wide, lexicon("abcdefg"), "abcdefg", right(7, 1, "abcdefg"), impl.OK)
	sameFault(t, wide, lexicon("abcdefgh"), "abcdefg", right(7, 1, "abcdefgh"), impl.ErrNotFound)
	sameFault(t, wide, lexicon("abcdefgh"), "abcdefgh", right(7, 1, "abcdefgh"), impl.ErrInvalid)
	sameFault(t, bareBoard(15, strings.Repeat(".", 7*15)+"abc"+strings.Repeat(".", 8*15-3)), lexicon("abcdefghij"), "defghij", right(7, 0, "abcdefghij"), impl.OK)
	// Without words, nothing is legal, but other faults come first.
	sameFault(t, ten, lexicon(), "s", right(2, 1, "tEns"), impl.ErrIllegal)
	sameFault(t, ten, lexicon(), "s", right(4, 1, "ss"), impl.ErrNotFound)
	sameFault(t, ten, lexicon(), "ss", right(4, 1, "ss"), impl.ErrState)
}

// TestSingleTiles has plays of one tile: with words in both directions, the one downwards is the same play again.
func TestSingleTiles(t *testing.T) {
	corner := cellsBoard(".....", ".....", ".tEn.", "t....", ".....")
	l := lexicon("at", "et", "ta", "ten", "tens")
	sameFault(t, corner, l, "a", down(2, 1, "ta"), impl.ErrExists)
	sameFault(t, corner, l, "a", right(3, 0, "ta"), impl.OK)
	sameFault(t, corner, l, "?", down(2, 1, "tA"), impl.ErrExists)
	sameFault(t, corner, l, "?", right(3, 0, "tA"), impl.OK)
	// Also if words are wrong: the main one, the other one, or both.
	for _, words := range []string{"", "xy", "tx", "tt", "at"} {
		sameFault(t, corner, lexicon(strings.Fields(words)...), "a", down(2, 1, "ta"), impl.ErrExists)
		sameFault(t, corner, lexicon(strings.Fields(words)...), "a", right(3, 0, "ta"), impl.ErrIllegal)
	}
	// Two tiles downwards with a second word are another play than any to the right.
	sameFault(t, corner, lexicon("ta", "tat"), "at", down(2, 1, "tat"), impl.OK)
	sameFault(t, corner, lexicon("et", "ta", "tat"), "at", right(3, 0, "tat"), impl.OK)
	sameFault(t, corner, lexicon("ta", "tat"), "at", right(3, 0, "tat"), impl.ErrIllegal)
	// One tile to the right, and one downwards between letters, without a second word.
	sameFault(t, corner, l, "s", right(2, 1, "tEns"), impl.OK)
	gap := cellsBoard("..t..", ".....", "..n..", ".....", ".....")
	sameFault(t, gap, l, "e", down(0, 2, "ten"), impl.OK)
	sameFault(t, turnedBoard(gap), l, "e", right(2, 0, "ten"), impl.OK)
	sameFault(t, gap, l, "e", right(1, 2, "e"), impl.ErrRange)
	// One tile between letters in both directions.
	both := cellsBoard("..t..", ".t.n.", "..n..", ".....", ".....")
	sameFault(t, both, l, "e", down(0, 2, "ten"), impl.ErrExists)
	sameFault(t, both, l, "e", right(1, 1, "ten"), impl.OK)
	sameFault(t, both, lexicon("at"), "e", right(1, 1, "ten"), impl.ErrIllegal)
	// In a game, the play to the right of the same tile forms the same words and has no fault but theirs.
	next := numbers(33)
	found := 0
	for _, b := range crowdedBoards() {
		for _, p := range playsOn(next, b) {
			e := effectOf(b, p)
			if !p.Down || len(e.squares) != 1 || len(e.words) != 2 || len(e.words[1]) > 12 {
				continue
			}
			row, at := rowsOf(e.after, e.after.Cells)[e.squares[0].Row], int(e.squares[0].Col)
			run := letterRuns.FindAllStringIndex(row, -1)
			k := slices.IndexFunc(run, func(x []int) bool { return x[0] <= at && at < x[1] })
			q := right(e.squares[0].Row, int64(run[k][0]), row[run[k][0]:run[k][1]])
			same(t, "the same tile on "+toldPlay(b, q), withCode(impl.NewSquares(b, q)), withCode(impl.NewSquares(b, p)))
			same(t, "the same letter on "+toldPlay(b, q), withCode(impl.MakePlay(b, q)), withCode(impl.MakePlay(b, p)))
			sameCodedList(t, "the same words on "+toldPlay(b, q), withCode(impl.WordsFormed(b, q)), []string{e.words[1], e.words[0]}, impl.OK)
			for _, l := range []impl.Lexicon{lexicon(), lexicon(sortedOnce(e.words)...), lexicon(sortedOnce(e.words[:1])...), lexicon(sortedOnce(e.words[1:])...)} {
				if slices.ContainsFunc(l.Words, func(word string) bool { return len(word) > 12 }) {
					continue
				}
				sameFault(t, b, l, e.tiles, p, impl.ErrExists)
				sameFault(t, b, l, e.tiles, q, faultOf(b, l, e.tiles, q))
			}
			found++
		}
	}
	same(t, "there are such plays", found > 50, true)
}

// TestOrderOfFaults has plays with two or more faults at once: the first one in the order of the document is told.
func TestOrderOfFaults(t *testing.T) {
	ten := cellsBoard(".....", ".....", ".tEn.", "t....", ".....")
	noBoard := impl.Board{Size: 5, Premium: ten.Premium, Cells: ten.Cells[1:]}
	l, noLexicon := lexicon("at", "ta", "ten", "tens"), lexicon("ta", "at")
	plays := []struct {
		rack string
		play impl.Play
		want int64
	}{
		{"s", right(2, 1, "tEns"), impl.OK},
		{"s", right(2, 1, "tens"), impl.ErrRange},
		{"", right(2, 1, "tens"), impl.ErrRange},
		{"", right(4, 4, "xy"), impl.ErrRange},
		{"xy", right(4, 4, "xy"), impl.ErrRange},
		{"xy", right(-1, 0, "xy"), impl.ErrRange},
		{"", down(2, 1, "t"), impl.ErrRange},
		{"", right(0, 0, "xy"), impl.ErrNotFound},
		{"x", right(0, 0, "xy"), impl.ErrNotFound},
		{"x", right(0, 0, "at"), impl.ErrNotFound},
		{"x", right(3, 0, "tx"), impl.ErrIllegal},
		{"y", right(3, 0, "tx"), impl.ErrNotFound},
		{"y", down(2, 1, "tx"), impl.ErrNotFound},
		{"x", down(2, 1, "tx"), impl.ErrExists},
		{"x", down(2, 1, "ta"), impl.ErrNotFound},
		{"a", down(2, 1, "ta"), impl.ErrExists},
		{"xy", right(0, 0, "xy"), impl.ErrState},
		{"xy", down(0, 0, "xy"), impl.ErrState},
		{"at", right(0, 0, "at"), impl.ErrState},
	}
	for _, c := range plays {
		sameFault(t, ten, l, c.rack, c.play, c.want)
		same(t, "the fault by definition with "+c.rack+" on "+toldPlay(ten, c.play), faultOf(ten, l, c.rack, c.play), c.want)
		for _, bad := range []struct {
			board   impl.Board
			lexicon impl.Lexicon
			rack    string
		}{
			{noBoard, l, c.rack}, {ten, noLexicon, c.rack}, {ten, l, "xs"}, {ten, l, "S"}, {ten, l, "ssssssss"}, {ten, l, c.rack + "."},
			{noBoard, noLexicon, c.rack}, {noBoard, l, "xs"}, {ten, noLexicon, "xs"}, {noBoard, noLexicon, "xs"},
		} {
			same(t, "LegalPlay with something that is not valid and "+toldPlay(ten, c.play), impl.LegalPlay(bad.board, bad.lexicon, bad.rack, c.play), int64(impl.ErrInvalid))
		}
	}
	// A lexicon that is not valid is told also if the play is not valid; both have the same code.
	for _, p := range []impl.Play{right(2, 1, "tEns"), right(2, 1, "tens"), {}} {
		sameCodedList(t, "WrongWords without a lexicon", withCode(impl.WrongWords(ten, noLexicon, p)), nil, impl.ErrInvalid)
		sameCodedList(t, "WrongWords without a board", withCode(impl.WrongWords(noBoard, l, p)), nil, impl.ErrInvalid)
		sameCodedList(t, "WrongWords without both", withCode(impl.WrongWords(noBoard, noLexicon, p)), nil, impl.ErrInvalid)
	}
}

// TestWrongWordsByHand has words that are wrong several times, and in the order in which they are formed.
func TestWrongWordsByHand(t *testing.T) {
	b := cellsBoard(".....", ".....", "attta", ".....", ".....")
	for _, c := range []struct{ words, word, want string }{
		{"", "eeeee", "eeeee ae te te te ae"}, {"te", "eeeee", "eeeee ae ae"}, {"ae", "eeeee", "eeeee te te te"}, {"ae te", "eeeee", "eeeee"}, {"ae eeeee te", "eeeee", ""},
		{"eeeee", "eeeee", "ae te te te ae"}, {"ae eeeee", "eeeee", "te te te"}, {"aE", "eeeee", ""}, {"tz", "zEZea", "zezea az te te aa"}, {"aa az", "zEZea", "zezea te tz te"},
	} {
		l, p := lexicon(strings.Fields(c.words)...), right(3, 0, c.word)
		code := int64(impl.OK)
		if c.words == "aE" {
			code = impl.ErrInvalid
		}
		sameCodedList(t, "WrongWords of "+c.words+" with "+c.word, withCode(impl.WrongWords(b, l, p)), strings.Fields(c.want), code)
		sameCodedList(t, "WrongWords downwards", withCode(impl.WrongWords(turnedBoard(b), l, turnedPlay(p))), strings.Fields(c.want), code)
	}
}

// TestFaults compares the codes of plays with the definition, for racks with the tiles, with a tile less, and with others.
func TestFaults(t *testing.T) {
	next := numbers(34)
	met := map[int64]int{}
	lexicons := []impl.Lexicon{lexicon(), lexicon("aa", "ab", "aba", "ba", "bz", "za", "zz")}
	for i, b := range crowdedBoards() {
		// Many words of this lexicon are those that plays form on this board.
		var words []string
		for _, p := range playsOn(next, b) {
			if e := effectOf(b, p); e.touches && len(words) < 60 && !slices.ContainsFunc(e.words, func(word string) bool { return len(word) > 12 }) {
				words = append(words, e.words...)
			}
		}
		own := lexicon(sortedOnce(words)...)
		same(t, "the lexicon of board "+strconv.Itoa(i)+" is valid", impl.ValidLexicon(own), true)
		for _, p := range playsOn(next, b) {
			tiles := effectOf(b, p).tiles
			if len(tiles) > 7 {
				tiles = tiles[:7]
			}
			racks := []string{tiles, sorted((tiles + "?ab")[:min(7, len(tiles)+3)]), "?aabeez", ""}
			if tiles != "" {
				racks = append(racks, tiles[1:], sorted("?"+tiles[1:]), sorted(tiles[:len(tiles)-1]+"z"))
			}
			for _, rack := range racks {
				l := append(lexicons, own)[next(3)]
				met[sameFault(t, b, l, rack, p, faultOf(b, l, rack, p))]++
			}
		}
	}
	for _, code := range []int64{impl.OK, impl.ErrRange, impl.ErrNotFound, impl.ErrState, impl.ErrExists, impl.ErrIllegal} {
		same(t, "the code "+strconv.FormatInt(code, 10)+" is met often", met[code] > 50, true)
	}
}

// TestLegalGames is promise 12: after legal plays, all words on the board are of the lexicon, and its letters are joined.
func TestLegalGames(t *testing.T) {
	next := numbers(35)
	words := gameWords()
	l := lexicon(words...)
	met := map[int64]int{}
	for _, size := range []int64{5, 6, 7, 8, 11, 15} {
		for range 4 {
			b, _ := impl.StandardBoard(size)
			for range 3000 {
				word := []byte(words[next(uint32(len(words)))])
				p := impl.Play{Row: next(uint32(size)), Col: next(uint32(size)), Down: next(2) == 0}
				fitted := lyingWord(next, b, p.Row, p.Col, p.Down, int64(len(word)))
				for i := range word {
					if strings.EqualFold(string(word[i]), fitted[i:i+1]) {
						word[i] = fitted[i]
					} else if next(9) == 0 {
						word[i] -= 'a' - 'A'
					}
				}
				p.Word = string(word)
				rack := effectOf(b, p).tiles
				if len(rack) < 7 && next(2) == 0 {
					rack = sorted(rack + "?aenrst"[next(7):][:1])
				}
				code := sameFault(t, b, l, rack, p, faultOf(b, l, rack, p))
				met[code]++
				after, made := impl.MakePlay(b, p)
				if code == impl.ErrRange {
					sameBoard(t, "MakePlay of what is not valid", after, made, impl.Board{}, impl.ErrInvalid)
					continue
				}
				on, _ := impl.WordsOn(after)
				allRight := len(wrongOf(l, on)) == 0
				if code == impl.OK || code == impl.ErrIllegal {
					same(t, "the words on the board after "+toldPlay(b, p), allRight, code == impl.OK)
					same(t, "the letters are joined after "+toldPlay(b, p), isJoined(after), true)
				}
				if code == impl.ErrState && !impl.IsBlank(b) {
					same(t, "the letters are not joined after "+toldPlay(b, p), isJoined(after), false)
				}
				if code == impl.OK {
					all, _ := impl.TilesOn(b)
					placed, _ := impl.PlacedTiles(b, p)
					now, _ := impl.TilesOn(after)
					same(t, "the tiles on the board", now, sorted(all+placed))
					b = after
				}
			}
		}
	}
	for code, least := range map[int64]int{impl.OK: 100, impl.ErrRange: 100, impl.ErrState: 100, impl.ErrExists: 10, impl.ErrIllegal: 100} {
		same(t, "the code "+strconv.FormatInt(code, 10)+" is met often", met[code] >= least, true)
	}
}

// oddPlays are plays that are nearly, or not at all, valid on a board, and that no text need have.
func oddPlays() []impl.Play {
	all := []impl.Play{{}, {Down: true}, {Word: "ab"}, {Word: "ab", Down: true}, {Row: 14, Col: 14, Word: "ab"}, {Row: 15, Word: "ab"}, {Col: 15, Word: "ab"}, {Row: 1, Col: 2, Word: "aB"}}
	for i, far := range farNumbers() {
		word := []string{"ab", "", "a", "TEN", "abcdefghijklm", "a b"}[i%6]
		all = append(all, right(far, 0, word), right(0, far, word), down(far, 1, word), down(1, far, word), down(far, far, word), right(far, -far, word))
	}
	for _, word := range append(oddStrings(), notWords()...) {
		all = append(all, right(1, 2, word), down(3, 0, word))
	}
	return all
}

func TestTransposePlay(t *testing.T) {
	same(t, "TransposePlay to the right", impl.TransposePlay(right(3, 1, "aT")), down(1, 3, "aT"))
	same(t, "TransposePlay downwards", impl.TransposePlay(down(3, 1, "aT")), right(1, 3, "aT"))
	same(t, "TransposePlay in place", impl.TransposePlay(right(2, 2, "at")), down(2, 2, "at"))
	same(t, "TransposePlay of nothing", impl.TransposePlay(impl.Play{}), impl.Play{Down: true})
	for _, p := range oddPlays() {
		over := impl.TransposePlay(p)
		same(t, "TransposePlay of "+toldPlayAlone(p), over, impl.Play{Row: p.Col, Col: p.Row, Down: !p.Down, Word: p.Word})
		same(t, "TransposePlay twice of "+toldPlayAlone(p), impl.TransposePlay(over), p)
	}
}

// TestComparePlays has plays in strictly increasing order: by direction, then row, then column, then word.
func TestComparePlays(t *testing.T) {
	var all []impl.Play
	for _, isDown := range []bool{false, true} {
		for _, row := range []int64{math.MinInt64, -1 << 32, -1, 0, 1, 2, 3, 15, 1 << 32, math.MaxInt64} {
			for _, col := range []int64{math.MinInt64, -1, 0, 1, 14, 1<<32 + 1, math.MaxInt64} {
				for _, word := range []string{"", "A", "AB", "Aa", "Z", "a", "a\x00", "aB", "ab", "abc", "ac", "b", "é"} {
					all = append(all, impl.Play{Row: row, Col: col, Down: isDown, Word: word})
				}
			}
		}
	}
	for i, a := range all {
		for k, b := range all {
			want := int64(0)
			if i < k {
				want = -1
			}
			if i > k {
				want = 1
			}
			if got := impl.ComparePlays(a, b); got != want {
				t.Fatalf("ComparePlays of %s and %s: got %v, want %v", toldPlayAlone(a), toldPlayAlone(b), got, want)
			}
		}
	}
	for _, c := range []struct {
		a, b impl.Play
		want int64
	}{
		{right(9, 9, "zz"), down(0, 0, "aa"), -1}, {down(0, 0, "aa"), right(9, 9, "zz"), 1}, {right(1, 9, "zz"), right(2, 0, "aa"), -1}, {down(2, 0, "aa"), down(1, 9, "zz"), 1},
		{right(3, 1, "zz"), right(3, 2, "aa"), -1}, {right(3, 2, "aa"), right(3, 1, "zz"), 1}, {down(3, 1, "Ten"), down(3, 1, "ten"), -1}, {down(3, 1, "ten"), down(3, 1, "te"), 1}, {down(3, 1, "te"), down(3, 1, "te"), 0},
		{right(9, 10, "ab"), right(10, 9, "ab"), -1}, {right(2, 10, "ab"), right(2, 9, "ab"), 1}, {impl.Play{}, impl.Play{}, 0}, {impl.Play{Down: true}, impl.Play{Down: true}, 0},
	} {
		same(t, "ComparePlays of "+toldPlayAlone(c.a)+" and "+toldPlayAlone(c.b), impl.ComparePlays(c.a, c.b), c.want)
	}
}

func TestPlayTextByHand(t *testing.T) {
	for _, c := range []struct {
		play impl.Play
		want string
	}{
		{right(3, 2, "ten"), "4c ten"}, {down(3, 2, "ten"), "c4 ten"}, {right(0, 0, "ab"), "1a ab"}, {down(0, 0, "ab"), "a1 ab"}, {right(9, 0, "aB"), "10a aB"}, {down(9, 0, "aB"), "a10 aB"},
		{right(14, 14, "AB"), "15o AB"}, {down(14, 14, "AB"), "o15 AB"}, {right(0, 14, "abcdefghijkl"), "1o abcdefghijkl"}, {down(0, 14, "ABCDEFGHIJKL"), "o1 ABCDEFGHIJKL"}, {right(14, 0, "Zz"), "15a Zz"}, {down(14, 0, "Zz"), "a15 Zz"},
		{right(15, 0, "ab"), ""}, {right(0, 15, "ab"), ""}, {down(15, 0, "ab"), ""}, {down(0, 15, "ab"), ""}, {right(-1, 0, "ab"), ""}, {right(0, -1, "ab"), ""}, {down(-1, 0, "ab"), ""}, {down(0, -1, "ab"), ""},
		{right(3, 2, ""), ""}, {right(3, 2, "a"), ""}, {right(3, 2, "A"), ""}, {right(3, 2, "abcdefghijklm"), ""}, {right(3, 2, "a b"), ""}, {right(3, 2, "a?"), ""}, {right(3, 2, "a."), ""}, {right(3, 2, "K\u212a"), ""}, {down(3, 2, "t"), ""},
		{impl.Play{}, ""}, {impl.Play{Down: true}, ""}, {right(3, 25, "ten"), ""}, {right(3, 26, "ten"), ""},
	} {
		same(t, "PlayText of "+toldPlayAlone(c.play), impl.PlayText(c.play), c.want)
		if c.want != "" {
			p, ok := impl.ReadPlay(c.want)
			same(t, "ReadPlay of "+c.want, p, c.play)
			same(t, "ReadPlay of "+c.want, ok, true)
		}
	}
}

// playPattern matches the texts of plays.
var playPattern = regexp.MustCompile(`\A(?:([1-9]|1[0-5])([a-o])|([a-o])([1-9]|1[0-5])) ([a-zA-Z]{2,12})\z`)

// playByPattern reads the text of a play by a regular expression; false if it is none.
func playByPattern(s string) (impl.Play, bool) {
	m := playPattern.FindStringSubmatch(s)
	if m == nil {
		return impl.Play{}, false
	}
	row, _ := strconv.ParseInt(m[1]+m[4], 10, 64)
	col := strings.Index(alphabet, m[2]+m[3])
	return impl.Play{Row: row - 1, Col: int64(col), Down: m[3] != "", Word: m[5]}, true
}

// sameReadPlay checks ReadPlay of a string, be it a text or not, and returns whether it is one.
func sameReadPlay(t *testing.T, s string) bool {
	t.Helper()
	want, wantOK := playByPattern(s)
	got, ok := impl.ReadPlay(s)
	if got != want || ok != wantOK {
		t.Errorf("ReadPlay of %q: got %#v and %v, want %#v and %v", s, got, ok, want, wantOK)
	}
	if ok {
		same(t, "PlayText of what was read", impl.PlayText(got), s)
	}
	return ok
}

// TestPlayTexts writes plays from all squares, and from others, and reads them back.
func TestPlayTexts(t *testing.T) {
	columns := "abcdefghijklmno"
	for row := int64(-3); row < 20; row++ {
		for col := int64(-3); col < 30; col++ {
			for _, word := range []string{"ab", "tEn", "ABCDEFGHIJKL", "x", ""} {
				wantRight, wantDown := "", ""
				if row >= 0 && row < 15 && col >= 0 && col < 15 && len(word) > 1 {
					number := strconv.FormatInt(row+1, 10)
					wantRight, wantDown = number+columns[col:col+1]+" "+word, columns[col:col+1]+number+" "+word
					sameReadPlay(t, wantRight)
					sameReadPlay(t, wantDown)
				}
				same(t, "PlayText to the right "+toldPlayAlone(right(row, col, word)), impl.PlayText(right(row, col, word)), wantRight)
				same(t, "PlayText downwards "+toldPlayAlone(down(row, col, word)), impl.PlayText(down(row, col, word)), wantDown)
			}
		}
	}
	for _, p := range oddPlays() {
		s, want := impl.PlayText(p), p.Row >= 0 && p.Row < 15 && p.Col >= 0 && p.Col < 15 && longPlaced.MatchString(p.Word)
		same(t, "PlayText of "+toldPlayAlone(p)+" is there", s != "", want)
		if want {
			read, _ := impl.ReadPlay(s)
			same(t, "ReadPlay of "+s, read, p)
		}
	}
}

// TestReadPlayErrors has strings that are nearly texts of plays.
func TestReadPlayErrors(t *testing.T) {
	for _, s := range append([]string{
		"", " ", "4c", "c4", "4c ", "c4 ", " ten", "ten", "4", "c", "4 ten", "c ten", "44 ten", "cc ten", "4c4 ten", "c4c ten", "4cc ten", "cc4 ten", "44c44 ten", "4c4c ten", "-4c ten", "c-4 ten", "+4c ten", "c+4 ten", "4+c ten", "4-c ten", "4.c ten", "4,c ten",
		"04c ten", "c04 ten", "004c ten", "010c ten", "c010 ten", "0c ten", "c0 ten", "00c ten", "16c ten", "c16 ten", "15p ten", "p15 ten", "1p ten", "p1 ten", "4z ten", "z4 ten", "4C ten", "C4 ten", "1A ten", "A1 ten", "1O ten", "20a ten", "a20 ten", "100a ten", "-1a ten", "-0a ten", "a-0 ten",
		"4cten", "c4ten", "4c  ten", "c4  ten", " 4c ten", " c4 ten", "4c ten ", "c4 ten ", "4 c ten", "c 4 ten", "4c\tten", "4c\nten", "4c ten\n", "4c ten\x00", "4c\u00a0ten", "4c te n", "4c ten ten", "4c ten 6", "4c 4c ten",
		"4c t", "c4 t", "4c T", "4c abcdefghijklm", "4c t?n", "4c t.n", "4c té", "4c 4c", "4c t3n", "4c ten!", "ten 4c", "ten c4", "4ć ten", "ć4 ten", "４c ten", "4ｃ ten", "4c K\u212a",
		"18446744073709551620c ten", "9223372036854775807c ten", "9223372036854775808c ten", "-9223372036854775808c ten", "4294967300c ten", "260c ten", "c18446744073709551620 ten", "999999999999999999c ten", "1000000000000000000c ten",
		strings.Repeat("4", 5000) + "c ten", strings.Repeat("c", 5000) + "4 ten", "4c " + strings.Repeat("t", 5000), strings.Repeat("4c ten", 5000), "4c" + strings.Repeat(" ", 5000) + "ten",
	}, oddStrings()...) {
		same(t, "ReadPlay of "+strconv.Quote(s), sameReadPlay(t, s), false)
	}
}

// TestReadPlayByPattern has texts with small mistakes, and small changes that are none, and all short strings of some bytes.
func TestReadPlayByPattern(t *testing.T) {
	read := 0
	for _, text := range []string{"4c ten", "c4 ten", "10a aB", "a10 aB", "15o RATES", "o15 RATES", "1a abcdefghijkl", "a1 at", "11k ABCDEFGHIJKL", "l12 no"} {
		same(t, "ReadPlay of "+text, sameReadPlay(t, text), true)
		edits := oddEdits(text)
		for i := range text {
			for c := range 256 {
				edits = append(edits, text[:i]+string([]byte{byte(c)})+text[i+1:], text[:i]+string([]byte{byte(c)})+text[i:])
			}
		}
		for _, edit := range edits {
			if sameReadPlay(t, edit) {
				read++
			}
		}
	}
	same(t, "some of the edits are texts", read > 1000, true)
	// All places of up to four bytes.
	places := []string{""}
	for i := 0; len(places[i]) < 4; i++ {
		for _, c := range []byte("015aop- A") {
			places = append(places, places[i]+string([]byte{c}))
		}
	}
	for _, place := range places {
		sameReadPlay(t, place+" at")
		sameReadPlay(t, place+" a")
		sameReadPlay(t, place+"at")
	}
}

// TestInvalidForPlays gives boards that are not valid to every function that takes one; no play is valid on them.
func TestInvalidForPlays(t *testing.T) {
	plays := []impl.Play{{}, right(0, 0, "ab"), right(2, 1, "tEn"), right(2, 1, "tEns"), down(1, 2, "aEa"), down(0, 0, "abc"), right(-1, 0, "ab"), right(0, 0, "a"), right(math.MaxInt64, math.MinInt64, "abc"), down(math.MinInt64, math.MaxInt64, "aaa"), right(4, 4, "ab")}
	l := lexicon("ab", "abc", "aea", "tens")
	for what, b := range invalidBoards() {
		for _, p := range append(plays, right(b.Size-2, b.Size-2, "ab"), down(b.Size-2, b.Size-1, "ab")) {
			same(t, "ValidPlay with "+what, impl.ValidPlay(b, p), false)
			same(t, "TouchesBoard with "+what, impl.TouchesBoard(b, p), false)
			sameCodedList(t, "NewSquares with "+what, withCode(impl.NewSquares(b, p)), nil, impl.ErrInvalid)
			sameCoded(t, "PlacedTiles with "+what, withCode(impl.PlacedTiles(b, p)), "", impl.ErrInvalid)
			sameCodedList(t, "WordsFormed with "+what, withCode(impl.WordsFormed(b, p)), nil, impl.ErrInvalid)
			sameCodedList(t, "WrongWords with "+what, withCode(impl.WrongWords(b, l, p)), nil, impl.ErrInvalid)
			after, code := impl.MakePlay(b, p)
			sameBoard(t, "MakePlay with "+what, after, code, impl.Board{}, impl.ErrInvalid)
			for _, rack := range []string{"", "abc", "?", "ba", "aaaaaaaa"} {
				same(t, "LegalPlay with "+what, impl.LegalPlay(b, l, rack, p), int64(impl.ErrInvalid))
				same(t, "LegalPlay without a lexicon and with "+what, impl.LegalPlay(b, lexicon("ab", "ab"), rack, p), int64(impl.ErrInvalid))
			}
		}
	}
	ten := cellsBoard(".....", ".....", ".tEn.", ".....", ".....")
	plays = append(plays, right(2, 1, "tEns"), right(0, 0, "xy"), right(3, 1, "at"))
	for _, l := range invalidLexicons() {
		for _, p := range plays {
			sameCodedList(t, "WrongWords with a lexicon that is not valid", withCode(impl.WrongWords(ten, l, p)), nil, impl.ErrInvalid)
			for _, rack := range []string{"", "s", "at"} {
				same(t, "LegalPlay with a lexicon that is not valid", impl.LegalPlay(ten, l, rack, p), int64(impl.ErrInvalid))
			}
		}
	}
	for _, rack := range append(notPiles(), "aaaaaaaa", "????????", "?abcdefg", "aaaeeennrrsstt", strings.Repeat("a", 120)) {
		for _, p := range plays {
			same(t, "LegalPlay with the rack "+strconv.Quote(rack), impl.LegalPlay(ten, lexicon("tens"), rack, p), int64(impl.ErrInvalid))
		}
	}
	// Lexicons that reach the limits are valid.
	for _, l := range validLexicons() {
		p := right(2, 0, "atEns")
		sameWrong(t, ten, l, p, effectOf(ten, p))
		sameFault(t, ten, l, "as", p, faultOf(ten, l, "as", p))
		sameFault(t, ten, l, "ast", right(3, 1, "ta"), faultOf(ten, l, "ast", right(3, 1, "ta")))
	}
}

// TestPurityOfPlays is promise 1 for chapter 12: results are equal again, also of equal arguments in other memory, and arguments are kept.
func TestPurityOfPlays(t *testing.T) {
	next := numbers(36)
	l := lexicon("aa", "ab", "aba", "ba", "bz", "za", "zz")
	for _, b := range append(crowdedBoards(), impl.Board{}) {
		if b.Size > 7 {
			continue
		}
		for _, p := range append(playsOn(next, b), impl.Play{}) {
			a, q := impl.Board{Size: b.Size, Premium: strings.Clone(b.Premium), Cells: strings.Clone(b.Cells)}, p
			q.Word = strings.Clone(p.Word)
			m := roomyLexicon(l)
			for range 2 {
				same(t, "ValidPlay", impl.ValidPlay(a, q), impl.ValidPlay(b, p))
				same(t, "NewSquares", withCode(impl.NewSquares(a, q)), withCode(impl.NewSquares(b, p)))
				same(t, "PlacedTiles", withCode(impl.PlacedTiles(a, q)), withCode(impl.PlacedTiles(b, p)))
				same(t, "WordsFormed", withCode(impl.WordsFormed(a, q)), withCode(impl.WordsFormed(b, p)))
				same(t, "WrongWords", withCode(impl.WrongWords(a, m, q)), withCode(impl.WrongWords(b, l, p)))
				same(t, "TouchesBoard", impl.TouchesBoard(a, q), impl.TouchesBoard(b, p))
				same(t, "MakePlay", withCode(impl.MakePlay(a, q)), withCode(impl.MakePlay(b, p)))
				same(t, "LegalPlay", impl.LegalPlay(a, m, "?aab", q), impl.LegalPlay(b, l, "?aab", p))
			}
			same(t, "the board afterwards", a, b)
			same(t, "the play afterwards", q, p)
			sameList(t, "the lexicon afterwards", m.Words[:cap(m.Words)], roomyLexicon(l).Words[:cap(m.Words)])
		}
	}
	for _, p := range oddPlays() {
		q := p
		q.Word = strings.Clone(p.Word)
		for range 2 {
			same(t, "TransposePlay", impl.TransposePlay(q), impl.TransposePlay(p))
			same(t, "ComparePlays", impl.ComparePlays(p, q), int64(0))
			same(t, "PlayText", impl.PlayText(q), impl.PlayText(p))
		}
	}
}

// TestPlaysApart spoils lists, and looks at further ones.
func TestPlaysApart(t *testing.T) {
	b := cellsBoard(".....", ".....", ".tEn.", ".....", ".....")
	l := lexicon("at", "ta")
	for _, p := range []impl.Play{right(3, 1, "at"), right(3, 0, "Sat"), down(1, 2, "sEa"), right(1, 0, "abcde"), right(2, 0, "atEns")} {
		want := effectOf(b, p)
		for range 2 {
			squares, _ := impl.NewSquares(b, p)
			spoil(squares, square(-7, -7))
			words, _ := impl.WordsFormed(b, p)
			spoil(words, "spoilt")
			wrong, _ := impl.WrongWords(b, l, p)
			spoil(wrong, "spoilt")
			sameEffect(t, b, p, want)
			sameWrong(t, b, l, p, want)
		}
		sameList(t, "the lexicon afterwards", l.Words, []string{"at", "ta"})
	}
}
