package tests

import (
	"math"
	"regexp"
	"slices"
	"strconv"
	"strings"
	"testing"

	"loop.example/g00911/impl"
)

// boardOf makes a board of lines: first those with the premiums, then as many with the cells.
func boardOf(lines ...string) impl.Board {
	n := len(lines) / 2
	return impl.Board{Size: int64(n), Premium: strings.Join(lines[:n], ""), Cells: strings.Join(lines[n:], "")}
}

// cellsBoard makes a board without premiums of rows of cells.
func cellsBoard(rows ...string) impl.Board {
	return bareBoard(len(rows), strings.Join(rows, ""))
}

// bareBoard makes a board without premiums of all its cells.
func bareBoard(size int, cells string) impl.Board {
	return impl.Board{Size: int64(size), Premium: strings.Repeat(".", size*size), Cells: cells}
}

// letterBoard makes a board without premiums that has letters at some indices of its cells.
func letterBoard(size int, letter byte, at ...int) impl.Board {
	cells := []byte(strings.Repeat(".", size*size))
	for _, i := range at {
		cells[i] = letter
	}
	return bareBoard(size, string(cells))
}

// randomSquares returns bytes for all squares of a board; one of some is a byte of others.
func randomSquares(next func(n uint32) int64, size int, most byte, some uint32, others string) string {
	squares := make([]byte, size*size)
	for i := range squares {
		squares[i] = most
		if next(some) == 0 {
			squares[i] = others[next(uint32(len(others)))]
		}
	}
	return string(squares)
}

const allLetters = alphabet + "ABCDEFGHIJKLMNOPQRSTUVWXYZ"

// validBoards are boards of all sizes, with few letters and with many.
func validBoards() []impl.Board {
	all := []impl.Board{
		boardOf("t.d.t", ".....", "....3", ".....", "....2", ".....", "..tEn", "...a.", ".....", "....."),
		boardOf("23dt..", "t.....", "d.....", "3.....", "2.....", ".....t", "abcdef", "A....z", "B....y", "C....x", "D....w", "EFGHIJ"),
	}
	next := numbers(21)
	for size := 5; size <= 15; size++ {
		free := strings.Repeat(".", size*size)
		premiums := randomSquares(next, size, '.', 2, "23dt")
		all = append(all,
			bareBoard(size, free),
			impl.Board{Size: int64(size), Premium: premiums, Cells: free},
			impl.Board{Size: int64(size), Premium: premiums, Cells: strings.Repeat("z", size*size)},
			impl.Board{Size: int64(size), Premium: strings.Repeat("t", size*size), Cells: strings.Repeat("A", size*size)},
			letterBoard(size, 'q', 0), letterBoard(size, 'Q', size*size-1), letterBoard(size, 'x', size-1, size))
		for _, some := range []uint32{1, 2, 3, 8, 30} {
			all = append(all, impl.Board{Size: int64(size), Premium: premiums, Cells: randomSquares(next, size, '.', some, allLetters)})
		}
		all = append(all, impl.Board{Size: int64(size), Premium: premiums, Cells: randomSquares(next, size, 'e', 4, "....aBz")})
	}
	return all
}

// invalidBoards are boards that are not valid, each for one reason or another.
func invalidBoards() map[string]impl.Board {
	all := map[string]impl.Board{
		"the zero board":             {},
		"no size":                    {Premium: strings.Repeat(".", 25), Cells: strings.Repeat(".", 25)},
		"no premiums":                {Size: 5, Cells: strings.Repeat(".", 25)},
		"no cells":                   {Size: 5, Premium: strings.Repeat(".", 25)},
		"premiums and cells changed": {Size: 5, Premium: strings.Repeat("a", 25), Cells: strings.Repeat(".", 25)},
		"cells like premiums":        {Size: 5, Premium: strings.Repeat(".", 25), Cells: strings.Repeat("2", 25)},
		"lines with newlines":        {Size: 5, Premium: strings.Repeat("....\n", 5), Cells: strings.Repeat("....\n", 5)},
		"too long by a newline":      {Size: 5, Premium: strings.Repeat(".", 25) + "\n", Cells: strings.Repeat(".", 25)},
		"cells like premiums at end": {Size: 5, Premium: strings.Repeat(".", 25), Cells: strings.Repeat(".", 24) + "?"},
		"runes instead of bytes":     {Size: 5, Premium: strings.Repeat(".", 25), Cells: strings.Repeat(".", 24) + "é"},
		"a rune of two squares":      {Size: 5, Premium: strings.Repeat(".", 25), Cells: strings.Repeat(".", 23) + "é"},
		"a rune of three squares":    {Size: 5, Premium: strings.Repeat(".", 22) + "\u212a", Cells: strings.Repeat(".", 25)},
		"a wrong byte":               {Size: 5, Premium: strings.Repeat(".", 25), Cells: "\xff" + strings.Repeat(".", 24)},
		"very long":                  {Size: 15, Premium: strings.Repeat(".", 100000), Cells: strings.Repeat("a", 100000)},
	}
	for _, size := range []int{-15, -7, -5, -1, 0, 1, 2, 3, 4, 16, 17, 20, 100} {
		all["the size "+strconv.Itoa(size)] = impl.Board{Size: int64(size), Premium: strings.Repeat(".", size*size), Cells: strings.Repeat("a", size*size)}
	}
	for _, size := range []int{5, 6, 7, 14, 15} {
		for _, other := range []int{4, 5, 6, 7, 13, 14, 15, 16} {
			b := bareBoard(other, strings.Repeat("e", other*other))
			b.Size = int64(size)
			if size != other {
				all["the size "+strconv.Itoa(size)+" with squares for "+strconv.Itoa(other)] = b
			}
		}
	}
	// The squares of these sizes are, as int64, the numbers of bytes that there are.
	for _, size := range []int64{1 << 32, 1 << 62, math.MinInt64} {
		all["the great size "+strconv.FormatInt(size, 10)] = impl.Board{Size: size}
	}
	for _, size := range []int64{math.MaxInt64 - 4, math.MinInt64 + 5, 1<<32 + 5, 1<<8 + 5, 1<<16 + 5, 1<<31 + 5, math.MaxInt64, -1 << 32} {
		all["the great size "+strconv.FormatInt(size, 10)] = impl.Board{Size: size, Premium: strings.Repeat(".", 25), Cells: strings.Repeat("a", 25)}
	}
	for i, b := range validBoards() {
		if i%17 == 0 {
			addSpoilt(all, strconv.Itoa(i), b)
		}
	}
	return all
}

// addSpoilt adds boards that differ little from a valid one, but are not valid.
func addSpoilt(all map[string]impl.Board, name string, b impl.Board) {
	n := len(b.Cells)
	for what, change := range map[string]func(s string) string{
		"one less":   func(s string) string { return s[1:] },
		"one more":   func(s string) string { return s + "." },
		"a row less": func(s string) string { return s[b.Size:] },
		"a row more": func(s string) string { return s + s[:b.Size] },
		"a question": func(s string) string { return "?" + s[1:] },
		"a blank":    func(s string) string { return s[:n-1] + " " },
		"a zero":     func(s string) string { return s[:n/2] + "\x00" + s[n/2+1:] },
	} {
		p, c := b, b
		p.Premium, c.Cells = change(b.Premium), change(b.Cells)
		all[name+" with "+what+" of the premiums"], all[name+" with "+what+" of the cells"] = p, c
	}
}

// rowsOf and columnsOf return the cells of a valid board in lines, found one by one.
func rowsOf(b impl.Board, squares string) []string {
	var rows []string
	for n := int(b.Size); len(squares) > 0; squares = squares[n:] {
		rows = append(rows, squares[:n])
	}
	return rows
}

func columnsOf(b impl.Board, squares string) []string {
	columns := make([]string, b.Size)
	for i := range len(squares) {
		columns[i%int(b.Size)] += squares[i : i+1]
	}
	return columns
}

// sameBoard reports an error unless a board and its code are those wanted.
func sameBoard(t *testing.T, what string, got impl.Board, code int64, want impl.Board, wantCode int64) {
	t.Helper()
	if got != want || code != wantCode {
		t.Errorf("%s: got %#v and %v, want %#v and %v", what, got, code, want, wantCode)
	}
}

// oddNumbers are numbers of lines that no board has, and for some sizes those of lines that are there.
func oddNumbers(size int64) []int64 {
	return []int64{-1, 0, 1, size / 2, size - 1, size, size + 1, -size, 2 * size, size * size, 255, 256, -256, 1 << 32, 1<<32 + 1, -1 << 32, 1 << 62, math.MaxInt64, math.MinInt64, math.MinInt64 + 1}
}

func TestLimitsOfBoards(t *testing.T) {
	same(t, "limits", []int64{impl.MinSize, impl.MaxSize}, []int64{5, 15})
}

func TestValidBoard(t *testing.T) {
	for i, b := range validBoards() {
		same(t, "ValidBoard of "+strconv.Itoa(i), impl.ValidBoard(b), true)
	}
	for what, b := range invalidBoards() {
		same(t, "ValidBoard with "+what, impl.ValidBoard(b), false)
	}
}

// TestValidBoardByByte has each byte in each place of the premiums and of the cells, and in further ones.
func TestValidBoardByByte(t *testing.T) {
	for _, size := range []int{5, 6, 15} {
		free := strings.Repeat(".", size*size)
		for c := range 256 {
			one := string([]byte{byte(c)})
			premium, cell := strings.Contains(".23dt", one), strings.Contains("."+allLetters, one)
			for i := range free {
				squares := free[:i] + one + free[i+1:]
				same(t, strconv.Quote(one)+" among the premiums", impl.ValidBoard(impl.Board{Size: int64(size), Premium: squares, Cells: free}), premium)
				same(t, strconv.Quote(one)+" among the cells", impl.ValidBoard(impl.Board{Size: int64(size), Premium: free, Cells: squares}), cell)
			}
			same(t, strconv.Quote(one)+" behind the premiums", impl.ValidBoard(impl.Board{Size: int64(size), Premium: free + one, Cells: free}), false)
			same(t, strconv.Quote(one)+" behind the cells", impl.ValidBoard(impl.Board{Size: int64(size), Premium: free, Cells: free + one}), false)
		}
	}
}

// TestValidBoardByLength has each size with each number of premiums and of cells.
func TestValidBoardByLength(t *testing.T) {
	for size := -2; size <= 18; size++ {
		for n := range 300 {
			some, right := strings.Repeat(".", n), strings.Repeat(".", size*size)
			want := size >= 5 && size <= 15 && n == size*size
			same(t, "ValidBoard of "+strconv.Itoa(size)+" with premiums", impl.ValidBoard(impl.Board{Size: int64(size), Premium: some, Cells: right}), want)
			same(t, "ValidBoard of "+strconv.Itoa(size)+" with cells", impl.ValidBoard(impl.Board{Size: int64(size), Premium: right, Cells: some}), want)
			same(t, "ValidBoard of "+strconv.Itoa(size)+" with both", impl.ValidBoard(impl.Board{Size: int64(size), Premium: some, Cells: some}), want)
		}
	}
}

func TestSameBoard(t *testing.T) {
	all := append(validBoards(), impl.Board{}, impl.Board{Size: 5}, impl.Board{Premium: "."}, impl.Board{Cells: "."}, impl.Board{Premium: ".", Cells: "."}, impl.Board{Size: -1})
	for _, b := range invalidBoards() {
		all = append(all, b)
	}
	for i, a := range all {
		for k, b := range all {
			want := a.Size == b.Size && a.Premium == b.Premium && a.Cells == b.Cells
			same(t, "SameBoard of "+strconv.Itoa(i)+" and "+strconv.Itoa(k), impl.SameBoard(a, b), want)
			if i == k && !want {
				t.Error("a board differs from itself")
			}
		}
		p, c, s := a, a, a
		p.Premium, c.Cells, s.Size = a.Premium+"x", "x"+a.Cells, a.Size+1
		for _, b := range []impl.Board{p, c, s} {
			same(t, "SameBoard of changed boards", impl.SameBoard(a, b) || impl.SameBoard(b, a), false)
		}
	}
	same(t, "SameBoard by letters", impl.SameBoard(letterBoard(5, 'a', 0), letterBoard(5, 'A', 0)), false)
}

// noSizes are numbers that are no sizes of boards.
func noSizes() []int64 {
	return []int64{4, 16, 3, 2, 1, 0, -1, -4, -5, -15, -16, 17, 20, 100, 1<<8 + 5, 1<<16 + 7, 1<<31 + 5, 1<<32 + 5, 1<<32 + 15, 1 << 62, -1 << 62, math.MaxInt64, math.MinInt64, math.MaxInt64 - 4, math.MinInt64 + 5}
}

func TestEmptyBoard(t *testing.T) {
	for size := 5; size <= 15; size++ {
		free := strings.Repeat(strings.Repeat(".", size), size)
		b, code := impl.EmptyBoard(int64(size))
		sameBoard(t, "EmptyBoard of "+strconv.Itoa(size), b, code, impl.Board{Size: int64(size), Premium: free, Cells: free}, impl.OK)
		same(t, "the empty board is valid, blank and joined", impl.ValidBoard(b) && impl.IsBlank(b) && impl.IsJoined(b), true)
		sameCoded(t, "TilesOn the empty board", withCode(impl.TilesOn(b)), "", impl.OK)
		sameCodedList(t, "WordsOn the empty board", withCode(impl.WordsOn(b)), nil, impl.OK)
	}
	for _, size := range noSizes() {
		b, code := impl.EmptyBoard(size)
		sameBoard(t, "EmptyBoard of "+strconv.FormatInt(size, 10), b, code, impl.Board{}, impl.ErrRange)
		b, code = impl.StandardBoard(size)
		sameBoard(t, "StandardBoard of "+strconv.FormatInt(size, 10), b, code, impl.Board{}, impl.ErrRange)
	}
}

// TestStandardBoardByHand has whole boards.
func TestStandardBoardByHand(t *testing.T) {
	for _, rows := range [][]string{
		{"t.t.t", ".d2d.", "t2d2t", ".d2d.", "t.t.t"},
		{"t.tt.t", ".d22d.", "t2dd2t", "t2dd2t", ".d22d.", "t.tt.t"},
		{"t..t..t", ".d232d.", ".2d.d2.", "t3.d.3t", ".2d.d2.", ".d232d.", "t..t..t"},
		{"t..tt..t", ".d2332d.", ".2d..d2.", "t3.dd.3t", "t3.dd.3t", ".2d..d2.", ".d2332d.", "t..tt..t"},
		{
			"t..23.tt.32..t", ".d23..22..32d.", ".2d..2..2..d2.", "23.d2....2d.32", "3..2d.33.d2..3", "..2..d22d..2..", "t2..32dd23..2t",
			"t2..32dd23..2t", "..2..d22d..2..", "3..2d.33.d2..3", "23.d2....2d.32", ".2d..2..2..d2.", ".d23..22..32d.", "t..23.tt.32..t",
		},
		{
			"t..23..t..32..t", ".d23..2.2..32d.", ".2d..2...2..d2.", "23.d2..3..2d.32", "3..2d.323.d2..3", "..2..d2.2d..2..", ".2..32d.d23..2.",
			"t..32..d..23..t",
			".2..32d.d23..2.", "..2..d2.2d..2..", "3..2d.323.d2..3", "23.d2..3..2d.32", ".2d..2...2..d2.", ".d23..2.2..32d.", "t..23..t..32..t",
		},
	} {
		size := len(rows)
		b, code := impl.StandardBoard(int64(size))
		sameBoard(t, "StandardBoard of "+strconv.Itoa(size), b, code, impl.Board{Size: int64(size), Premium: strings.Join(rows, ""), Cells: strings.Repeat(".", size*size)}, impl.OK)
	}
}

// TestStandardBoardByCorner has the premiums from a corner to the middle; what is in the middle of an edge depends on the size.
func TestStandardBoardByCorner(t *testing.T) {
	corner := []string{"t..23..2", ".d23..2.", ".2d..2..", "23.d2..3", "3..2d.32", "..2..d2.", ".2..32d.", "2..32..d"}
	for size := int64(5); size <= 15; size++ {
		b, code := impl.StandardBoard(size)
		same(t, "the code of a standard board", code, int64(impl.OK))
		same(t, "a standard board is valid and blank", impl.ValidBoard(b) && impl.IsBlank(b), true)
		middle := map[int64]int64{5: 2, 6: 2, 7: 3, 8: 3, 9: 4, 10: 4, 11: 5, 12: 5, 13: 6, 14: 6, 15: 7}[size]
		for x := range middle + 1 {
			for y := range middle + 1 {
				want := corner[x][y]
				if x == 0 && y == middle || x == middle && y == 0 {
					want = 't'
				}
				for _, row := range []int64{x, size - 1 - x} {
					for _, col := range []int64{y, size - 1 - y} {
						what := "premium " + strconv.FormatInt(row, 10) + " " + strconv.FormatInt(col, 10) + " of " + strconv.FormatInt(size, 10)
						same(t, what, impl.PremiumAt(b, row, col), want)
						same(t, what+" in the text", b.Premium[row*size+col], want)
						same(t, "the cell there", impl.CellAt(b, row, col), byte('.'))
					}
				}
			}
		}
	}
}

// TestStandardBoardFromAllSides turns standard boards and looks at them in mirrors.
func TestStandardBoardFromAllSides(t *testing.T) {
	for size := int64(5); size <= 15; size++ {
		b, _ := impl.StandardBoard(size)
		what := "the standard board of " + strconv.FormatInt(size, 10)
		over, code := impl.TransposeBoard(b)
		sameBoard(t, what+" transposed", over, code, b, impl.OK)
		same(t, what+" from the other corner", turned(b.Premium), b.Premium)
		rows, columns := rowsOf(b, b.Premium), columnsOf(b, b.Premium)
		sameList(t, what+" by columns", columns, rows)
		slices.Reverse(rows)
		same(t, what+" from below", strings.Join(rows, ""), b.Premium)
		for i := range columns {
			columns[i] = turned(columns[i])
		}
		same(t, what+" from the side", strings.Join(columns, ""), b.Premium)
	}
}

// TestSquares looks at each square of boards, in the corners, on the edges, in the middle, and outside.
func TestSquares(t *testing.T) {
	for i, b := range validBoards() {
		for row := range b.Size {
			for col := range b.Size {
				what := "the square " + strconv.FormatInt(row, 10) + " " + strconv.FormatInt(col, 10) + " of " + strconv.Itoa(i)
				same(t, "the cell of "+what, impl.CellAt(b, row, col), rowsOf(b, b.Cells)[row][col])
				same(t, "the premium of "+what, impl.PremiumAt(b, row, col), rowsOf(b, b.Premium)[row][col])
			}
		}
		for _, row := range oddNumbers(b.Size) {
			for _, col := range oddNumbers(b.Size) {
				if row >= 0 && row < b.Size && col >= 0 && col < b.Size {
					continue
				}
				what := "the square " + strconv.FormatInt(row, 10) + " " + strconv.FormatInt(col, 10) + " of " + strconv.Itoa(i)
				same(t, "the cell of "+what, impl.CellAt(b, row, col), byte(0))
				same(t, "the premium of "+what, impl.PremiumAt(b, row, col), byte(0))
			}
		}
	}
	b := boardOf("t.d.t", ".....", "....3", ".....", "....2", ".....", "..tEn", "...a.", ".....", "z...Q")
	for at, want := range map[[2]int64]string{
		{0, 0}: "t.", {0, 2}: "d.", {0, 4}: "t.", {4, 4}: "2Q", {4, 0}: ".z", {2, 4}: "3.", {1, 3}: ".E", {1, 2}: ".t", {2, 3}: ".a", {2, 2}: "..",
		{0, 5}: "\x00\x00", {5, 0}: "\x00\x00", {-1, 0}: "\x00\x00", {0, -1}: "\x00\x00", {5, 5}: "\x00\x00", {-1, 5}: "\x00\x00", {1, -5}: "\x00\x00", {4, 5}: "\x00\x00",
	} {
		same(t, "a square", string([]byte{impl.PremiumAt(b, at[0], at[1]), impl.CellAt(b, at[0], at[1])}), want)
	}
}

// sameCellSet checks SetCell of a square, be it there or not, and a byte, be it a cell or not.
func sameCellSet(t *testing.T, b impl.Board, row, col int64, cell byte) {
	t.Helper()
	want, code := impl.Board{}, int64(impl.OK)
	switch {
	case row < 0 || row >= b.Size || col < 0 || col >= b.Size:
		code = impl.ErrRange
	case !strings.Contains("."+allLetters, string([]byte{cell})):
		code = impl.ErrSyntax
	default:
		cells := []byte(b.Cells)
		cells[row*b.Size+col] = cell
		want = impl.Board{Size: b.Size, Premium: b.Premium, Cells: string(cells)}
	}
	kept := strings.Clone(b.Cells)
	got, gotCode := impl.SetCell(b, row, col, cell)
	sameBoard(t, "SetCell "+strconv.FormatInt(row, 10)+" "+strconv.FormatInt(col, 10)+" "+strconv.Quote(string([]byte{cell})), got, gotCode, want, code)
	same(t, "the cells before", b.Cells, kept)
}

func TestSetCell(t *testing.T) {
	for i, b := range validBoards() {
		for row := range b.Size {
			for col := range b.Size {
				for _, cell := range []byte{'.', 'a', 'Z', '?'} {
					sameCellSet(t, b, row, col, cell)
				}
			}
		}
		if i%12 != 0 {
			continue
		}
		for c := range 256 {
			for _, row := range []int64{-1, 0, 2, b.Size - 1, b.Size} {
				for _, col := range []int64{-1, 0, 3, b.Size - 1, b.Size} {
					sameCellSet(t, b, row, col, byte(c))
				}
			}
		}
		for _, row := range oddNumbers(b.Size) {
			for _, col := range oddNumbers(b.Size) {
				sameCellSet(t, b, row, col, 'e')
				sameCellSet(t, b, row, col, '2')
			}
		}
	}
}

func TestTransposeBoardByHand(t *testing.T) {
	b := boardOf("t.d.t", "2....", "....3", ".....", "....2", "abcde", "..tEn", "...a.", "Z....", "y...x")
	want := boardOf("t2...", ".....", "d....", ".....", "t.3.2", "a..Zy", "b....", "ct...", "dEa..", "en..x")
	got, code := impl.TransposeBoard(b)
	sameBoard(t, "TransposeBoard", got, code, want, impl.OK)
	got, code = impl.TransposeBoard(want)
	sameBoard(t, "TransposeBoard twice", got, code, b, impl.OK)
}

// TestTransposeBoard is promise 11: rows and columns are exchanged, words stay the same.
func TestTransposeBoard(t *testing.T) {
	for i, b := range validBoards() {
		what := "the transposed board " + strconv.Itoa(i)
		over, code := impl.TransposeBoard(b)
		want := impl.Board{Size: b.Size, Premium: strings.Join(columnsOf(b, b.Premium), ""), Cells: strings.Join(columnsOf(b, b.Cells), "")}
		sameBoard(t, what, over, code, want, impl.OK)
		back, code := impl.TransposeBoard(over)
		sameBoard(t, what+" transposed again", back, code, b, impl.OK)
		for k := range b.Size {
			for m := range b.Size {
				same(t, "a cell of "+what, impl.CellAt(over, k, m), impl.CellAt(b, m, k))
				same(t, "a premium of "+what, impl.PremiumAt(over, k, m), impl.PremiumAt(b, m, k))
			}
			for _, down := range []bool{false, true} {
				same(t, "a line of "+what, withCode(impl.LineOf(over, k, down)), withCode(impl.LineOf(b, k, !down)))
			}
		}
		words, _ := impl.WordsOn(b)
		others, _ := impl.WordsOn(over)
		slices.Sort(words)
		slices.Sort(others)
		sameList(t, "the words of "+what, others, words)
		same(t, "the tiles of "+what, withCode(impl.TilesOn(over)), withCode(impl.TilesOn(b)))
		same(t, "letters of "+what, []bool{impl.IsBlank(over), impl.IsJoined(over)}, []bool{impl.IsBlank(b), impl.IsJoined(b)})
	}
}

func TestLineOf(t *testing.T) {
	for _, b := range validBoards() {
		for k := range b.Size {
			what := " " + strconv.FormatInt(k, 10)
			sameCoded(t, "row"+what, withCode(impl.LineOf(b, k, false)), rowsOf(b, b.Cells)[k], impl.OK)
			sameCoded(t, "column"+what, withCode(impl.LineOf(b, k, true)), columnsOf(b, b.Cells)[k], impl.OK)
		}
		for _, k := range oddNumbers(b.Size) {
			if k < 0 || k >= b.Size {
				sameCoded(t, "row "+strconv.FormatInt(k, 10), withCode(impl.LineOf(b, k, false)), "", impl.ErrRange)
				sameCoded(t, "column "+strconv.FormatInt(k, 10), withCode(impl.LineOf(b, k, true)), "", impl.ErrRange)
			}
		}
	}
	b := boardOf("t.d.t", ".....", "....3", ".....", "....2", "abcdE", "..tEn", "...a.", ".....", "z...Q")
	for k, want := range [][2]string{{"abcdE", "a...z"}, {"..tEn", "b...."}, {"...a.", "ct..."}, {".....", "dEa.."}, {"z...Q", "En..Q"}} {
		sameCoded(t, "a row", withCode(impl.LineOf(b, int64(k), false)), want[0], impl.OK)
		sameCoded(t, "a column", withCode(impl.LineOf(b, int64(k), true)), want[1], impl.OK)
	}
}

func TestTilesOnByHand(t *testing.T) {
	for _, c := range []struct {
		board impl.Board
		want  string
	}{
		{boardOf("t.d.t", ".....", "....3", ".....", "....2", ".....", "..tEn", "...a.", ".....", "....."), "?ant"},
		{cellsBoard("zyx..", ".....", ".....", ".....", "..cba"), "abcxyz"},
		{cellsBoard("Z...A", ".....", ".....", ".....", "z...a"), "??az"},
		{cellsBoard(".....", ".....", "..q..", ".....", "....."), "q"},
		{cellsBoard(".....", ".....", "..Q..", ".....", "....."), "?"},
		{cellsBoard("abcde", "fghij", "klmno", "pqrst", "uvwxy"), "abcdefghijklmnopqrstuvwxy"},
		{cellsBoard("ABCDE", "FGHIJ", "KLMNO", "PQRST", "UVWXY"), strings.Repeat("?", 25)},
		{cellsBoard("aAaAa", ".....", ".....", ".....", "bBbBb"), "????aaabbb"},
		// Premiums are no tiles, though some of them are letters.
		{boardOf("ttddt", "ddddd", "ttttt", "23232", "ddttt", ".....", "..a..", ".....", ".....", "....."), "a"},
	} {
		sameCoded(t, "TilesOn", withCode(impl.TilesOn(c.board)), c.want, impl.OK)
	}
}

// sameTilesOn checks TilesOn by sorting bytes.
func sameTilesOn(t *testing.T, b impl.Board) {
	t.Helper()
	capital := regexp.MustCompile("[A-Z]")
	want, code := sorted(capital.ReplaceAllString(strings.ReplaceAll(b.Cells, ".", ""), "?")), int64(impl.OK)
	if len(want) > 120 {
		want, code = "", impl.ErrFull
	}
	sameCoded(t, "TilesOn "+b.Cells, withCode(impl.TilesOn(b)), want, code)
	same(t, "the tiles are a pile", impl.ValidPile(want), true)
}

// TestTilesOnByNumber has boards with each number of tiles, in the first squares and in the last ones.
func TestTilesOnByNumber(t *testing.T) {
	for _, b := range validBoards() {
		sameTilesOn(t, b)
	}
	for _, size := range []int{5, 10, 11, 12, 15} {
		for n := range size*size + 1 {
			free := strings.Repeat(".", size*size-n)
			for _, some := range []string{"z", "A", "aB", "zyxA"} {
				letters := strings.Repeat(some, n)[:n]
				sameTilesOn(t, bareBoard(size, letters+free))
				sameTilesOn(t, bareBoard(size, free+letters))
			}
		}
	}
	for n, want := range map[int]coded[string]{
		0: {"", impl.OK}, 1: {"e", impl.OK}, 119: {strings.Repeat("e", 119), impl.OK}, 120: {strings.Repeat("e", 120), impl.OK},
		121: {"", impl.ErrFull}, 144: {"", impl.ErrFull}, 225: {"", impl.ErrFull},
	} {
		b := bareBoard(15, strings.Repeat("e", n)+strings.Repeat(".", 225-n))
		sameCoded(t, "TilesOn of "+strconv.Itoa(n), withCode(impl.TilesOn(b)), want.value, want.code)
	}
}

func TestIsBlank(t *testing.T) {
	for i, b := range validBoards() {
		same(t, "IsBlank of "+strconv.Itoa(i), impl.IsBlank(b), strings.Trim(b.Cells, ".") == "")
	}
	for _, size := range []int{5, 6, 15} {
		for i := range size * size {
			for _, letter := range []byte("azAZ") {
				same(t, "IsBlank with a letter", impl.IsBlank(letterBoard(size, letter, i)), false)
			}
		}
	}
	same(t, "IsBlank with premiums", impl.IsBlank(impl.Board{Size: 5, Premium: strings.Repeat("d", 25), Cells: strings.Repeat(".", 25)}), true)
}

// isJoined is IsJoined for valid boards: each letter has a mark, and letters side by side come to the same one.
func isJoined(b impl.Board) bool {
	n := int(b.Size)
	marks := make([]int, n*n)
	for i := range marks {
		marks[i] = i
	}
	for changed := true; changed; {
		changed = false
		for i := range marks {
			for _, k := range []int{i + 1, i + n} {
				if k >= n*n || k == i+1 && k%n == 0 || b.Cells[i] == '.' || b.Cells[k] == '.' || marks[i] == marks[k] {
					continue
				}
				marks[i], marks[k] = min(marks[i], marks[k]), min(marks[i], marks[k])
				changed = true
			}
		}
	}
	first := -1
	for i, mark := range marks {
		if b.Cells[i] == '.' {
			continue
		}
		if first >= 0 && mark != first {
			return false
		}
		first = mark
	}
	return true
}

func TestIsJoinedByHand(t *testing.T) {
	for _, c := range []struct {
		want bool
		rows []string
	}{
		{true, []string{".....", ".....", ".....", ".....", "....."}},
		{true, []string{".....", "..a..", ".....", ".....", "....."}},
		{true, []string{"a....", ".....", ".....", ".....", "....."}},
		{true, []string{".....", ".....", ".....", ".....", "....Z"}},
		{true, []string{".....", "..tEn", "...a.", ".....", "....."}},
		{true, []string{"abcde", "f....", "g....", "h....", "i...."}},
		{true, []string{"abcde", "ABCDE", "abcde", "ABCDE", "abcde"}},
		{true, []string{"aaaaa", "a...a", "a...a", "a...a", "aaaaa"}},
		{true, []string{"aaaaa", "....a", "aaa.a", "a...a", "aaaaa"}},
		{true, []string{"a.a.a", "a.a.a", "a.a.a", "a.a.a", "aaaaa"}},
		{true, []string{"a.aaa", "a.a.a", "a.a.a", "a.a.a", "aaa.a"}},
		{true, []string{"....a", "....a", "....a", "....a", "aaaaa"}},
		{false, []string{"a....", ".a...", ".....", ".....", "....."}},
		{false, []string{".....", ".....", "..A..", ".b...", "....."}},
		{false, []string{"aa...", "..aa.", ".....", ".....", "....."}},
		{false, []string{"a.a.a", ".a.a.", "a.a.a", ".a.a.", "a.a.a"}},
		{false, []string{"....a", "a....", ".....", ".....", "....."}},
		{false, []string{"aaaaa", ".....", "aaaaa", ".....", "....."}},
		{false, []string{"a...a", ".....", ".....", ".....", "....."}},
		{false, []string{"a....", ".....", ".....", ".....", "....a"}},
		{false, []string{"a....", ".....", ".....", ".....", "a...."}},
		{false, []string{"aaaaa", "a...a", "a.b.a", "a...a", "aaaaa"}},
		{false, []string{"aaaaa", "....a", "aaa.a", "....a", "a.aaa"}},
		{false, []string{".....", "..tEn", "...a.", ".....", "...s."}},
		{false, []string{"a....", "..tEn", "...a.", ".....", "....."}},
		{true, []string{"aa....", ".aa...", "..aa..", "...aa.", "....aa", ".....a"}},
		{false, []string{"aa....", ".aa...", "..aa..", "....a.", "....aa", ".....a"}},
	} {
		b := cellsBoard(c.rows...)
		same(t, "IsJoined of "+strings.Join(c.rows, " "), impl.IsJoined(b), c.want)
		same(t, "isJoined of "+strings.Join(c.rows, " "), isJoined(b), c.want)
	}
}

// TestIsJoinedByPairs has two letters, on each pair of squares.
func TestIsJoinedByPairs(t *testing.T) {
	for _, size := range []int{5, 6, 9} {
		for i := range size * size {
			for k := range i {
				want := k == i-size || k == i-1 && i%size != 0
				same(t, "IsJoined of "+strconv.Itoa(k)+" and "+strconv.Itoa(i), impl.IsJoined(letterBoard(size, 'a', i, k)), want)
			}
		}
	}
}

// TestIsJoinedByMarks has all boards with letters in three rows and four columns, at each of the four corners, and others.
func TestIsJoinedByMarks(t *testing.T) {
	for mask := range 1 << 12 {
		for _, corner := range []int{0, 1, 10, 11} {
			var at []int
			for i := range 12 {
				if mask>>i&1 == 1 {
					at = append(at, corner+i/4*5+i%4)
				}
			}
			b := letterBoard(5, 'n', at...)
			same(t, "IsJoined of "+b.Cells, impl.IsJoined(b), isJoined(b))
		}
	}
	next := numbers(22)
	joined := 0
	for size := 5; size <= 15; size++ {
		for k := range 200 {
			b := bareBoard(size, randomSquares(next, size, 'e', uint32(1+k%8), "...A"))
			same(t, "IsJoined of "+b.Cells, impl.IsJoined(b), isJoined(b))
			if isJoined(b) {
				joined++
			}
		}
	}
	same(t, "many boards are joined, and many are not: "+strconv.Itoa(joined), joined > 500 && joined < 1700, true)
	for i, b := range validBoards() {
		same(t, "IsJoined of the board "+strconv.Itoa(i), impl.IsJoined(b), isJoined(b))
	}
}

// snakeBoard is a board with letters on one path: along each second row, and from one of these to the next one.
func snakeBoard(size int) string {
	var rows []string
	for row := range size {
		line := strings.Repeat("a", size)
		if row%4 == 1 {
			line = strings.Repeat(".", size-1) + "b"
		} else if row%4 == 3 {
			line = "b" + strings.Repeat(".", size-1)
		}
		rows = append(rows, line)
	}
	return strings.Join(rows, "")
}

// TestIsJoinedAlongAPath takes single letters from a long path.
func TestIsJoinedAlongAPath(t *testing.T) {
	for size := 5; size <= 15; size++ {
		cells := snakeBoard(size)
		same(t, "IsJoined of a path", impl.IsJoined(bareBoard(size, cells)), true)
		cut := 0
		for i := range cells {
			b := bareBoard(size, cells[:i]+"."+cells[i+1:])
			same(t, "IsJoined of "+b.Cells, impl.IsJoined(b), isJoined(b))
			if !isJoined(b) {
				cut++
			}
		}
		same(t, "many letters of the path are needed", cut > size*size/3, true)
	}
}

func TestWordsOnByHand(t *testing.T) {
	for _, c := range []struct {
		rows []string
		want string
	}{
		{[]string{".....", ".....", ".....", ".....", "....."}, ""},
		{[]string{".....", "..a..", ".....", ".....", "....."}, ""},
		{[]string{"a...b", ".....", "..c..", ".....", "d...e"}, ""},
		{[]string{"a.b.c", ".d.e.", "f.g.h", ".i.j.", "k.l.m"}, ""},
		{[]string{".....", "..tEn", "...a.", ".....", "....."}, "ten ea"},
		{[]string{"ab.cd", ".....", ".....", ".....", "ef.gh"}, "ab cd ef gh"},
		{[]string{"abcde", ".....", ".....", ".....", "....."}, "abcde"},
		{[]string{".....", ".....", ".....", ".....", "ABCDE"}, "abcde"},
		{[]string{"a....", "b....", "c....", "d....", "e...."}, "abcde"},
		{[]string{"....V", "....w", "....X", "....y", "....Z"}, "vwxyz"},
		{[]string{"ab.cd", "a...d", ".....", "b...e", "bx.ye"}, "ab cd bx ye aa bb dd ee"},
		{[]string{"a....", "b....", ".....", "c....", "d...."}, "ab cd"},
		{[]string{"ab...", "...cd", "ef...", ".....", "....."}, "ab cd ef"},
		{[]string{"....a", "b....", ".....", ".....", "....."}, ""},
		{[]string{"abc..", "d.e..", "fgh..", ".....", "....."}, "abc fgh adf ceh"},
		{[]string{"aab..", ".a...", ".....", ".....", "....."}, "aab aa"},
		{[]string{"Ab...", "Cd...", ".....", ".....", "....."}, "ab cd ac bd"},
		{[]string{"ab.ab", ".....", "ab...", "....a", "....b"}, "ab ab ab ab"},
		{[]string{"abcde", "fghij", "klmno", "pqrst", "uvwxy"}, "abcde fghij klmno pqrst uvwxy afkpu bglqv chmrw dinsx ejoty"},
		{[]string{".x...", "zy.ab", "...c.", ".xyz.", "....."}, "zy ab xyz xy acz"},
		{[]string{"......", "......", "......", "......", "......", "abcdef"}, "abcdef"},
		{[]string{"ab.cd.", "......", "......", "......", "......", "......"}, "ab cd"},
	} {
		sameCodedList(t, "WordsOn "+strings.Join(c.rows, " "), withCode(impl.WordsOn(cellsBoard(c.rows...))), strings.Fields(c.want), impl.OK)
	}
	// Words on a board may be longer than words of a lexicon.
	long := "abcdefghijklmno"
	free := strings.Repeat(".", 15)
	sameCodedList(t, "WordsOn with a row of 15", withCode(impl.WordsOn(bareBoard(15, long+strings.Repeat(free, 14)))), []string{long}, impl.OK)
	sameCodedList(t, "WordsOn with a row of 15 capitals", withCode(impl.WordsOn(bareBoard(15, strings.Repeat(free, 14)+strings.ToUpper(long)))), []string{long}, impl.OK)
	column := ""
	for _, c := range long {
		column += strings.Repeat(".", 14) + string(c)
	}
	sameCodedList(t, "WordsOn with a column of 15", withCode(impl.WordsOn(bareBoard(15, column))), []string{long}, impl.OK)
}

// TestWordsOnByPattern compares words with what a regular expression finds in rows and columns.
func TestWordsOnByPattern(t *testing.T) {
	letters := regexp.MustCompile("[a-zA-Z][a-zA-Z]+")
	boards := validBoards()
	next := numbers(23)
	for size := 5; size <= 15; size++ {
		for some := range uint32(12) {
			boards = append(boards,
				bareBoard(size, randomSquares(next, size, '.', some+1, "abABzZ")),
				bareBoard(size, randomSquares(next, size, 'e', some+1, "...A")))
		}
	}
	for i, b := range boards {
		var want []string
		for _, line := range slices.Concat(rowsOf(b, b.Cells), columnsOf(b, b.Cells)) {
			for _, word := range letters.FindAllString(line, -1) {
				want = append(want, strings.ToLower(word))
			}
		}
		sameCodedList(t, "WordsOn the board "+strconv.Itoa(i), withCode(impl.WordsOn(b)), want, impl.OK)
	}
}

func TestBoardTextByHand(t *testing.T) {
	for _, c := range []struct {
		board impl.Board
		text  string
	}{
		{boardOf("t.d.t", ".....", "....3", ".....", "....2", ".....", "..tEn", "...a.", ".....", "....."), "board 5\nt.d.t\n.....\n....3\n.....\n....2\n.....\n..tEn\n...a.\n.....\n.....\n"},
		{bareBoard(5, strings.Repeat(".", 25)), "board 5\n.....\n.....\n.....\n.....\n.....\n.....\n.....\n.....\n.....\n.....\n"},
		{boardOf("23dt..", "t.....", "d.....", "3.....", "2.....", ".....t", "abcdef", "A....z", "B....y", "C....x", "D....w", "EFGHIJ"),
			"board 6\n23dt..\nt.....\nd.....\n3.....\n2.....\n.....t\nabcdef\nA....z\nB....y\nC....x\nD....w\nEFGHIJ\n"},
		{bareBoard(15, strings.Repeat("x", 225)), "board 15\n" + strings.Repeat("...............\n", 15) + strings.Repeat("xxxxxxxxxxxxxxx\n", 15)},
	} {
		same(t, "BoardText", impl.BoardText(c.board), c.text)
		sameReadBoard(t, c.text)
		b, ok := impl.ReadBoard(c.text)
		same(t, "ReadBoard", b, c.board)
		same(t, "ReadBoard", ok, true)
	}
}

// boardPatterns match the texts of boards, one pattern for each size from 5 on.
var boardPatterns = func() []*regexp.Regexp {
	var all []*regexp.Regexp
	for size := 5; size <= 15; size++ {
		n := strconv.Itoa(size)
		all = append(all, regexp.MustCompile(`\Aboard `+n+`\n((?:[.23dt]{`+n+`}\n){`+n+`})((?:[.a-zA-Z]{`+n+`}\n){`+n+`})\z`))
	}
	return all
}()

// readByPattern reads the text of a board by a regular expression for each size; false if it is none.
func readByPattern(s string) (impl.Board, bool) {
	for i, pattern := range boardPatterns {
		if m := pattern.FindStringSubmatch(s); m != nil {
			return impl.Board{Size: int64(i + 5), Premium: strings.ReplaceAll(m[1], "\n", ""), Cells: strings.ReplaceAll(m[2], "\n", "")}, true
		}
	}
	return impl.Board{}, false
}

// sameReadBoard checks ReadBoard of a string, be it a text or not, and returns whether it is one.
func sameReadBoard(t *testing.T, s string) bool {
	t.Helper()
	want, wantOK := readByPattern(s)
	got, ok := impl.ReadBoard(s)
	if got != want || ok != wantOK {
		t.Errorf("ReadBoard of %q: got %#v and %v, want %#v and %v", s, got, ok, want, wantOK)
	}
	if ok {
		same(t, "BoardText of what was read", impl.BoardText(got), s)
	}
	return ok
}

// TestBoardTexts reads the texts of boards back.
func TestBoardTexts(t *testing.T) {
	for i, b := range validBoards() {
		lines := slices.Concat([]string{"board " + strconv.FormatInt(b.Size, 10)}, rowsOf(b, b.Premium), rowsOf(b, b.Cells))
		text := strings.Join(lines, "\n") + "\n"
		same(t, "BoardText of "+strconv.Itoa(i), impl.BoardText(b), text)
		got, ok := impl.ReadBoard(text)
		same(t, "ReadBoard of "+strconv.Itoa(i), ok && impl.SameBoard(got, b), true)
		sameReadBoard(t, text)
	}
}

// TestReadBoardErrors has strings that are nearly texts of boards.
func TestReadBoardErrors(t *testing.T) {
	premiums, cells := "t.d.t\n.....\n....3\n.....\n....2\n", ".....\n..tEn\n...a.\n.....\n.....\n"
	free := ".....\n.....\n.....\n.....\n.....\n"
	same(t, "ReadBoard of a text", sameReadBoard(t, "board 5\n"+premiums+cells), true)
	for _, s := range append([]string{
		"board 5\n" + cells + premiums, "board 5\n" + premiums, "board 5\n" + cells, "board 5\n", "board 5", "board", "board ", "\n", premiums + cells, "board \n" + premiums + cells, "board\n" + premiums + cells,
		"board 5\n" + premiums + cells + "\n", "board 5\n" + premiums + cells[:len(cells)-1], "board 5\n\n" + premiums + cells, "board 5\n" + premiums + "\n" + cells, "\nboard 5\n" + premiums + cells,
		"board 5\n" + premiums + cells + ".....\n", "board 5\n.....\n" + premiums + cells, "board 5\n" + premiums[6:] + cells, "board 5\n" + premiums + cells[6:], "board 5\n" + premiums[6:] + "..tEn\n" + cells,
		"board 5\n" + premiums + cells + "board 5\n", "board 5\n" + premiums + cells + "board 5\n" + premiums + cells, "board 5 " + premiums + cells, "board 5\n" + premiums + cells + " ", "board 5\n" + premiums + cells + "x",
		"board  5\n" + premiums + cells, " board 5\n" + premiums + cells, "board 5 \n" + premiums + cells, "board\t5\n" + premiums + cells, "board5\n" + premiums + cells, "Board 5\n" + premiums + cells, "boards 5\n" + premiums + cells,
		"board 05\n" + premiums + cells, "board +5\n" + premiums + cells, "board -5\n" + premiums + cells, "board 5.0\n" + premiums + cells, "board 5.\n" + premiums + cells, "board 0x5\n" + premiums + cells, "board 5_\n" + premiums + cells,
		"board 6\n" + premiums + cells, "board 4\n" + premiums + cells, "board 0\n" + premiums + cells, "board 15\n" + premiums + cells, "board 25\n" + premiums + cells, "board 55\n" + premiums + cells, "board five\n" + premiums + cells,
		"5\n" + premiums + cells, "grid 5\n" + premiums + cells, "board board 5\n" + premiums + cells, "board 5 5\n" + premiums + cells, "board 5\r\n" + premiums + cells, "board 9223372036854775812\n" + premiums + cells,
		"board 9223372036854775803\n" + premiums + cells, "board -9223372036854775803\n" + premiums + cells, "board 18446744073709551621\n" + premiums + cells, "board 4294967301\n" + premiums + cells, "board 261\n" + premiums + cells,
		"board 5\n" + strings.ReplaceAll(premiums+cells, "\n", ""), "board 5\n" + strings.ReplaceAll(premiums+cells, "\n", "\n\n"), "board 5\n" + strings.ReplaceAll(premiums+cells, "\n", "\r\n"), "board 5\n" + strings.ReplaceAll(premiums+cells, "\n", " \n"),
		"board 5\n" + strings.ReplaceAll(premiums, "\n", "") + "\n" + strings.ReplaceAll(cells, "\n", "") + "\n", "board 5\n" + strings.ReplaceAll(premiums+cells, ".\n", "\n."), "board 5\n" + strings.ReplaceAll(premiums+cells, ".", " "),
		"board 5\n" + strings.Repeat("..........\n", 5), "board 5\n" + free + strings.Repeat("?????\n", 5), "board 5\n" + free + strings.Repeat("ééééé\n", 5), "board 5\n" + free + strings.Repeat("22222\n", 5), "board 5\n" + strings.Repeat("aaaaa\n", 5) + free,
		"board 4\n" + strings.Repeat("....\n", 8), "board 16\n" + strings.Repeat("................\n", 32), "board 1\n.\n.\n", "board 0\n", "board 3\n" + strings.Repeat("...\n", 6), "board 10\n" + strings.Repeat(".....\n", 20),
		"board 5\n" + strings.Repeat(free, 5000), strings.Repeat("board 5\n", 5000), strings.Repeat("5", 5000), "board " + strings.Repeat("5", 5000) + "\n" + free + free, "board 5\n" + strings.Repeat("a", 50000),
	}, oddStrings()...) {
		same(t, "ReadBoard of "+strconv.Quote(s), sameReadBoard(t, s), false)
	}
}

// TestReadBoardByPattern has texts with small mistakes, and small changes that are none.
func TestReadBoardByPattern(t *testing.T) {
	right := 0
	for _, b := range []impl.Board{
		boardOf("t.d.t", ".....", "....3", ".....", "....2", ".....", "..tEn", "...a.", ".....", "....."),
		boardOf("t.tt.t", ".d22d.", "t2dd2t", "t2dd2t", ".d22d.", "t.tt.t", "a....d", "......", ".test.", "....A.", "......", "T....t"),
	} {
		text := impl.BoardText(b)
		edits := oddEdits(text)
		for i := range text {
			for _, c := range []byte(".23dtTbZ#@\r\x00\xff") {
				edits = append(edits, text[:i]+string([]byte{c})+text[i+1:])
			}
		}
		for _, edit := range edits {
			if sameReadBoard(t, edit) {
				right++
			}
		}
	}
	same(t, "some of the edits are texts", right > 500, true)
	// The text of each size with the number of each other one, and with a line less or more.
	for size := 5; size <= 15; size++ {
		row := strings.Repeat(".", size) + "\n"
		for other := range 20 {
			same(t, "ReadBoard of another size", sameReadBoard(t, "board "+strconv.Itoa(other)+"\n"+strings.Repeat(row, 2*size)), other == size)
		}
		for lines := range 3 * size {
			same(t, "ReadBoard of some lines", sameReadBoard(t, "board "+strconv.Itoa(size)+"\n"+strings.Repeat(row, lines)), lines == 2*size)
		}
	}
}

// TestInvalidBoards gives boards that are not valid to every function that takes one; this is told before all else.
func TestInvalidBoards(t *testing.T) {
	for what, b := range invalidBoards() {
		over, code := impl.TransposeBoard(b)
		sameBoard(t, "TransposeBoard of "+what, over, code, impl.Board{}, impl.ErrInvalid)
		sameCoded(t, "TilesOn "+what, withCode(impl.TilesOn(b)), "", impl.ErrInvalid)
		sameCodedList(t, "WordsOn "+what, withCode(impl.WordsOn(b)), nil, impl.ErrInvalid)
		same(t, "BoardText of "+what, impl.BoardText(b), "")
		same(t, "IsBlank of "+what, impl.IsBlank(b), false)
		same(t, "IsJoined of "+what, impl.IsJoined(b), false)
		for _, k := range []int64{-1, 0, 2, 4, 5, 15, b.Size - 1, b.Size, math.MaxInt64, math.MinInt64} {
			sameCoded(t, "a row of "+what, withCode(impl.LineOf(b, k, false)), "", impl.ErrInvalid)
			sameCoded(t, "a column of "+what, withCode(impl.LineOf(b, k, true)), "", impl.ErrInvalid)
			for _, m := range []int64{-1, 0, 3, 4, 5, b.Size - 1, b.Size, math.MaxInt64, math.MinInt64} {
				same(t, "CellAt of "+what, impl.CellAt(b, k, m), byte(0))
				same(t, "PremiumAt of "+what, impl.PremiumAt(b, k, m), byte(0))
				for _, cell := range []byte("a.Z?\x00") {
					got, code := impl.SetCell(b, k, m, cell)
					sameBoard(t, "SetCell of "+what, got, code, impl.Board{}, impl.ErrInvalid)
				}
			}
		}
	}
	// With more than 120 letters and a byte that is no cell, ErrInvalid comes ahead of ErrFull.
	sameCoded(t, "TilesOn too many and wrong ones", withCode(impl.TilesOn(impl.Board{Size: 15, Premium: strings.Repeat(".", 225), Cells: strings.Repeat("a", 224) + "?"})), "", impl.ErrInvalid)
}

// TestPurityOfBoards is promise 1 for chapter 11: results are equal again, also of equal boards in other memory.
func TestPurityOfBoards(t *testing.T) {
	boards := validBoards()
	for _, b := range invalidBoards() {
		boards = append(boards, b)
	}
	for _, b := range boards {
		a := impl.Board{Size: b.Size, Premium: strings.Clone(b.Premium), Cells: strings.Clone(b.Cells)}
		for range 2 {
			same(t, "ValidBoard", impl.ValidBoard(a), impl.ValidBoard(b))
			same(t, "SameBoard", impl.SameBoard(a, b), true)
			same(t, "EmptyBoard", withCode(impl.EmptyBoard(a.Size)), withCode(impl.EmptyBoard(b.Size)))
			same(t, "StandardBoard", withCode(impl.StandardBoard(a.Size)), withCode(impl.StandardBoard(b.Size)))
			same(t, "CellAt", impl.CellAt(a, 1, 2), impl.CellAt(b, 1, 2))
			same(t, "PremiumAt", impl.PremiumAt(a, 1, 2), impl.PremiumAt(b, 1, 2))
			same(t, "SetCell", withCode(impl.SetCell(a, 2, 1, 'S')), withCode(impl.SetCell(b, 2, 1, 'S')))
			same(t, "TransposeBoard", withCode(impl.TransposeBoard(a)), withCode(impl.TransposeBoard(b)))
			same(t, "LineOf", withCode(impl.LineOf(a, 1, true)), withCode(impl.LineOf(b, 1, true)))
			same(t, "TilesOn", withCode(impl.TilesOn(a)), withCode(impl.TilesOn(b)))
			same(t, "IsBlank", impl.IsBlank(a), impl.IsBlank(b))
			same(t, "IsJoined", impl.IsJoined(a), impl.IsJoined(b))
			same(t, "WordsOn", withCode(impl.WordsOn(a)), withCode(impl.WordsOn(b)))
			same(t, "BoardText", impl.BoardText(a), impl.BoardText(b))
			same(t, "ReadBoard", readTwice(impl.BoardText(a)), readTwice(impl.BoardText(b)))
		}
		same(t, "the board afterwards", a, b)
	}
}

// readTwice returns what is read of a text, once and again.
func readTwice(s string) [2]impl.Board {
	a, _ := impl.ReadBoard(s)
	b, _ := impl.ReadBoard(s)
	return [2]impl.Board{a, b}
}

// TestBoardsApart spoils a list of words, and looks at the board and at a further list.
func TestBoardsApart(t *testing.T) {
	for i, b := range validBoards() {
		list, _ := impl.WordsOn(b)
		want := slices.Clone(list)
		spoil(list, "spoilt")
		again, _ := impl.WordsOn(b)
		sameList(t, "WordsOn the board "+strconv.Itoa(i)+" after a spoilt result", again, want)
		same(t, "the board is still valid", impl.ValidBoard(b), true)
	}
}
