package impl

import (
	"strconv"
	"strings"
)

// Codes. Their numbers are those of the specification, so their order matters.
const (
	OK = iota
	ErrInvalid
	ErrRange
	ErrNotFound
	ErrExists
	ErrFull
	ErrState
	ErrSyntax
	ErrFormat
	ErrIllegal
	ErrOver
)

// Limits of names and words.
const (
	MaxName = 12
	MaxWord = 12
)

// smallLetters has each small letter once, in ascending order.
const smallLetters = "abcdefghijklmnopqrstuvwxyz"

// maxDigits is the greatest number of digits that ReadDecimal accepts; so many always fit into an int64.
const maxDigits = 18

// codeNames has the name of each code at the index that is its number.
var codeNames = [...]string{
	"ok", "invalid", "range", "not-found", "exists", "full",
	"state", "syntax", "format", "illegal", "over",
}

// CodeName returns the name of a code.
func CodeName(code int64) string {
	if code < 0 || code >= int64(len(codeNames)) {
		return ""
	}
	return codeNames[code]
}

// IsName reports whether s is a name.
func IsName(s string) bool {
	if s == "" || len(s) > MaxName {
		return false
	}
	for i, r := range s {
		if isSmall(r) {
			continue
		}
		if i == 0 || !isDigit(r) && r != '-' {
			return false
		}
	}
	return true
}

// Decimal returns the decimal form of a number.
func Decimal(n int64) string {
	return strconv.FormatInt(n, 10)
}

// ReadDecimal returns the number with a decimal form.
func ReadDecimal(s string) (int64, bool) {
	if len(strings.TrimPrefix(s, "-")) > maxDigits {
		return 0, false
	}
	n, err := strconv.ParseInt(s, 10, 64)
	// ParseInt also reads forms that Decimal never writes: a plus sign, leading zeros, -0.
	if err != nil || Decimal(n) != s {
		return 0, false
	}
	return n, true
}

// SplitWords returns the parts of a text without blanks.
func SplitWords(s string) []string {
	// strings.Fields would also split at tabs, newlines and other white space.
	return strings.FieldsFunc(s, isSeparator)
}

// IsWord reports whether s is a word.
func IsWord(s string) bool {
	return s != "" && len(s) <= MaxWord && consistsOf(s, isSmall)
}

// consistsOf reports whether all of s is allowed.
func consistsOf(s string, allowed func(r rune) bool) bool {
	for _, r := range s {
		if !allowed(r) {
			return false
		}
	}
	return true
}

// lettersWith returns the small letters that are wanted, in ascending order.
func lettersWith(wanted func(letter string) bool) string {
	var letters strings.Builder
	for _, letter := range smallLetters {
		if wanted(string(letter)) {
			letters.WriteRune(letter)
		}
	}
	return letters.String()
}

func isSmall(r rune) bool {
	return 'a' <= r && r <= 'z'
}

func isDigit(r rune) bool {
	return '0' <= r && r <= '9'
}

func isSeparator(r rune) bool {
	return r == ' '
}
