package lex_test

import (
	"math"
	"math/rand"
	"regexp"
	"slices"
	"strconv"
	"strings"
	"testing"
	"unsafe"

	"waybill/api"
	"waybill/lex"
)

// The limits, written out: the tests hold the document's numbers, not the program's.
const (
	mostText  = 65536
	mostName  = 32
	mostLines = 65536
)

const allSigns = "{}()[];:,=?"

var (
	between  = regexp.MustCompile(`^(?:[\x20\x09\x0d]|\x0a|#[^\x0a]*)+`)
	someWord = regexp.MustCompile(`^[a-zA-Z][a-zA-Z0-9_]*`)
	someNum  = regexp.MustCompile(`^[0-9]+`)
	goodWord = regexp.MustCompile(`^[a-zA-Z][a-zA-Z0-9_]{0,31}$`)
	goodNum  = regexp.MustCompile(`^(?:0|[1-9][0-9]{0,8})$`)
	goodSign = regexp.MustCompile(`^[{}()\[\];:,=?]$`)
	joined   = regexp.MustCompile(`^[a-zA-Z_]`)
)

// slowTokens is Tokens by the words of the chapter, for texts of ASCII.
func slowTokens(s string) ([]api.Token, int, api.Errno) {
	if len(s) > mostText {
		return nil, 0, api.ErrLong
	}
	var l []api.Token
	for at := 0; at < len(s); {
		rest, line := s[at:], 1+strings.Count(s[:at], "\n")
		if gap := between.FindString(rest); gap != "" {
			at += len(gap)
			continue
		}
		t := api.Token{Line: line}
		switch {
		case someWord.MatchString(rest):
			t.Kind, t.Text = 1, someWord.FindString(rest)
			if len(t.Text) > mostName {
				return nil, line, api.ErrName
			}
		case someNum.MatchString(rest):
			t.Kind, t.Text = 2, someNum.FindString(rest)
			if !goodNum.MatchString(t.Text) || joined.MatchString(rest[len(t.Text):]) {
				return nil, line, api.ErrRange
			}
		case strings.Contains(allSigns, rest[:1]):
			t.Kind, t.Text = 3, rest[:1]
		default:
			return nil, line, api.ErrToken
		}
		l = append(l, t)
		at += len(t.Text)
	}
	return l, 0, api.OK
}

// slowCheck is Check by the words of the chapter.
func slowCheck(t api.Token) api.Errno {
	forms := map[int]*regexp.Regexp{1: goodWord, 2: goodNum, 3: goodSign}
	form, ok := forms[t.Kind]
	switch {
	case !ok:
		return api.ErrKind
	case !form.MatchString(t.Text):
		return api.ErrToken
	case t.Line < 1:
		return api.ErrRange
	}
	return api.OK
}

func tok(kind int, text string, line int) api.Token {
	return api.Token{Kind: kind, Text: text, Line: line}
}

// quoted keeps long texts out of what a failed test tells.
func quoted(s string) string {
	if len(s) > 80 {
		return strconv.Quote(s[:40]) + ".." + strconv.Quote(s[len(s)-40:])
	}
	return strconv.Quote(s)
}

func wantTokens(t *testing.T, promise string, s string, l []api.Token, line int, e api.Errno) {
	t.Helper()
	got, at, fault := lex.Tokens(s)
	if !slices.Equal(got, l) || at != line || fault != e {
		t.Errorf("%s: Tokens(%s): %d tokens, line %d, error %d; want %d, %d, %d", promise, quoted(s), len(got), at, fault, len(l), line, e)
	}
}

func TestTokens(t *testing.T) {
	wantTokens(t, "P4.1", "a = 12; # x", []api.Token{tok(1, "a", 1), tok(3, "=", 1), tok(2, "12", 1), tok(3, ";", 1)}, 0, api.OK)
	for _, c := range []struct {
		s string
		l []api.Token
	}{
		{"", nil},
		{" \t\r\n", nil},
		{"#", nil},
		{"# a 01 $ \x00\xff", nil},
		{"#\n#\n", nil},
		{"a", []api.Token{tok(1, "a", 1)}},
		{"Z_9__z0", []api.Token{tok(1, "Z_9__z0", 1)}},
		{"a b", []api.Token{tok(1, "a", 1), tok(1, "b", 1)}},
		{"\ta\rb\r", []api.Token{tok(1, "a", 1), tok(1, "b", 1)}},
		{"a\r\nb", []api.Token{tok(1, "a", 1), tok(1, "b", 2)}},
		{"\n\na\n\n\nb c\n", []api.Token{tok(1, "a", 3), tok(1, "b", 6), tok(1, "c", 6)}},
		{"0", []api.Token{tok(2, "0", 1)}},
		{"0 0;0", []api.Token{tok(2, "0", 1), tok(2, "0", 1), tok(3, ";", 1), tok(2, "0", 1)}},
		{"999999999", []api.Token{tok(2, "999999999", 1)}},
		{"100000000", []api.Token{tok(2, "100000000", 1)}},
		{"a1", []api.Token{tok(1, "a1", 1)}},
		{"a;1", []api.Token{tok(1, "a", 1), tok(3, ";", 1), tok(2, "1", 1)}},
		{"1(a", []api.Token{tok(2, "1", 1), tok(3, "(", 1), tok(1, "a", 1)}},
		{"a#b\nc", []api.Token{tok(1, "a", 1), tok(1, "c", 2)}},
		{"1#b\n2", []api.Token{tok(2, "1", 1), tok(2, "2", 2)}},
		{"a # b # c\rd \n e", []api.Token{tok(1, "a", 1), tok(1, "e", 2)}},
		{"??", []api.Token{tok(3, "?", 1), tok(3, "?", 1)}},
		{"struct P { 1 x : int; }\n", []api.Token{tok(1, "struct", 1), tok(1, "P", 1), tok(3, "{", 1), tok(2, "1", 1), tok(1, "x", 1), tok(3, ":", 1), tok(1, "int", 1), tok(3, ";", 1), tok(3, "}", 1)}},
	} {
		wantTokens(t, "P4.1", c.s, c.l, 0, api.OK)
	}
}

func TestTokensErrors(t *testing.T) {
	long := strings.Repeat("n", mostName+1)
	for _, c := range []struct {
		s    string
		line int
		e    api.Errno
	}{
		{"$", 1, api.ErrToken},
		{"_", 1, api.ErrToken},
		{"_a", 1, api.ErrToken},
		{"a\n b\n  -1", 3, api.ErrToken},
		{"a\x00", 1, api.ErrToken},
		{"a$", 1, api.ErrToken},
		{"1$", 1, api.ErrToken},
		{";_", 1, api.ErrToken},
		{"é", 1, api.ErrToken},
		{"aé", 1, api.ErrToken},
		{"1é", 1, api.ErrToken},
		{"\v", 1, api.ErrToken},
		{"\f", 1, api.ErrToken},
		{"\u00a0", 1, api.ErrToken},
		{"\u2028", 1, api.ErrToken},
		{"# $\n$", 2, api.ErrToken},
		{"\"a\"", 1, api.ErrToken},
		{long, 1, api.ErrName},
		{"a\n" + long, 2, api.ErrName},
		{"a " + strings.Repeat("_9", 16) + "\n", 1, api.ErrToken},
		{"a" + strings.Repeat("_9", 16) + "\n", 1, api.ErrName},
		{long + "$", 1, api.ErrName},
		{"1234567890", 1, api.ErrRange},
		{"0123456789", 1, api.ErrRange},
		{"1000000000", 1, api.ErrRange},
		{strings.Repeat("9", 1000), 1, api.ErrRange},
		{"a\n01", 2, api.ErrRange},
		{"00", 1, api.ErrRange},
		{"000000000", 1, api.ErrRange},
		{"1a", 1, api.ErrRange},
		{"1Z", 1, api.ErrRange},
		{"1_", 1, api.ErrRange},
		{"0x10", 1, api.ErrRange},
		{"0_", 1, api.ErrRange},
		{"12e3", 1, api.ErrRange},
		{"999999999a", 1, api.ErrRange},
		{"1" + long, 1, api.ErrRange},
		{"\n\n\n;\n1_\n", 5, api.ErrRange},
	} {
		wantTokens(t, "P4.1", c.s, nil, c.line, c.e)
		wantTokens(t, "P4.1", "ok = 1;\n"+c.s, nil, c.line+1, c.e)
	}
	// The first fault in the text counts, whatever its kind.
	faults := []string{"$", long, "01", "1a"}
	errnos := []api.Errno{api.ErrToken, api.ErrName, api.ErrRange, api.ErrRange}
	for i, first := range faults {
		for _, next := range faults {
			wantTokens(t, "P4.1", "a\n"+first+"\n"+next, nil, 2, errnos[i])
			wantTokens(t, "P4.1", first+" "+next, nil, 1, errnos[i])
		}
	}
}

func TestTokensLengths(t *testing.T) {
	for size := 1; size <= 2*mostName; size++ {
		for _, s := range []string{strings.Repeat("n", size), "N" + strings.Repeat("_", size-1), "z" + strings.Repeat("9", size-1)} {
			if size <= mostName {
				wantTokens(t, "P4.1", s, []api.Token{tok(1, s, 1)}, 0, api.OK)
			} else {
				wantTokens(t, "P4.1", s, nil, 1, api.ErrName)
			}
		}
		digits := strings.Repeat("9", size)
		if size <= 9 {
			wantTokens(t, "P4.1", digits, []api.Token{tok(2, digits, 1)}, 0, api.OK)
		} else {
			wantTokens(t, "P4.1", digits, nil, 1, api.ErrRange)
		}
	}
}

func TestTokensLong(t *testing.T) {
	full := make([]api.Token, mostText)
	for i := range full {
		full[i] = tok(3, ";", 1)
	}
	wantTokens(t, "P4.1", strings.Repeat(";", mostText), full, 0, api.OK)
	wantTokens(t, "P4.1", strings.Repeat(" ", mostText), nil, 0, api.OK)
	wantTokens(t, "P4.1", strings.Repeat("#", mostText), nil, 0, api.OK)
	wantTokens(t, "P4.1", strings.Repeat("\n", mostText-1)+"a", []api.Token{tok(1, "a", mostText)}, 0, api.OK)
	wantTokens(t, "P4.1", strings.Repeat("\n", mostText-1)+"$", nil, mostText, api.ErrToken)
	for _, one := range []string{";", " ", "#", "\n", "a", "1", "$", "\xff"} {
		for _, size := range []int{mostText + 1, mostText + 2, 2 * mostText, 1 << 20} {
			wantTokens(t, "P4.1", strings.Repeat(one, size), nil, 0, api.ErrLong)
		}
		wantTokens(t, "P4.1", "$"+strings.Repeat(one, mostText), nil, 0, api.ErrLong)
	}
}

// TestTokensOctets: each octet alone, and ahead of and behind each kind of token.
func TestTokensOctets(t *testing.T) {
	for c := range 256 {
		one := string([]byte{byte(c)})
		for _, s := range []string{one, one + "a", one + "1", one + ";", "a" + one, "1" + one, "0" + one, ";" + one, " " + one + " ", "\n" + one, "#" + one + "\n=", "a" + one + "b", "1" + one + "2", one + one} {
			l, line, e := slowOctets(s)
			wantTokens(t, "P4.1", s, l, line, e)
		}
	}
}

// slowOctets is slowTokens for all octets: each one above ASCII stands for an octet of ASCII that is as wrong, as regexp would take several for one.
func slowOctets(s string) ([]api.Token, int, api.Errno) {
	b := []byte(s)
	for i, c := range b {
		if c >= 0x80 {
			b[i] = '$'
		}
	}
	return slowTokens(string(b))
}

// TestTokensAll: every short text of the octets at which something changes.
func TestTokensAll(t *testing.T) {
	const octets = "aZ_09 #\n;$"
	most := 5
	if testing.Short() {
		most = 4
	}
	for size := range most + 1 {
		each(octets, make([]byte, 0, size), size, func(s string) {
			l, line, e := slowTokens(s)
			wantTokens(t, "P4.1", s, l, line, e)
		})
	}
}

func each(octets string, ahead []byte, size int, see func(s string)) {
	if size == 0 {
		see(string(ahead))
		return
	}
	for i := range len(octets) {
		each(octets, append(ahead, octets[i]), size-1, see)
	}
}

// TestTokensAny: texts of pieces that are near the edges.
func TestTokensAny(t *testing.T) {
	pieces := []string{" ", "\t", "\r", "\n", "#", "# x\n", "a", "Zed", "_", "0", "1", "10", "123456789", "1234567890", strings.Repeat("w", 31), strings.Repeat("w", 32), strings.Repeat("w", 33), "{", "}", "(", ")", "[", "]", ";", ":", ",", "=", "?", "$", "\x00", "."}
	r := rand.New(rand.NewSource(4))
	for range 20000 {
		var b strings.Builder
		for range r.Intn(12) {
			b.WriteString(pieces[r.Intn(len(pieces))])
			if r.Intn(2) == 0 {
				b.WriteByte(' ')
			}
		}
		l, line, e := slowTokens(b.String())
		wantTokens(t, "P4.1", b.String(), l, line, e)
	}
}

func TestCheck(t *testing.T) {
	texts := []string{"", " ", "a", "Z", "_", "a_", "_a", "a b", "a ", " a", "a\n", "\na", "a#", "#a", "#", "a;", "0", "1", "9", "00", "01", "10", "1 ", " 1", "1a", "1_", "a1", "-1", "+1", "123456789", "1234567890", "999999999", "0123456789", "000000000", "$", "a$", "1$", ";", ";;", "; ", " ;", "=", "==", "é", "\x00", "\xff", "a\xff", strings.Repeat("w", 31), strings.Repeat("w", 32), strings.Repeat("w", 33), strings.Repeat("w", mostText+1), strings.Repeat("1", mostText+1), strings.Repeat(";", mostText+1)}
	for c := range 128 {
		texts = append(texts, string(rune(c)), "a"+string(rune(c)), "1"+string(rune(c)), ";"+string(rune(c)))
	}
	kinds := []int{math.MinInt, -1, 0, 1, 2, 3, 4, 5, 1 << 32, math.MaxInt}
	lines := []int{math.MinInt, -1, 0, 1, 2, mostLines, mostLines + 1, math.MaxInt}
	for _, text := range texts {
		for _, kind := range kinds {
			for _, line := range lines {
				one := tok(kind, text, line)
				if e := lex.Check(one); e != slowCheck(one) {
					t.Errorf("P4.2: Check of kind %d, %s, line %d: %d, want %d", kind, quoted(text), line, e, slowCheck(one))
				}
			}
		}
	}
	for _, c := range []struct {
		t api.Token
		e api.Errno
	}{
		{tok(1, "a", 1), api.OK},
		{tok(2, "0", 1), api.OK},
		{tok(3, "?", math.MaxInt), api.OK},
		{api.Token{}, api.ErrKind},
		{tok(4, "$", 0), api.ErrKind},
		{tok(1, "1", 0), api.ErrToken},
		{tok(2, "a", 0), api.ErrToken},
		{tok(3, "a", 1), api.ErrToken},
		{tok(1, strings.Repeat("w", 33), 1), api.ErrToken},
		{tok(2, "1234567890", 1), api.ErrToken},
		{tok(1, "a", 0), api.ErrRange},
	} {
		if e := lex.Check(c.t); e != c.e {
			t.Errorf("P4.2: Check of kind %d, %s, line %d: %d, want %d", c.t.Kind, quoted(c.t.Text), c.t.Line, e, c.e)
		}
	}
}

func wantPrint(t *testing.T, l []api.Token, s string, e api.Errno) {
	t.Helper()
	if got, fault := lex.Print(l...); got != s || fault != e {
		t.Errorf("P4.2: Print of %d tokens: %s, error %d; want %s, %d", len(l), quoted(got), fault, quoted(s), e)
	}
}

func TestPrint(t *testing.T) {
	wantPrint(t, nil, "", api.OK)
	wantPrint(t, []api.Token{}, "", api.OK)
	wantPrint(t, []api.Token{tok(1, "a", 1)}, "a\n", api.OK)
	wantPrint(t, []api.Token{tok(1, "a", 2)}, "\na\n", api.OK)
	wantPrint(t, []api.Token{tok(1, "a", 1), tok(3, "=", 1), tok(2, "12", 1), tok(3, ";", 1)}, "a = 12 ;\n", api.OK)
	wantPrint(t, []api.Token{tok(3, ";", 1), tok(3, ";", 2), tok(3, ";", 2), tok(3, ";", 5)}, ";\n; ;\n\n\n;\n", api.OK)
	wantPrint(t, []api.Token{tok(2, "0", 3), tok(1, "b", 3)}, "\n\n0 b\n", api.OK)
}

func TestPrintErrors(t *testing.T) {
	good, none, bad, early := tok(1, "a", 7), tok(0, "a", 7), tok(2, "a", 7), tok(1, "a", 0)
	low, high, highest := tok(3, ";", 6), tok(3, ";", mostLines+1), tok(3, ";", math.MaxInt)
	for i, c := range []struct {
		l []api.Token
		e api.Errno
	}{
		{[]api.Token{none}, api.ErrKind},
		{[]api.Token{bad}, api.ErrToken},
		{[]api.Token{early}, api.ErrRange},
		{[]api.Token{good, none}, api.ErrKind},
		{[]api.Token{good, bad, good}, api.ErrToken},
		{[]api.Token{good, early, good}, api.ErrRange},
		// Of several tokens that Check refuses the first one counts.
		{[]api.Token{bad, none}, api.ErrToken},
		{[]api.Token{early, none, bad}, api.ErrRange},
		{[]api.Token{none, early}, api.ErrKind},
		{[]api.Token{good, low}, api.ErrState},
		{[]api.Token{good, good, low, good}, api.ErrState},
		{[]api.Token{low, good, low}, api.ErrState},
		{[]api.Token{good, low, none}, api.ErrKind},
		{[]api.Token{good, low, bad}, api.ErrToken},
		{[]api.Token{good, low, early}, api.ErrRange},
		{[]api.Token{high}, api.ErrRange},
		{[]api.Token{highest}, api.ErrRange},
		{[]api.Token{good, high}, api.ErrRange},
		{[]api.Token{good, high, highest}, api.ErrRange},
		{[]api.Token{high, good}, api.ErrState},
		{[]api.Token{highest, good}, api.ErrState},
		{[]api.Token{highest, high}, api.ErrState},
		{[]api.Token{highest, none}, api.ErrKind},
		{[]api.Token{tok(3, ";", mostLines)}, api.ErrLong},
		{append(slices.Repeat([]api.Token{good}, mostText), high), api.ErrRange},
		{append(slices.Repeat([]api.Token{good}, mostText), low), api.ErrState},
		{append(slices.Repeat([]api.Token{good}, mostText), none), api.ErrKind},
	} {
		if s, e := lex.Print(c.l...); s != "" || e != c.e {
			t.Errorf("P4.2: Print %d: %s, error %d, want %d", i, quoted(s), e, c.e)
		}
	}
}

func TestPrintLengths(t *testing.T) {
	signs := slices.Repeat([]api.Token{tok(3, ";", 1)}, mostText/2)
	wantPrint(t, signs, strings.Repeat("; ", mostText/2-1)+";\n", api.OK)
	wantPrint(t, append(slices.Clone(signs[1:]), tok(1, "ab", 1)), "", api.ErrLong)
	wantPrint(t, append(slices.Clone(signs), signs[0]), "", api.ErrLong)
	wantPrint(t, append(slices.Clone(signs), tok(3, ";", 2)), "", api.ErrLong)
	wantPrint(t, []api.Token{tok(3, ";", mostText-1)}, strings.Repeat("\n", mostText-2)+";\n", api.OK)
	wantPrint(t, []api.Token{tok(1, "ab", mostText-1)}, "", api.ErrLong)
	wantPrint(t, []api.Token{tok(1, "ab", mostText-2)}, strings.Repeat("\n", mostText-3)+"ab\n", api.OK)
	wantPrint(t, []api.Token{tok(3, ";", mostText)}, "", api.ErrLong)
	wantPrint(t, []api.Token{tok(3, ";", 1), tok(3, ";", mostText-2)}, ";"+strings.Repeat("\n", mostText-3)+";\n", api.OK)
	wantPrint(t, []api.Token{tok(3, ";", 1), tok(3, ";", mostText-1)}, "", api.ErrLong)
}

func TestNumber(t *testing.T) {
	for n := range 100000 {
		if got, e := lex.Number(tok(2, strconv.Itoa(n), 1)); got != n || e != api.OK {
			t.Fatalf("P4.2: Number of %d: %d %d", n, got, e)
		}
	}
	for _, n := range []int{100000, 999999, 1234567, 12345678, 99999999, 100000000, 123456789, 987654321, 999999999} {
		if got, e := lex.Number(tok(2, strconv.Itoa(n), math.MaxInt)); got != n || e != api.OK {
			t.Errorf("P4.2: Number of %d: %d %d", n, got, e)
		}
	}
	for _, c := range []struct {
		t api.Token
		e api.Errno
	}{
		{api.Token{}, api.ErrKind},
		{tok(4, "1", 1), api.ErrKind},
		{tok(-2, "1", 0), api.ErrKind},
		{tok(1, "a", 1), api.ErrKind},
		{tok(3, ";", 1), api.ErrKind},
		{tok(1, "1", 1), api.ErrToken},
		{tok(3, "1", 1), api.ErrToken},
		{tok(1, "a;", 1), api.ErrToken},
		{tok(1, "a", 0), api.ErrRange},
		{tok(3, ";", -1), api.ErrRange},
		{tok(2, "1", 0), api.ErrRange},
		{tok(2, "", 1), api.ErrToken},
		{tok(2, "01", 1), api.ErrToken},
		{tok(2, "1 ", 1), api.ErrToken},
		{tok(2, "-1", 1), api.ErrToken},
		{tok(2, "1a", 0), api.ErrToken},
		{tok(2, "1000000000", 1), api.ErrToken},
	} {
		if n, e := lex.Number(c.t); n != 0 || e != c.e {
			t.Errorf("P4.2: Number of kind %d, %s, line %d: %d %d, want %d", c.t.Kind, quoted(c.t.Text), c.t.Line, n, e, c.e)
		}
	}
}

// someTokens are tokens that may be printed, as r draws them.
func someTokens(r *rand.Rand, count int) []api.Token {
	const letters, rest = "abcxyzABCXYZ", "abcxyzABCXYZ0189_"
	var l []api.Token
	line := 1 + r.Intn(3)
	for range count {
		t := api.Token{Kind: 1 + r.Intn(3), Line: line}
		switch t.Kind {
		case 1:
			t.Text = letters[r.Intn(len(letters)):][:1]
			for range r.Intn(mostName) {
				t.Text += rest[r.Intn(len(rest)):][:1]
			}
		case 2:
			t.Text = strconv.Itoa(r.Intn(int(math.Pow10(r.Intn(10)))))
		case 3:
			t.Text = allSigns[r.Intn(len(allSigns)):][:1]
		}
		l = append(l, t)
		if r.Intn(4) == 0 {
			line += r.Intn(5)
		}
	}
	return l
}

func TestTokensOfPrint(t *testing.T) {
	r := rand.New(rand.NewSource(3))
	for i := range 3000 {
		l := someTokens(r, i%40)
		s, e := lex.Print(l...)
		if e != api.OK {
			t.Fatalf("P4.3: Print of %d tokens: error %d", len(l), e)
		}
		wantTokens(t, "P4.3", s, l, 0, api.OK)
	}
	for _, l := range [][]api.Token{
		nil,
		{tok(3, ";", mostText-1)},
		slices.Repeat([]api.Token{tok(3, "?", 1)}, mostText/2),
		{tok(1, strings.Repeat("w", mostName), 1), tok(2, "999999999", 1), tok(2, "0", 1), tok(1, "w", 1)},
	} {
		s, e := lex.Print(l...)
		if e != api.OK {
			t.Errorf("P4.3: Print of %d tokens: error %d", len(l), e)
		}
		wantTokens(t, "P4.3", s, l, 0, api.OK)
	}
}

// TestPrintOfTokens: what Tokens answers may be printed, if it is not too long by that, and comes back.
func TestPrintOfTokens(t *testing.T) {
	for _, s := range []string{"", "\n\n", "a=12;#x", "struct P{1 x:int;}\n\n#\nservice S{get(P):P;}", "a\r\n\tb"} {
		l, _, e := lex.Tokens(s)
		if e != api.OK {
			t.Fatalf("P4.1: Tokens(%s): error %d", quoted(s), e)
		}
		back, e := lex.Print(l...)
		if e != api.OK {
			t.Errorf("P4.2: Print of the tokens of %s: error %d", quoted(s), e)
		}
		wantTokens(t, "P4.3", back, l, 0, api.OK)
	}
}

// TestGaps: the same tokens with other blanks, remarks and newlines between them.
func TestGaps(t *testing.T) {
	quiet := []string{" ", "\t", "\r", "  ", " \t\r ", "\r\t"}
	gaps := []string{"\n", "#\n", " # a 01 $ é \x00 #\n", "\r\n", "#;\r\n\n\t", "\n\n#\n\n"}
	r := rand.New(rand.NewSource(44))
	for i := range 3000 {
		l := someTokens(r, i%30)
		for j := range l {
			l[j].Line = 1
		}
		var flat, tall strings.Builder
		moved := slices.Clone(l)
		line := 1
		for j, one := range l {
			flat.WriteString(quiet[r.Intn(len(quiet))])
			flat.WriteString(one.Text)
			gap := gaps[r.Intn(len(gaps))]
			line += strings.Count(gap, "\n")
			tall.WriteString(gap)
			tall.WriteString(one.Text)
			moved[j].Line = line
		}
		flat.WriteString(quiet[r.Intn(len(quiet))] + "# the end")
		tall.WriteString(gaps[r.Intn(len(gaps))])
		wantTokens(t, "P4.4", flat.String(), l, 0, api.OK)
		wantTokens(t, "P4.4", tall.String(), moved, 0, api.OK)
	}
}

// TestRemarks: a remark of any octets but a newline is as none.
func TestRemarks(t *testing.T) {
	want := []api.Token{tok(1, "a", 1), tok(2, "1", 2)}
	for c := range 256 {
		if c == '\n' {
			continue
		}
		one := string([]byte{byte(c)})
		wantTokens(t, "P4.4", "a#"+one+"\n1", want, 0, api.OK)
		wantTokens(t, "P4.4", "a #"+one+one+"#\n1 #"+one, want, 0, api.OK)
	}
	wantTokens(t, "P4.4", "a#\n#\n1", []api.Token{tok(1, "a", 1), tok(2, "1", 3)}, 0, api.OK)
	wantTokens(t, "P4.4", "# a\n01", nil, 2, api.ErrRange)
	wantTokens(t, "P4.4", "1# a", []api.Token{tok(2, "1", 1)}, 0, api.OK)
	// No word and no number goes on behind what stands between tokens.
	for _, gap := range []string{" ", "\t", "\r"} {
		wantTokens(t, "P4.4", "1"+gap+"a", []api.Token{tok(2, "1", 1), tok(1, "a", 1)}, 0, api.OK)
		wantTokens(t, "P4.4", "0"+gap+"1", []api.Token{tok(2, "0", 1), tok(2, "1", 1)}, 0, api.OK)
		wantTokens(t, "P4.4", "a"+gap+"_", nil, 1, api.ErrToken)
	}
}

// room is where in memory the octets of a text stand.
func room(s string) (uintptr, uintptr) {
	start := uintptr(unsafe.Pointer(unsafe.StringData(s)))
	return start, start + uintptr(len(s))
}

func apart(a string, b string) bool {
	aStart, aEnd := room(a)
	bStart, bEnd := room(b)
	return aEnd <= bStart || bEnd <= aStart
}

func TestMemory(t *testing.T) {
	s := strings.Clone("word other = 12345 ; other { word } # remark")
	l, _, e := lex.Tokens(s)
	if e != api.OK || len(l) != 9 {
		t.Fatalf("P4.1: Tokens: %d tokens, error %d", len(l), e)
	}
	again, _, _ := lex.Tokens(s)
	for i, one := range l {
		// A text of one octet may be one that the language keeps: nobody can write there.
		if len(one.Text) == 1 {
			continue
		}
		if !apart(one.Text, s) {
			t.Errorf("P4.5: the text of token %d shares memory with the argument", i)
		}
		for j, other := range l {
			if i != j && len(other.Text) > 1 && !apart(one.Text, other.Text) {
				t.Errorf("P4.5: the texts of tokens %d and %d share memory", i, j)
			}
		}
		if !apart(one.Text, again[i].Text) {
			t.Errorf("P4.5: the text of token %d shares memory with another answer", i)
		}
	}
	kept := slices.Clone(l)
	clear(again)
	if !slices.Equal(l, kept) {
		t.Error("P4.5: two answers share memory")
	}
	if third, _, _ := lex.Tokens(s); !slices.Equal(third, kept) {
		t.Error("P4.5: an answer is kept")
	}
}

func TestArguments(t *testing.T) {
	l := append(make([]api.Token, 0, 8), tok(1, "word", 1), tok(3, "=", 2), tok(2, "12", 2))
	full := l[:cap(l)]
	kept := slices.Clone(full)
	s, e := lex.Print(l...)
	if s != "word\n= 12\n" || e != api.OK {
		t.Errorf("P4.2: Print: %s, error %d", quoted(s), e)
	}
	if !slices.Equal(full, kept) {
		t.Error("P4.5: Print changes what is handed in")
	}
	if !apart(s, l[0].Text) {
		t.Error("P4.5: Print's answer shares memory with an argument")
	}
	if other, _ := lex.Print(l...); other != s || !apart(s, other) {
		t.Error("P4.5: two of Print's answers share memory, or are not alike")
	}
	clear(full)
	if s != "word\n= 12\n" {
		t.Error("P4.5: Print's answer changes with what was handed in")
	}
}

func FuzzTokens(f *testing.F) {
	for _, s := range []string{"a = 12; # x", "a\n01", "1_", "$", "", "#", strings.Repeat("w", 33), "0123456789", "é", "{}()[];:,=?"} {
		f.Add(s)
	}
	f.Fuzz(func(t *testing.T, s string) {
		l, line, e := slowOctets(s)
		wantTokens(t, "P4.1", s, l, line, e)
		for i, one := range l {
			if e := lex.Check(one); e != api.OK {
				t.Errorf("P4.2: Check of token %d of %s: error %d", i, quoted(s), e)
			}
		}
		text, e := lex.Print(l...)
		if e == api.OK {
			wantTokens(t, "P4.3", text, l, 0, api.OK)
		}
	})
}
