package parse_test

import (
	"math"
	"math/rand"
	"reflect"
	"slices"
	"strconv"
	"strings"
	"testing"
	"unsafe"

	"waybill/api"
	"waybill/lex"
	"waybill/parse"
)

// The limits, written out: the tests hold the document's numbers, not the program's.
const (
	mostText   = 65536
	mostDecls  = 64
	mostParts  = 32
	mostDepth  = 8
	mostNumber = 999999999
)

var (
	plain    = []string{"bool", "int", "uint", "text", "bytes"}
	grammar  = []string{"struct", "enum", "service", "once", "read"}
	reserved = slices.Concat(plain, grammar)
	strange  = []string{"", "1", "1a", "_a", "a b", " a", "a ", "a\n", "a#", "a-b", "a.b", "é", "aé", "a\x00", "\xff", "[", "?", "{", ";", "#", strings.Repeat("a", 33)}
	goodName = []string{"a", "Z", "x_1", "a__", "Int", "ints", "int1", "bool_", "structs", "reads", "oncE", strings.Repeat("Q", 32)}
)

// slow is a grammar's stack, and what was counted on the way: the fault of a list of tokens by the words of the chapter.
type slow struct {
	stack               []string
	decls, parts, depth int
}

// produce answers what stands for the symbol if the text comes next, and if the text may come.
func (s *slow) produce(symbol, text string, kind int) ([]string, bool) {
	isName := kind == 1 && !slices.Contains(reserved, text)
	switch {
	case symbol == "NAME":
		return nil, isName
	case symbol == "NUMBER":
		return nil, kind == 2
	case symbol == "DECLS" && text == "struct":
		return []string{"struct", "NAME", "{", "FIELDS", "}", "DECLS"}, true
	case symbol == "DECLS" && text == "enum":
		return []string{"enum", "NAME", "{", "CASES", "}", "DECLS"}, true
	case symbol == "DECLS" && text == "service":
		return []string{"service", "NAME", "{", "METHODS", "}", "DECLS"}, true
	case symbol == "FIELDS" && kind == 2:
		return []string{"NUMBER", "NAME", ":", "TYPE", ";", "FIELDS"}, true
	case symbol == "CASES" && kind == 2:
		return []string{"NUMBER", "NAME", ";", "CASES"}, true
	case symbol == "METHODS" && (text == "once" || text == "read"):
		return []string{text, "NAME", "(", "TYPE", ")", "TYPE", ";", "METHODS"}, true
	case symbol == "TYPE" && text == "[":
		return []string{"[", "DEEPER", "TYPE", "HIGHER", "]"}, true
	case symbol == "TYPE" && text == "?":
		return []string{"?", "DEEPER", "TYPE", "HIGHER"}, true
	case symbol == "TYPE" && (isName || slices.Contains(plain, text)):
		return []string{text}, true
	case symbol == "FIELDS" || symbol == "CASES" || symbol == "METHODS":
		return nil, text == "}"
	}
	return nil, symbol == text
}

// tooMany counts what a symbol stands for.
func (s *slow) tooMany(symbol, text string) api.Errno {
	switch {
	case symbol == "DECLS":
		s.decls++
		s.parts = 0
	case (symbol == "FIELDS" || symbol == "CASES" || symbol == "METHODS") && text != "}":
		s.parts++
	case symbol == "TYPE" && s.depth+1 > mostDepth:
		return api.ErrDepth
	}
	if s.decls > mostDecls || s.parts > mostParts {
		return api.ErrCount
	}
	return api.OK
}

func slowFault(l []api.Token) (int, api.Errno) {
	for _, t := range l {
		if e := lex.Check(t); e != api.OK {
			return t.Line, e
		}
	}
	s := slow{stack: []string{"DECLS"}}
	for at := 0; ; {
		top := s.stack[len(s.stack)-1]
		switch {
		case top == "DEEPER":
			s.depth++
			s.stack = s.stack[:len(s.stack)-1]
			continue
		case top == "HIGHER":
			s.depth--
			s.stack = s.stack[:len(s.stack)-1]
			continue
		case at == len(l) && top == "DECLS":
			return 0, api.OK
		case at == len(l):
			return l[at-1].Line, api.ErrShort
		}
		t := l[at]
		more, ok := s.produce(top, t.Text, t.Kind)
		if !ok {
			return t.Line, api.ErrSyntax
		}
		if e := s.tooMany(top, t.Text); e != api.OK {
			return t.Line, e
		}
		s.stack = s.stack[:len(s.stack)-1]
		for _, symbol := range slices.Backward(more) {
			s.stack = append(s.stack, symbol)
		}
		if more == nil && !(t.Text == "}" && top != "}") {
			at++
		}
	}
}

// slowType is the text of a type that may be.
func slowType(t api.Type) string {
	switch t.Kind {
	case 6:
		return "[" + slowType(t.Of[0]) + "]"
	case 7:
		return "?" + slowType(t.Of[0])
	case 8:
		return t.Name
	}
	return plain[t.Kind-1]
}

// slowPrint is the text of a schema that may be.
func slowPrint(s api.Schema) string {
	var l []string
	for _, x := range s.Structs {
		l = append(l, "struct "+x.Name+" {")
		for _, f := range x.Fields {
			l = append(l, "\t"+strconv.Itoa(f.Number)+" "+f.Name+": "+slowType(f.Type)+";")
		}
		l = append(l, "}")
	}
	for _, x := range s.Enums {
		l = append(l, "enum "+x.Name+" {")
		for _, c := range x.Cases {
			l = append(l, "\t"+strconv.Itoa(c.Number)+" "+c.Name+";")
		}
		l = append(l, "}")
	}
	for _, x := range s.Services {
		l = append(l, "service "+x.Name+" {")
		for _, m := range x.Methods {
			mark := map[bool]string{true: "once", false: "read"}[m.Once]
			l = append(l, "\t"+mark+" "+m.Name+"("+slowType(m.Arg)+") "+slowType(m.Result)+";")
		}
		l = append(l, "}")
	}
	return strings.Join(append(l, ""), "\n")
}

func of(kind int, t api.Type) api.Type {
	return api.Type{Kind: kind, Of: []api.Type{t}}
}

func plainType(kind int) api.Type {
	return api.Type{Kind: kind}
}

func byName(name string) api.Type {
	return api.Type{Kind: 8, Name: name}
}

// nested is a type that is deep levels deep.
func nested(deep int) api.Type {
	t := plainType(2)
	for i := 1; i < deep; i++ {
		t = of(6+i%2, t)
	}
	return t
}

func randName(r *rand.Rand) string {
	if r.Intn(3) == 0 {
		return goodName[r.Intn(len(goodName))]
	}
	const firsts = "abcdefghijklmnopqrstuvwxyzABCDEFGHIJKLMNOPQRSTUVWXYZ"
	name := []byte{firsts[r.Intn(len(firsts))]}
	for range r.Intn(4) {
		name = append(name, (firsts + "0123456789_")[r.Intn(len(firsts)+11)])
	}
	if slices.Contains(reserved, string(name)) {
		return "x"
	}
	return string(name)
}

func randNumber(r *rand.Rand) int {
	edges := []int{0, 1, 9, 10, 65536, 65537, mostNumber}
	if r.Intn(2) == 0 {
		return edges[r.Intn(len(edges))]
	}
	return r.Intn(mostNumber + 1)
}

func randType(r *rand.Rand, deep int) api.Type {
	switch n := 1 + r.Intn(10); {
	case n >= 9 || n >= 6 && deep == mostDepth:
		return byName(randName(r))
	case n >= 6 && n <= 8:
		return of(6+n%2, randType(r, deep+1))
	default:
		return plainType(n)
	}
}

// randSchema is a schema that may be, of up to most declarations and parts.
func randSchema(r *rand.Rand, most int) api.Schema {
	var s api.Schema
	for range r.Intn(most + 1) {
		x := api.Struct{Name: randName(r)}
		for range r.Intn(most + 1) {
			x.Fields = append(x.Fields, api.Field{Name: randName(r), Number: randNumber(r), Type: randType(r, 1)})
		}
		s.Structs = append(s.Structs, x)
	}
	for range r.Intn(most + 1) {
		x := api.Enum{Name: randName(r)}
		for range r.Intn(most + 1) {
			x.Cases = append(x.Cases, api.Case{Name: randName(r), Number: randNumber(r)})
		}
		s.Enums = append(s.Enums, x)
	}
	for range r.Intn(most + 1) {
		x := api.Service{Name: randName(r)}
		for range r.Intn(most + 1) {
			x.Methods = append(x.Methods, api.Method{Name: randName(r), Once: r.Intn(2) == 0, Arg: randType(r, 1), Result: randType(r, 1)})
		}
		s.Services = append(s.Services, x)
	}
	return s
}

// tokens are a text's, one a line, from line 3 on, two lines apart: so that each line tells one token.
func tokens(t *testing.T, text string) []api.Token {
	t.Helper()
	l, _, e := lex.Tokens(text)
	if e != api.OK {
		t.Fatal("no tokens:", text)
	}
	for i := range l {
		l[i].Line = 3 + 2*i
	}
	return l
}

// quoted keeps long texts out of what a failed test tells.
func quoted(s string) string {
	if len(s) > 200 {
		return strconv.Quote(s[:100]) + ".." + strconv.Quote(s[len(s)-100:])
	}
	return strconv.Quote(s)
}

func texts(l []api.Token) string {
	var out []string
	for _, t := range l {
		out = append(out, t.Text)
	}
	return quoted(strings.Join(out, " "))
}

func wantParse(t *testing.T, promise string, l []api.Token, s api.Schema, line int, e api.Errno) {
	t.Helper()
	got, at, fault := parse.Parse(l)
	if !reflect.DeepEqual(got, s) || at != line || fault != e {
		t.Errorf("%s: Parse(%s): %v, line %d, error %d; want %v, %d, %d", promise, texts(l), got, at, fault, s, line, e)
	}
}

func wantText(t *testing.T, promise string, text string, s api.Schema, line int, e api.Errno) {
	t.Helper()
	got, at, fault := parse.Text(text)
	if !reflect.DeepEqual(got, s) || at != line || fault != e {
		t.Errorf("%s: Text(%s): %v, line %d, error %d; want %v, %d, %d", promise, quoted(text), got, at, fault, s, line, e)
	}
}

func wantFault(t *testing.T, promise string, l []api.Token) {
	t.Helper()
	line, e := slowFault(l)
	got, at, fault := parse.Parse(l)
	if at != line || fault != e {
		t.Errorf("%s: Parse(%s): line %d, error %d; want %d, %d", promise, texts(l), at, fault, line, e)
	}
	if e != api.OK && !reflect.DeepEqual(got, api.Schema{}) {
		t.Errorf("%s: Parse(%s): %v beside an error", promise, texts(l), got)
	}
}

func wantPrint(t *testing.T, promise string, s api.Schema, text string, e api.Errno) {
	t.Helper()
	got, fault := parse.Print(s)
	if got != text || fault != e {
		t.Errorf("%s: Print: %s, error %d; want %s, %d", promise, quoted(got), fault, quoted(text), e)
	}
}

func wantShape(t *testing.T, x api.Type, e api.Errno) {
	t.Helper()
	if got := parse.Shape(x); got != e {
		t.Errorf("P5.2: Shape(%v): %d, want %d", x, got, e)
	}
}

// whole has all that the grammar has.
const whole = `service S { once a ( int ) bool ; read b ( [ P ] ) ? E ; }
enum E { 0 none ; 7 some ; }
struct P { 1 x : int ; 2 y : ? text ; 3 z : [ ? [ bytes ] ] ; }
enum F { } struct Q { } service T { }
struct R { 0 only : uint ; }
`

func wholeSchema() api.Schema {
	return api.Schema{
		Structs: []api.Struct{
			{Name: "P", Fields: []api.Field{
				{Name: "x", Number: 1, Type: plainType(2)},
				{Name: "y", Number: 2, Type: of(7, plainType(4))},
				{Name: "z", Number: 3, Type: of(6, of(7, of(6, plainType(5))))},
			}},
			{Name: "Q"},
			{Name: "R", Fields: []api.Field{{Name: "only", Type: plainType(3)}}},
		},
		Enums: []api.Enum{
			{Name: "E", Cases: []api.Case{{Name: "none"}, {Name: "some", Number: 7}}},
			{Name: "F"},
		},
		Services: []api.Service{
			{Name: "S", Methods: []api.Method{
				{Name: "a", Once: true, Arg: plainType(2), Result: plainType(1)},
				{Name: "b", Arg: of(6, byName("P")), Result: of(7, byName("E"))},
			}},
			{Name: "T"},
		},
	}
}

func TestText(t *testing.T) {
	one := api.Schema{Structs: []api.Struct{{Name: "P", Fields: []api.Field{{Name: "x", Number: 1, Type: plainType(2)}}}}}
	wantText(t, "P5.1", "struct P { 1 x : int ; }", one, 0, api.OK)
	wantText(t, "P5.1", "struct P{1 x:int;}", one, 0, api.OK)
	wantText(t, "P5.1", "# of P\nstruct P {\r\n\t1 x # its x\n:\n\nint;}\n#", one, 0, api.OK)
	wantText(t, "P5.1", whole, wholeSchema(), 0, api.OK)
	for _, s := range []string{"", " ", "\n\n", "# struct"} {
		wantText(t, "P5.1", s, api.Schema{}, 0, api.OK)
	}
	wantParse(t, "P5.1", nil, api.Schema{}, 0, api.OK)
	wantParse(t, "P5.1", []api.Token{}, api.Schema{}, 0, api.OK)
	wantParse(t, "P5.1", tokens(t, whole), wholeSchema(), 0, api.OK)
}

func TestTextTellsLines(t *testing.T) {
	for _, c := range []struct {
		s    string
		line int
		e    api.Errno
	}{
		{"struct P {\n1 x", 2, api.ErrShort},
		{"struct P {\n1 x\n\n# no more\n", 2, api.ErrShort},
		{"struct", 1, api.ErrShort},
		{"\n\nstruct P {\n}\n}", 5, api.ErrSyntax},
		{"\n\nP", 3, api.ErrSyntax},
		{"struct P {\n1 x : int\n}", 3, api.ErrSyntax},
		{"struct P { 1 x :\n[[[[[[[[int]]]]]]]]; }", 2, api.ErrDepth},
		{"struct P {\n1 x = int; }", 2, api.ErrSyntax},
		{"struct P { once x (int) int; }", 1, api.ErrSyntax},
		{"enum P { 1 x : int; }", 1, api.ErrSyntax},
		{"service P { 1 x; }", 1, api.ErrSyntax},
		{"service P { once x () int; }", 1, api.ErrSyntax},
		{"service P { once x (int); }", 1, api.ErrSyntax},
		{"service P { once x (int, int) int; }", 1, api.ErrSyntax},
		{"struct P { 1 x : [int, int]; }", 1, api.ErrSyntax},
		{"struct P { 1 x : []; }", 1, api.ErrSyntax},
		{"struct P { 1 x : int?; }", 1, api.ErrSyntax},
		{"struct P, Q { }", 1, api.ErrSyntax},
		{"Struct P { }", 1, api.ErrSyntax},
	} {
		wantText(t, "P5.1", c.s, api.Schema{}, c.line, c.e)
	}
}

// TestTextTellsLex: the faults of lex count ahead of all others, wherever they are.
func TestTextTellsLex(t *testing.T) {
	wantText(t, "P5.1", "}\n\n$", api.Schema{}, 3, api.ErrToken)
	wantText(t, "P5.1", "struct P {\n"+strings.Repeat("a", 33), api.Schema{}, 2, api.ErrName)
	wantText(t, "P5.1", "struct P {\n01 x : int; }", api.Schema{}, 2, api.ErrRange)
	wantText(t, "P5.1", "struct P {\n1000000000 x : int; }", api.Schema{}, 2, api.ErrRange)
	one := "struct P { }"
	wantText(t, "P5.1", one+strings.Repeat("\n", mostText-len(one)), api.Schema{Structs: []api.Struct{{Name: "P"}}}, 0, api.OK)
	wantText(t, "P5.1", one+strings.Repeat("\n", mostText-len(one)+1), api.Schema{}, 0, api.ErrLong)
	wantText(t, "P5.1", "}"+strings.Repeat("\n", mostText), api.Schema{}, 0, api.ErrLong)
}

// TestParseTellsTokens: a token that may not be counts ahead of all that the grammar refuses, the first of them alone.
func TestParseTellsTokens(t *testing.T) {
	bad := []struct {
		t api.Token
		e api.Errno
	}{
		{api.Token{Kind: 0, Text: "a", Line: 9}, api.ErrKind},
		{api.Token{Kind: 4, Text: "a", Line: -9}, api.ErrKind},
		{api.Token{Kind: math.MinInt, Text: "a", Line: 0}, api.ErrKind},
		{api.Token{Kind: 1, Text: "", Line: 8}, api.ErrToken},
		{api.Token{Kind: 2, Text: "a", Line: math.MaxInt}, api.ErrToken},
		{api.Token{Kind: 1, Text: "{", Line: -8}, api.ErrToken},
		{api.Token{Kind: 3, Text: "struct", Line: 8}, api.ErrToken},
		{api.Token{Kind: 1, Text: strings.Repeat("a", 33), Line: 5}, api.ErrToken},
		{api.Token{Kind: 2, Text: "1000000000", Line: 5}, api.ErrToken},
		{api.Token{Kind: 1, Text: "a", Line: 0}, api.ErrRange},
		{api.Token{Kind: 3, Text: "}", Line: math.MinInt}, api.ErrRange},
	}
	l := tokens(t, whole)
	for _, b := range bad {
		wantParse(t, "P5.1", []api.Token{b.t}, api.Schema{}, b.t.Line, b.e)
		for i := range l {
			wantParse(t, "P5.1", slices.Concat(l[:i], []api.Token{b.t}, l[i+1:]), api.Schema{}, b.t.Line, b.e)
		}
		for _, other := range bad {
			wantParse(t, "P5.1", []api.Token{{Kind: 3, Text: "}", Line: 1}, b.t, other.t}, api.Schema{}, b.t.Line, b.e)
		}
		wantParse(t, "P5.1", append(slices.Clone(l), b.t), api.Schema{}, b.t.Line, b.e)
	}
}

// TestParseTakesAnyLines: the lines of tokens need not rise.
func TestParseTakesAnyLines(t *testing.T) {
	l := tokens(t, whole)
	for _, line := range []func(i int) int{
		func(i int) int { return 1 },
		func(i int) int { return 1 + len(l) - i },
		func(i int) int { return math.MaxInt - i%3 },
	} {
		for i := range l {
			l[i].Line = line(i)
		}
		wantParse(t, "P5.1", l, wholeSchema(), 0, api.OK)
		for i := range l {
			wantFault(t, "P5.1", l[:i])
			wantFault(t, "P5.1", l[i:])
		}
	}
}

// TestParseAtEachPlace: whatever ends, is left out, is put in or stands for another token.
func TestParseAtEachPlace(t *testing.T) {
	deep := "struct D { 1 d : [ [ ? [ ? ? ? D ] ] ] ; 2 e : [ int ] ; } service M { once m ( ? ? ? ? ? ? ? int ) [ [ [ [ [ [ [ N ] ] ] ] ] ] ] ; }"
	others := strings.Fields("{ } ( ) [ ] ; : , = ? 0 1 999999999 a Z9 bool int uint text bytes struct enum service once read")
	for _, text := range []string{whole, deep} {
		l := tokens(t, text)
		wantFault(t, "P5.1", l)
		for i := range len(l) + 1 {
			wantFault(t, "P5.1", l[:i])
			if i < len(l) {
				wantFault(t, "P5.1", slices.Delete(slices.Clone(l), i, i+1))
			}
			for _, text := range others {
				x := tokens(t, text)
				x[0].Line = 2 + 2*i
				wantFault(t, "P5.1", slices.Insert(slices.Clone(l), i, x[0]))
				wantFault(t, "P5.1", slices.Concat(l[:i], x))
				if i < len(l) {
					wantFault(t, "P5.1", slices.Concat(l[:i], x, l[i+1:]))
				}
			}
		}
	}
}

// TestParseShortLists: all lists of a few tokens, behind the beginnings of all declarations.
func TestParseShortLists(t *testing.T) {
	others := strings.Fields("{ } ( ) [ ] ; : = ? 7 a int struct once")
	for _, text := range []string{"", "struct P", "struct P { 1 x", "enum E {", "enum E { 1", "service S {", "service S { read a ( int"} {
		wantFault(t, "P5.1", tokens(t, text))
		for n := range len(others) * len(others) * len(others) {
			var more []string
			for range 3 {
				more = append(more, others[n%len(others)])
				n /= len(others)
			}
			wantFault(t, "P5.1", tokens(t, text+" "+strings.Join(more, " ")))
		}
	}
}

// TestParseNames: the grammar's words are no names, at each place of a name, and words like them are.
func TestParseNames(t *testing.T) {
	declare := []string{
		"struct NAME { }",
		"enum NAME { }",
		"service NAME { }",
		"struct P { 1 NAME : int ; }",
		"enum P { 1 NAME ; }",
		"service P { once NAME ( int ) int ; }",
		"service P { read NAME ( int ) int ; }",
	}
	uses := []string{
		"struct P { 1 a : NAME ; }",
		"struct P { 1 a : [ ? NAME ] ; }",
		"service P { once a ( NAME ) int ; }",
		"service P { once a ( int ) NAME ; }",
	}
	for _, text := range slices.Concat(declare, uses) {
		at := slices.Index(strings.Fields(text), "NAME")
		for _, name := range goodName {
			if _, _, e := parse.Text(strings.Replace(text, "NAME", name, 1)); e != api.OK {
				t.Errorf("P5.1: %s of %s: %d", name, text, e)
			}
		}
		for _, name := range reserved {
			l := tokens(t, strings.Replace(text, "NAME", name, 1))
			if slices.Contains(uses, text) && slices.Contains(plain, name) {
				wantFault(t, "P5.1", l)
				continue
			}
			wantParse(t, "P5.1", l, api.Schema{}, l[at].Line, api.ErrSyntax)
		}
	}
}

func TestParseTypes(t *testing.T) {
	for text, want := range map[string]api.Type{
		"bool": plainType(1), "int": plainType(2), "uint": plainType(3), "text": plainType(4), "bytes": plainType(5),
		"[ int ]": of(6, plainType(2)), "? int": of(7, plainType(2)), "P": byName("P"), "[ P ]": of(6, byName("P")),
		"? [ ? text ]": of(7, of(6, of(7, plainType(4)))), "[ [ bool ] ]": of(6, of(6, plainType(1))), "? ? Bool": of(7, of(7, byName("Bool"))),
	} {
		other := plainType(1)
		wantText(t, "P5.1", "struct P { 1 x : "+text+" ; }", api.Schema{Structs: []api.Struct{{Name: "P", Fields: []api.Field{{Name: "x", Number: 1, Type: want}}}}}, 0, api.OK)
		wantText(t, "P5.1", "service P { once x ( "+text+" ) bool ; }", api.Schema{Services: []api.Service{{Name: "P", Methods: []api.Method{{Name: "x", Once: true, Arg: want, Result: other}}}}}, 0, api.OK)
		wantText(t, "P5.1", "service P { read x ( bool ) "+text+" ; }", api.Schema{Services: []api.Service{{Name: "P", Methods: []api.Method{{Name: "x", Arg: other, Result: want}}}}}, 0, api.OK)
	}
	for _, n := range []int{0, 1, 10, 65536, 65537, mostNumber} {
		text := strconv.Itoa(n)
		wantText(t, "P5.1", "struct P { "+text+" x : int ; }", api.Schema{Structs: []api.Struct{{Name: "P", Fields: []api.Field{{Name: "x", Number: n, Type: plainType(2)}}}}}, 0, api.OK)
		wantText(t, "P5.1", "enum P { "+text+" x ; }", api.Schema{Enums: []api.Enum{{Name: "P", Cases: []api.Case{{Name: "x", Number: n}}}}}, 0, api.OK)
	}
}

// TestParseDepth: the ninth of types that are nested is told, at its first token, wherever types stand.
func TestParseDepth(t *testing.T) {
	for _, text := range []string{"struct P { 1 x : TYPE ; }", "struct P { 1 x : [ ? int ] ; 2 y : TYPE ; }", "service P { once x ( TYPE ) int ; }", "service P { read x ( int ) TYPE ; }"} {
		start := slices.Index(strings.Fields(text), "TYPE")
		for bits := range 1 << mostDepth {
			ahead, behind := "", ""
			for i := range mostDepth {
				if bits>>i&1 == 0 {
					ahead += "? "
				} else {
					ahead, behind = ahead+"[ ", behind+" ]"
				}
			}
			for _, last := range []string{"int", "P", "[", "?"} {
				l := tokens(t, strings.Replace(text, "TYPE", ahead+last+behind, 1))
				wantParse(t, "P5.1", l, api.Schema{}, l[start+mostDepth].Line, api.ErrDepth)
				wantFault(t, "P5.1", l)
			}
			// Behind eight beginnings a token that begins no type is told as that, and the end as the end.
			for _, last := range []string{"]", ";", "7", "struct", "once"} {
				l := tokens(t, strings.Replace(text, "TYPE", ahead+last, 1))
				wantParse(t, "P5.1", l, api.Schema{}, l[start+mostDepth].Line, api.ErrSyntax)
				wantParse(t, "P5.1", l[:start+mostDepth], api.Schema{}, l[start+mostDepth-1].Line, api.ErrShort)
			}
			// One less is no fault.
			less := ahead[2:] + "int" + behind
			if ahead[0] == '[' {
				less = strings.TrimSuffix(less, " ]")
			}
			if s, line, e := parse.Parse(tokens(t, strings.Replace(text, "TYPE", less, 1))); e != api.OK || line != 0 || len(s.Structs)+len(s.Services) != 1 {
				t.Errorf("P5.1: a type of %d: line %d, error %d", mostDepth, line, e)
			}
		}
	}
}

// TestParseCountsDeclarations: 64 of all kinds together, and no more.
func TestParseCountsDeclarations(t *testing.T) {
	for kinds := range 7 {
		words := [][]string{{"struct"}, {"enum"}, {"service"}, {"struct", "enum"}, {"enum", "service"}, {"service", "struct"}, {"struct", "enum", "service"}}[kinds]
		var l []string
		for i := range mostDecls {
			l = append(l, words[i%len(words)]+" x { }")
		}
		full := strings.Join(l, " ")
		if s, line, e := parse.Parse(tokens(t, full)); e != api.OK || line != 0 || len(s.Structs)+len(s.Enums)+len(s.Services) != mostDecls {
			t.Errorf("P5.1: 64 declarations: line %d, error %d", line, e)
		}
		at := 4 * mostDecls
		for _, one := range []string{"struct", "enum", "service", "struct x { }", "enum 7", "service }"} {
			more := tokens(t, full+" "+one)
			wantParse(t, "P5.1", more, api.Schema{}, more[at].Line, api.ErrCount)
		}
		for _, none := range []string{"x", "}", "7", "once", "int"} {
			more := tokens(t, full+" "+none)
			wantParse(t, "P5.1", more, api.Schema{}, more[at].Line, api.ErrSyntax)
		}
		wrong := tokens(t, "struct x } "+full)
		wantParse(t, "P5.1", wrong, api.Schema{}, wrong[2].Line, api.ErrSyntax)
	}
}

// TestParseCountsParts: 32 of each declaration, and no more.
func TestParseCountsParts(t *testing.T) {
	for _, c := range []struct {
		start, part string
		first       []string
		wrong       []string
	}{
		{"struct x {", " 1 a : int ;", []string{"1", "0", "999999999"}, []string{"x", "once", ";", "{", ":"}},
		{"enum x {", " 1 a ;", []string{"1", "0", "999999999"}, []string{"x", "once", ";", "{", ":"}},
		{"service x {", " once a ( int ) int ;", []string{"once", "read"}, []string{"x", "1", ";", "(", "int"}},
	} {
		full := c.start + strings.Repeat(c.part, mostParts)
		s, line, e := parse.Parse(tokens(t, full+" } "+full+" }"))
		if e != api.OK || line != 0 {
			t.Errorf("P5.1: 32 parts: line %d, error %d", line, e)
		}
		for _, x := range s.Structs {
			if len(x.Fields) != mostParts {
				t.Errorf("P5.1: %d fields", len(x.Fields))
			}
		}
		for _, x := range s.Enums {
			if len(x.Cases) != mostParts {
				t.Errorf("P5.1: %d cases", len(x.Cases))
			}
		}
		for _, x := range s.Services {
			if len(x.Methods) != mostParts {
				t.Errorf("P5.1: %d methods", len(x.Methods))
			}
		}
		l := tokens(t, full)
		wantParse(t, "P5.1", l, api.Schema{}, l[len(l)-1].Line, api.ErrShort)
		for _, first := range c.first {
			more := tokens(t, full+" "+first)
			wantParse(t, "P5.1", more, api.Schema{}, more[len(l)].Line, api.ErrCount)
			more = tokens(t, full+" "+first+" ; } }")
			wantParse(t, "P5.1", more, api.Schema{}, more[len(l)].Line, api.ErrCount)
		}
		for _, wrong := range c.wrong {
			more := tokens(t, full+" "+wrong)
			wantParse(t, "P5.1", more, api.Schema{}, more[len(l)].Line, api.ErrSyntax)
		}
	}
}

func TestDeep(t *testing.T) {
	wide := api.Type{Kind: 6, Of: []api.Type{plainType(1), nested(4), nested(6), nested(2)}}
	for _, c := range []struct {
		t    api.Type
		want int
	}{
		{api.Type{}, 1},
		{plainType(1), 1},
		{byName("P"), 1},
		{plainType(-1), 1},
		{plainType(9), 1},
		{of(6, plainType(1)), 2},
		{of(7, plainType(1)), 2},
		{of(6, of(7, byName("x"))), 3},
		{api.Type{Kind: 6}, 1},
		{api.Type{Kind: 7, Of: []api.Type{}}, 1},
		{of(7, api.Type{Kind: 6}), 2},
		{of(1, nested(5)), 1},
		{of(5, nested(5)), 1},
		{of(8, nested(5)), 1},
		{of(0, nested(5)), 1},
		{of(6, of(8, nested(5))), 2},
		{api.Type{Kind: 6, Name: "x", Of: []api.Type{nested(3)}}, 4},
		{wide, 7},
		{of(7, wide), 8},
		{nested(8), 8},
		{nested(9), 9},
		{nested(99), 99},
		{nested(100), 100},
		{nested(101), 100},
		{nested(300), 100},
		{nested(60000), 100},
		{api.Type{Kind: 7, Of: []api.Type{nested(98), nested(500), nested(1)}}, 100},
		{api.Type{Kind: 7, Of: []api.Type{nested(97), nested(98)}}, 99},
	} {
		if got := parse.Deep(c.t); got != c.want {
			t.Errorf("P5.2: Deep: %d, want %d", got, c.want)
		}
	}
}

// TestEndless: a type within itself, once or more, ends all calls.
func TestEndless(t *testing.T) {
	for _, n := range []int{1, 2, 5} {
		l := make([]api.Type, n)
		for i := range l {
			l[i] = api.Type{Kind: 6 + i%2, Of: l}
		}
		if got := parse.Deep(l[0]); got != 100 {
			t.Errorf("P5.2: Deep of an endless type: %d", got)
		}
		wantShape(t, l[n-1], api.ErrDepth)
		wantPrint(t, "P5.2", api.Schema{Structs: []api.Struct{{Name: "x", Fields: []api.Field{{Name: "x", Type: l[0]}}}}}, "", api.ErrDepth)
	}
}

func TestShape(t *testing.T) {
	for kind := 1; kind <= 5; kind++ {
		wantShape(t, plainType(kind), api.OK)
		wantShape(t, api.Type{Kind: kind, Of: []api.Type{}}, api.OK)
		wantShape(t, api.Type{Kind: kind, Name: "x"}, api.ErrType)
		wantShape(t, api.Type{Kind: kind, Name: plain[kind-1]}, api.ErrType)
		wantShape(t, of(kind, plainType(1)), api.ErrType)
		wantShape(t, of(kind, nested(20)), api.ErrType)
	}
	for _, kind := range []int{0, -1, 9, 10, math.MinInt, math.MaxInt} {
		wantShape(t, plainType(kind), api.ErrType)
		wantShape(t, of(kind, plainType(1)), api.ErrType)
		wantShape(t, api.Type{Kind: kind, Name: "x"}, api.ErrType)
		wantShape(t, of(6, plainType(kind)), api.ErrType)
		wantShape(t, of(kind, nested(20)), api.ErrType)
	}
	for _, kind := range []int{6, 7} {
		wantShape(t, of(kind, plainType(1)), api.OK)
		wantShape(t, of(kind, of(13-kind, byName("P"))), api.OK)
		wantShape(t, api.Type{Kind: kind}, api.ErrType)
		wantShape(t, api.Type{Kind: kind, Of: []api.Type{}}, api.ErrType)
		wantShape(t, api.Type{Kind: kind, Of: []api.Type{plainType(1), plainType(1)}}, api.ErrType)
		wantShape(t, api.Type{Kind: kind, Name: "x", Of: []api.Type{plainType(1)}}, api.ErrType)
		wantShape(t, of(kind, api.Type{}), api.ErrType)
		wantShape(t, of(kind, api.Type{Kind: 13 - kind}), api.ErrType)
		wantShape(t, of(kind, of(kind, api.Type{Kind: 1, Name: "x"})), api.ErrType)
		wantShape(t, of(kind, of(13-kind, byName("int"))), api.ErrType)
		wantShape(t, of(kind, nested(7)), api.OK)
		wantShape(t, of(kind, nested(8)), api.ErrDepth)
	}
	for _, name := range goodName {
		wantShape(t, byName(name), api.OK)
		wantShape(t, api.Type{Kind: 8, Name: name, Of: []api.Type{}}, api.OK)
		wantShape(t, api.Type{Kind: 8, Name: name, Of: []api.Type{plainType(1)}}, api.ErrType)
		wantShape(t, api.Type{Kind: 8, Name: name, Of: []api.Type{nested(20)}}, api.ErrType)
	}
	for _, name := range slices.Concat(strange, reserved) {
		wantShape(t, byName(name), api.ErrType)
		wantShape(t, of(6, byName(name)), api.ErrType)
	}
}

// TestShapeDepthFirst: the depth counts ahead of all that is wrong otherwise.
func TestShapeDepthFirst(t *testing.T) {
	wantShape(t, nested(8), api.OK)
	for _, deep := range []int{9, 10, 100, 101, 5000} {
		wantShape(t, nested(deep), api.ErrDepth)
	}
	wantShape(t, api.Type{Kind: 6, Name: "x", Of: []api.Type{nested(8)}}, api.ErrDepth)
	wantShape(t, api.Type{Kind: 7, Of: []api.Type{plainType(1), nested(8)}}, api.ErrDepth)
	wantShape(t, api.Type{Kind: 7, Of: []api.Type{plainType(99), nested(7), nested(8)}}, api.ErrDepth)
	wantShape(t, api.Type{Kind: 7, Of: []api.Type{plainType(1), nested(7)}}, api.ErrType)
	bad := plainType(99)
	for range 7 {
		bad = of(6, bad)
	}
	wantShape(t, bad, api.ErrType)
	wantShape(t, of(6, bad), api.ErrDepth)
}

func TestPrint(t *testing.T) {
	const text = "struct P {\n\t1 x: int;\n\t2 y: ?text;\n\t3 z: [?[bytes]];\n}\nstruct Q {\n}\nstruct R {\n\t0 only: uint;\n}\n" +
		"enum E {\n\t0 none;\n\t7 some;\n}\nenum F {\n}\n" +
		"service S {\n\tonce a(int) bool;\n\tread b([P]) ?E;\n}\nservice T {\n}\n"
	wantPrint(t, "P5.2", wholeSchema(), text, api.OK)
	wantPrint(t, "P5.2", api.Schema{}, "", api.OK)
	wantPrint(t, "P5.2", api.Schema{Structs: []api.Struct{}, Enums: []api.Enum{}, Services: []api.Service{}}, "", api.OK)
	empty := api.Schema{Structs: []api.Struct{{Name: "a", Fields: []api.Field{}}}, Enums: []api.Enum{{Name: "a"}}, Services: []api.Service{{Name: "a"}}}
	wantPrint(t, "P5.2", empty, "struct a {\n}\nenum a {\n}\nservice a {\n}\n", api.OK)
	r := rand.New(rand.NewSource(5))
	for range 500 {
		s := randSchema(r, 4)
		wantPrint(t, "P5.2", s, slowPrint(s), api.OK)
	}
}

// most is a schema of as many declarations of each kind and as many parts of each.
func most(structs, enums, services, parts int) api.Schema {
	var s api.Schema
	for range structs {
		s.Structs = append(s.Structs, api.Struct{Name: "a", Fields: slices.Repeat([]api.Field{{Name: "b", Number: 3, Type: plainType(1)}}, parts)})
	}
	for range enums {
		s.Enums = append(s.Enums, api.Enum{Name: "a", Cases: slices.Repeat([]api.Case{{Name: "b", Number: 3}}, parts)})
	}
	for range services {
		s.Services = append(s.Services, api.Service{Name: "a", Methods: slices.Repeat([]api.Method{{Name: "b", Arg: plainType(1), Result: plainType(1)}}, parts)})
	}
	return s
}

func TestPrintCounts(t *testing.T) {
	for _, n := range [][3]int{{64, 0, 0}, {0, 64, 0}, {0, 0, 64}, {22, 21, 21}, {1, 1, 62}, {63, 1, 0}} {
		s := most(n[0], n[1], n[2], mostParts)
		wantPrint(t, "P5.2", s, slowPrint(s), api.OK)
		wantPrint(t, "P5.2", most(n[0]+1, n[1], n[2], 1), "", api.ErrCount)
		wantPrint(t, "P5.2", most(n[0], n[1]+1, n[2], 1), "", api.ErrCount)
		wantPrint(t, "P5.2", most(n[0], n[1], n[2]+1, 0), "", api.ErrCount)
	}
	for _, n := range [][3]int{{1, 0, 0}, {0, 1, 0}, {0, 0, 1}} {
		wantPrint(t, "P5.2", most(n[0], n[1], n[2], mostParts+1), "", api.ErrCount)
		wantPrint(t, "P5.2", most(n[0], n[1], n[2], 5000), "", api.ErrCount)
	}
	wantPrint(t, "P5.2", most(5000, 5000, 5000, 0), "", api.ErrCount)
}

// wrong is something that makes a schema one that may not be told, and how that is told.
type wrong struct {
	what string
	do   func(s *api.Schema)
	e    api.Errno
}

// mistakes are wrong things of the schema most(2, 2, 2, 2), by their places, in the order of its text.
func mistakes() [][]wrong {
	var all [][]wrong
	add := func(l ...wrong) { all = append(all, l) }
	names := func(what string, name func(s *api.Schema) *string) {
		var l []wrong
		for _, bad := range slices.Concat(strange, reserved) {
			l = append(l, wrong{what + " " + strconv.Quote(bad), func(s *api.Schema) { *name(s) = bad }, api.ErrName})
		}
		add(l...)
	}
	numbers := func(what string, number func(s *api.Schema) *int) {
		var l []wrong
		for _, bad := range []int{-1, mostNumber + 1, math.MinInt, math.MaxInt} {
			l = append(l, wrong{what + " " + strconv.Itoa(bad), func(s *api.Schema) { *number(s) = bad }, api.ErrRange})
		}
		add(l...)
	}
	types := func(what string, kind func(s *api.Schema) *api.Type) {
		add(
			wrong{what + " none", func(s *api.Schema) { *kind(s) = api.Type{} }, api.ErrType},
			wrong{what + " int", func(s *api.Schema) { *kind(s) = byName("int") }, api.ErrType},
			wrong{what + " of two", func(s *api.Schema) { *kind(s) = api.Type{Kind: 6, Of: make([]api.Type, 2)} }, api.ErrType},
			wrong{what + " deep", func(s *api.Schema) { *kind(s) = nested(9) }, api.ErrDepth},
		)
	}
	add(wrong{"65 in all", func(s *api.Schema) { s.Services = append(s.Services, most(0, 0, mostDecls-5, 1).Services...) }, api.ErrCount})
	for i := range 2 {
		add(wrong{"33 fields", func(s *api.Schema) {
			s.Structs[i].Fields = append(s.Structs[i].Fields, most(1, 0, 0, mostParts-1).Structs[0].Fields...)
		}, api.ErrCount})
		names("struct", func(s *api.Schema) *string { return &s.Structs[i].Name })
		for j := range 2 {
			numbers("field", func(s *api.Schema) *int { return &s.Structs[i].Fields[j].Number })
			names("field", func(s *api.Schema) *string { return &s.Structs[i].Fields[j].Name })
			types("field", func(s *api.Schema) *api.Type { return &s.Structs[i].Fields[j].Type })
		}
	}
	for i := range 2 {
		add(wrong{"33 cases", func(s *api.Schema) {
			s.Enums[i].Cases = append(s.Enums[i].Cases, most(0, 1, 0, mostParts-1).Enums[0].Cases...)
		}, api.ErrCount})
		names("enum", func(s *api.Schema) *string { return &s.Enums[i].Name })
		for j := range 2 {
			numbers("case", func(s *api.Schema) *int { return &s.Enums[i].Cases[j].Number })
			names("case", func(s *api.Schema) *string { return &s.Enums[i].Cases[j].Name })
		}
	}
	for i := range 2 {
		add(wrong{"33 methods", func(s *api.Schema) {
			s.Services[i].Methods = append(s.Services[i].Methods, most(0, 0, 1, mostParts-1).Services[0].Methods...)
		}, api.ErrCount})
		names("service", func(s *api.Schema) *string { return &s.Services[i].Name })
		for j := range 2 {
			names("method", func(s *api.Schema) *string { return &s.Services[i].Methods[j].Name })
			types("Arg", func(s *api.Schema) *api.Type { return &s.Services[i].Methods[j].Arg })
			types("Result", func(s *api.Schema) *api.Type { return &s.Services[i].Methods[j].Result })
		}
	}
	return all
}

// TestPrintOrder: of two wrong things the one that comes first in the text counts.
func TestPrintOrder(t *testing.T) {
	all := mistakes()
	for i, l := range all {
		for _, first := range l {
			s := most(2, 2, 2, 2)
			first.do(&s)
			if text, e := parse.Print(s); text != "" || e != first.e {
				t.Errorf("P5.2: Print: %s: %d, want %d", first.what, e, first.e)
			}
		}
		for _, others := range all[i+1:] {
			for n := range max(len(l), len(others)) {
				first, second := l[n%len(l)], others[n%len(others)]
				s := most(2, 2, 2, 2)
				second.do(&s)
				first.do(&s)
				if text, e := parse.Print(s); text != "" || e != first.e {
					t.Errorf("P5.2: Print: %s ahead of %s: %d, want %d", first.what, second.what, e, first.e)
				}
			}
		}
	}
}

// layOut tells tokens with gaps of all kinds between them.
func layOut(r *rand.Rand, l []api.Token) string {
	gaps := []string{" ", "\t", "\n", "\r\n", "\n\n ", " # struct { 1\n", "#\n"}
	var b strings.Builder
	for _, t := range l {
		b.WriteString(t.Text)
		b.WriteString(gaps[r.Intn(len(gaps))])
	}
	return b.String()
}

func wantBack(t *testing.T, s api.Schema) {
	t.Helper()
	text, e := parse.Print(s)
	if e != api.OK {
		t.Fatalf("P5.3: Print: %d", e)
	}
	wantText(t, "P5.3", text, s, 0, api.OK)
}

// TestBack: Text of Print is the schema, however it is laid out.
func TestBack(t *testing.T) {
	wantBack(t, api.Schema{})
	wantBack(t, wholeSchema())
	wantBack(t, most(64, 0, 0, 32))
	wantBack(t, most(0, 64, 0, 32))
	wantBack(t, most(0, 0, 64, 32))
	wantBack(t, most(20, 24, 20, 32))
	r := rand.New(rand.NewSource(53))
	for i := range 2000 {
		s := randSchema(r, 1+i%6)
		wantBack(t, s)
		l := tokens(t, slowPrint(s))
		wantText(t, "P5.3", layOut(r, l), s, 0, api.OK)
		wantParse(t, "P5.3", l, s, 0, api.OK)
	}
}

// TestPrintLong: no length is too much for Print, but what is too long for lex does not come back.
func TestPrintLong(t *testing.T) {
	s := most(64, 0, 0, 32)
	for i := range s.Structs {
		for j := range s.Structs[i].Fields {
			s.Structs[i].Fields[j] = api.Field{Name: strings.Repeat("n", 32), Number: mostNumber, Type: nested(8)}
		}
	}
	text := slowPrint(s)
	if len(text) <= mostText {
		t.Fatal("not long")
	}
	wantPrint(t, "P5.2", s, text, api.OK)
	wantText(t, "P5.1", text, api.Schema{}, 0, api.ErrLong)
	s.Structs = s.Structs[:20]
	wantBack(t, s)
}

// TestBackFromNilOrEmpty: empty lists are told as nil ones are.
func TestBackFromNilOrEmpty(t *testing.T) {
	s := api.Schema{Structs: []api.Struct{{Name: "x", Fields: []api.Field{{Name: "y", Type: api.Type{Kind: 1, Of: []api.Type{}}}}}}, Enums: []api.Enum{}, Services: []api.Service{}}
	text, e := parse.Print(s)
	s.Structs[0].Fields[0].Type.Of, s.Enums, s.Services = nil, nil, nil
	if e != api.OK {
		t.Fatal("P5.3: Print:", e)
	}
	wantText(t, "P5.3", text, s, 0, api.OK)
}

// TestKindsInOrder: declarations of several kinds come by their kinds, each in the order of the text.
func TestKindsInOrder(t *testing.T) {
	r := rand.New(rand.NewSource(54))
	for range 500 {
		s := randSchema(r, 4)
		var queues [3][]string
		for _, x := range s.Structs {
			queues[0] = append(queues[0], slowPrint(api.Schema{Structs: []api.Struct{x}}))
		}
		for _, x := range s.Enums {
			queues[1] = append(queues[1], slowPrint(api.Schema{Enums: []api.Enum{x}}))
		}
		for _, x := range s.Services {
			queues[2] = append(queues[2], slowPrint(api.Schema{Services: []api.Service{x}}))
		}
		text := ""
		for len(queues[0])+len(queues[1])+len(queues[2]) > 0 {
			if q := &queues[r.Intn(3)]; len(*q) > 0 {
				text += (*q)[0]
				*q = (*q)[1:]
			}
		}
		wantText(t, "P5.1", text, s, 0, api.OK)
	}
}

// span is a piece of memory.
type span struct {
	from, to uintptr
	what     string
}

func ofText(what, s string) span {
	from := uintptr(unsafe.Pointer(unsafe.StringData(s)))
	return span{from, from + uintptr(len(s)), what}
}

func ofList[T any](what string, l []T) span {
	from := uintptr(unsafe.Pointer(unsafe.SliceData(l)))
	var one T
	return span{from, from + uintptr(cap(l))*unsafe.Sizeof(one), what}
}

func typeSpans(t api.Type) []span {
	l := []span{ofText("a type's name", t.Name), ofList("Of", t.Of)}
	for _, x := range t.Of {
		l = append(l, typeSpans(x)...)
	}
	return l
}

// schemaSpans are all pieces of memory that a schema is made of, the room behind its lists too.
func schemaSpans(s api.Schema) []span {
	l := []span{ofList("structs", s.Structs), ofList("enums", s.Enums), ofList("services", s.Services)}
	for _, x := range s.Structs {
		l = append(l, ofText("a struct's name", x.Name), ofList("fields", x.Fields))
		for _, f := range x.Fields {
			l = append(append(l, ofText("a field's name", f.Name)), typeSpans(f.Type)...)
		}
	}
	for _, x := range s.Enums {
		l = append(l, ofText("an enum's name", x.Name), ofList("cases", x.Cases))
		for _, c := range x.Cases {
			l = append(l, ofText("a case's name", c.Name))
		}
	}
	for _, x := range s.Services {
		l = append(l, ofText("a service's name", x.Name), ofList("methods", x.Methods))
		for _, m := range x.Methods {
			l = append(append(l, ofText("a method's name", m.Name)), typeSpans(m.Arg)...)
			l = append(l, typeSpans(m.Result)...)
		}
	}
	return l
}

func wantAlone(t *testing.T, l ...span) {
	t.Helper()
	l = slices.DeleteFunc(l, func(s span) bool { return s.from == s.to })
	slices.SortFunc(l, func(a, b span) int { return int(a.from) - int(b.from) })
	for i := 1; i < len(l); i++ {
		if l[i].from < l[i-1].to {
			t.Errorf("P5.4: %s and %s share memory", l[i-1].what, l[i].what)
		}
	}
}

func TestNewMemory(t *testing.T) {
	text := strings.Clone(whole)
	l, _, _ := lex.Tokens(text)
	ours := []span{ofText("the text", text), ofList("the tokens", l)}
	for _, x := range l {
		ours = append(ours, ofText("a token", x.Text))
	}
	a, _, _ := parse.Parse(l)
	b, _, _ := parse.Parse(l)
	c, _, _ := parse.Text(text)
	d, _, _ := parse.Text(text)
	one, _ := parse.Print(a)
	two, _ := parse.Print(a)
	all := slices.Concat(ours, schemaSpans(a), schemaSpans(b), schemaSpans(c), schemaSpans(d))
	wantAlone(t, append(all, ofText("a print", one), ofText("another print", two))...)
	if !reflect.DeepEqual(a, wholeSchema()) || one != slowPrint(a) || two != one {
		t.Error("P5.4: not the answers of one call alone")
	}
}

// TestNotChanged: what is handed in stays, with the room behind it.
func TestNotChanged(t *testing.T) {
	l := tokens(t, whole+" struct")
	kept := slices.Clone(l)
	for i := range len(l) + 1 {
		parse.Parse(l[:i])
		parse.Parse(l[i:])
	}
	if !slices.Equal(l, kept) {
		t.Error("P5.4: Parse changes its tokens")
	}
	s, same := wholeSchema(), wholeSchema()
	s.Structs = append(s.Structs, api.Struct{Name: "behind"})[:len(s.Structs)]
	s.Structs[0].Fields = append(s.Structs[0].Fields, api.Field{Name: "behind"})[:len(s.Structs[0].Fields)]
	parse.Print(s)
	for _, f := range s.Structs[0].Fields {
		parse.Shape(f.Type)
		parse.Deep(f.Type)
	}
	if !reflect.DeepEqual(s, same) || s.Structs[:len(s.Structs)+1][len(s.Structs)].Name != "behind" || s.Structs[0].Fields[:4][3].Name != "behind" {
		t.Error("P5.4: Print, Shape or Deep changes its schema")
	}
}

// TestAnswersAreApart: who writes into an answer changes no other one.
func TestAnswersAreApart(t *testing.T) {
	a, _, _ := parse.Text(whole)
	b, _, _ := parse.Text(whole)
	for i := range a.Structs {
		a.Structs[i].Fields = append(a.Structs[i].Fields, api.Field{Name: "more"})
		for j := range a.Structs[i].Fields {
			if of := a.Structs[i].Fields[j].Type.Of; len(of) > 0 {
				of[0] = api.Type{}
			}
			a.Structs[i].Fields[j].Name = "changed"
		}
	}
	if !reflect.DeepEqual(b, wholeSchema()) {
		t.Error("P5.4: two answers share memory")
	}
}

// sortedTexts are the texts of tokens that make declarations, those by their kinds, as Print tells them.
func sortedTexts(l []api.Token) []string {
	kinds := map[string][]string{}
	kind := ""
	for i, t := range l {
		if i == 0 || l[i-1].Text == "}" {
			kind = t.Text
		}
		kinds[kind] = append(kinds[kind], t.Text)
	}
	return slices.Concat(kinds["struct"], kinds["enum"], kinds["service"])
}

// FuzzText: whatever the text is, the fault is the slow one's, and what is taken is told again by the same tokens.
func FuzzText(f *testing.F) {
	f.Add(whole)
	f.Add("struct P {\n1 x")
	f.Add("service S { read a ( [ ? [ ? [ ? [ ? int ] ] ] ] ) int ; }")
	f.Add("enum E { 1 a ; 01 b ; }")
	f.Add(strings.Repeat("struct a { }", 65))
	f.Add("enum E {" + strings.Repeat("1 a;", 33) + "}")
	f.Fuzz(func(t *testing.T, text string) {
		s, line, e := parse.Text(text)
		l, at, fault := lex.Tokens(text)
		if fault == api.OK {
			at, fault = slowFault(l)
		}
		if line != at || e != fault {
			t.Fatalf("P5.1: Text(%q): line %d, error %d; want %d, %d", text, line, e, at, fault)
		}
		if e != api.OK {
			if !reflect.DeepEqual(s, api.Schema{}) {
				t.Fatalf("P5.1: Text(%q): a schema beside error %d", text, e)
			}
			return
		}
		again, e := parse.Print(s)
		if e != api.OK || again != slowPrint(s) {
			t.Fatalf("P5.2: Print of Text(%q): %q, %d", text, again, e)
		}
		m, _, _ := lex.Tokens(again)
		if len(again) <= mostText && !slices.Equal(sortedTexts(l), sortedTexts(m)) {
			t.Fatalf("P5.1: Text(%q) is told by other tokens: %q", text, again)
		}
		if back, _, e := parse.Text(again); len(again) <= mostText && (e != api.OK || !reflect.DeepEqual(back, s)) {
			t.Fatalf("P5.3: Text of Print of Text(%q): %d", text, e)
		}
	})
}
