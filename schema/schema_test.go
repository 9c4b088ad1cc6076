package schema_test

import (
	"math"
	"math/rand"
	"reflect"
	"runtime"
	"slices"
	"strconv"
	"strings"
	"testing"
	"unsafe"

	"waybill/api"
	"waybill/parse"
	"waybill/schema"
)

// The limits, written out: the tests hold the document's numbers, not the program's.
const (
	mostNumber = 65536
	mostDepth  = 8
	mostWeight = 64
	mostParts  = 32
)

// whole has all that a schema may have.
const whole = `
struct P { 1 x : int ; 2 y : ? P ; 3 e : E ; 65536 q : Q ; }
struct Q { 7 l : [ ? [ P ] ] ; 9 r : R ; }
struct R { }
enum E { 0 none ; 7 some ; 65536 all ; }
enum F { 3 only ; }
service S { once a ( int ) bool ; read b ( [ P ] ) ? E ; }
service T { read a ( E ) [ ? Q ] ; }
`

// parsed is what a text declares, may it be or not.
func parsed(t testing.TB, text string) api.Schema {
	t.Helper()
	s, line, e := parse.Text(text)
	if e != api.OK {
		t.Fatalf("no declarations: %q: line %d, error %d", text, line, e)
	}
	return s
}

func byName(name string) api.Type {
	return api.Type{Kind: 8, Name: name}
}

func of(kind int, t api.Type) api.Type {
	return api.Type{Kind: kind, Of: []api.Type{t}}
}

// endless is a type within itself.
func endless() api.Type {
	l := make([]api.Type, 1)
	l[0] = api.Type{Kind: 6, Of: l}
	return l[0]
}

// declared are the names of one kind.
func declared(s api.Schema, kind int) []string {
	var l []string
	for _, x := range s.Structs {
		if kind == 1 {
			l = append(l, x.Name)
		}
	}
	for _, x := range s.Enums {
		if kind == 2 {
			l = append(l, x.Name)
		}
	}
	for _, x := range s.Services {
		if kind == 3 {
			l = append(l, x.Name)
		}
	}
	return l
}

// pairs tells if two of n, the first of them ahead, are as bad says.
func pairs(n int, bad func(i, j int) bool) bool {
	for j := range n {
		for i := range j {
			if bad(i, j) {
				return true
			}
		}
	}
	return false
}

// unknown tells if a type names no struct and no enum.
func unknown(s api.Schema, t api.Type) bool {
	for t.Kind == 6 || t.Kind == 7 {
		t = t.Of[0]
	}
	return t.Kind == 8 && !slices.Contains(declared(s, 1), t.Name) && !slices.Contains(declared(s, 2), t.Name)
}

// slowMeasure is what each struct comes to, as far as most: from below, until nothing grows any more.
func slowMeasure(s api.Schema, most, other int, join func(a, b int) int) map[string]int {
	known := map[string]int{}
	for grows := true; grows; {
		grows = false
		for _, x := range s.Structs {
			n := 0
			for _, f := range x.Fields {
				if f.Type.Kind == 8 && slices.Contains(declared(s, 1), f.Type.Name) {
					n = join(n, known[f.Type.Name])
				} else {
					n = join(n, other)
				}
			}
			n = min(n+1, most)
			grows = grows || n != known[x.Name]
			known[x.Name] = n
		}
	}
	return known
}

func slowDepths(s api.Schema) map[string]int {
	return slowMeasure(s, mostDepth+1, 0, func(a, b int) int { return max(a, b) })
}

func slowWeights(s api.Schema) map[string]int {
	return slowMeasure(s, mostWeight+1, 1, func(a, b int) int { return a + b })
}

func slowStruct(s api.Schema, x api.Struct) api.Errno {
	l := x.Fields
	switch {
	case slices.ContainsFunc(l, func(f api.Field) bool { return f.Number < 1 || f.Number > mostNumber }):
		return api.ErrRange
	case pairs(len(l), func(i, j int) bool { return l[i].Name == l[j].Name || l[i].Number >= l[j].Number }):
		return api.ErrField
	case slices.ContainsFunc(l, func(f api.Field) bool { return unknown(s, f.Type) }):
		return api.ErrType
	}
	return api.OK
}

func slowEnum(x api.Enum) api.Errno {
	l := x.Cases
	switch {
	case len(l) == 0:
		return api.ErrCount
	case slices.ContainsFunc(l, func(c api.Case) bool { return c.Number > mostNumber }):
		return api.ErrRange
	case pairs(len(l), func(i, j int) bool { return l[i].Name == l[j].Name || l[i].Number >= l[j].Number }):
		return api.ErrField
	}
	return api.OK
}

func slowService(s api.Schema, x api.Service) api.Errno {
	l := x.Methods
	switch {
	case len(l) == 0:
		return api.ErrCount
	case pairs(len(l), func(i, j int) bool { return l[i].Name == l[j].Name }):
		return api.ErrField
	case slices.ContainsFunc(l, func(m api.Method) bool { return unknown(s, m.Arg) || unknown(s, m.Result) }):
		return api.ErrType
	}
	return api.OK
}

// slowCheck is the error of a schema by the words of the chapter.
func slowCheck(s api.Schema) api.Errno {
	if _, e := parse.Print(s); e != api.OK {
		return e
	}
	all := slices.Concat(declared(s, 1), declared(s, 2), declared(s, 3))
	if pairs(len(all), func(i, j int) bool { return all[i] == all[j] }) {
		return api.ErrTwice
	}
	var found []api.Errno
	for _, x := range s.Structs {
		found = append(found, slowStruct(s, x))
	}
	for _, x := range s.Enums {
		found = append(found, slowEnum(x))
	}
	for _, x := range s.Services {
		found = append(found, slowService(s, x))
	}
	for _, n := range slowDepths(s) {
		if n > mostDepth {
			return firstOf(append(found, api.ErrDepth))
		}
	}
	for _, n := range slowWeights(s) {
		if n > mostWeight {
			return firstOf(append(found, api.ErrLong))
		}
	}
	return firstOf(found)
}

func firstOf(l []api.Errno) api.Errno {
	for _, e := range l {
		if e != api.OK {
			return e
		}
	}
	return api.OK
}

// slowExtends goes over a's parts by the words of the chapter.
func slowExtends(a, b api.Schema) api.Errno {
	found := []api.Errno{slowCheck(a), slowCheck(b)}
	add := func(bad bool, e api.Errno) {
		if bad {
			found = append(found, e)
		}
	}
	for _, x := range a.Structs {
		at := slices.Index(declared(b, 1), x.Name)
		add(at < 0, api.ErrNone)
		for _, f := range x.Fields {
			there := false
			for _, g := range b.Structs[max(0, at):] {
				there = there || g.Name == x.Name && slices.ContainsFunc(g.Fields, func(g api.Field) bool { return reflect.DeepEqual(f, g) })
			}
			add(!there, api.ErrField)
		}
	}
	for _, x := range a.Enums {
		at := slices.Index(declared(b, 2), x.Name)
		add(at < 0, api.ErrNone)
		if at < 0 {
			continue
		}
		for _, c := range x.Cases {
			i := slices.IndexFunc(b.Enums[at].Cases, func(d api.Case) bool { return c.Name == d.Name })
			add(i < 0, api.ErrNone)
			add(!slices.Contains(b.Enums[at].Cases, c), api.ErrField)
		}
		add(len(x.Cases) > 0 && len(b.Enums[at].Cases) > 0 && x.Cases[0] != b.Enums[at].Cases[0], api.ErrField)
	}
	for _, x := range a.Services {
		at := slices.Index(declared(b, 3), x.Name)
		add(at < 0, api.ErrNone)
		if at < 0 {
			continue
		}
		for _, m := range x.Methods {
			i := slices.IndexFunc(b.Services[at].Methods, func(n api.Method) bool { return m.Name == n.Name })
			add(i < 0, api.ErrNone)
			add(i >= 0 && !reflect.DeepEqual(m, b.Services[at].Methods[i]), api.ErrField)
		}
	}
	return firstOf(found)
}

// told keeps long schemas out of what a failed test tells.
func told(s api.Schema) string {
	text, e := parse.Print(s)
	if e != api.OK {
		return "a schema that has no text"
	}
	if len(text) > 2000 {
		text = text[:2000] + ".."
	}
	return text
}

func wantCheck(t *testing.T, s api.Schema, e api.Errno) {
	t.Helper()
	if got := schema.Check(s); got != e {
		t.Errorf("P6.1: Check: %d, want %d:\n%s", got, e, told(s))
	}
}

func wantLoad(t *testing.T, text string, s api.Schema, line int, e api.Errno) {
	t.Helper()
	got, at, fault := schema.Load(text)
	if !reflect.DeepEqual(got, s) || at != line || fault != e {
		t.Errorf("P6.1: Load(%q): %v, line %d, error %d; want %v, %d, %d", text, got, at, fault, s, line, e)
	}
}

// wantText holds all calls that check a schema against its error, and the slow one, too.
func wantText(t *testing.T, text string, e api.Errno) {
	t.Helper()
	s := parsed(t, text)
	wantCheck(t, s, e)
	if slow := slowCheck(s); slow != e {
		t.Errorf("the slow check of %q: %d, want %d", text, slow, e)
	}
	if e == api.OK {
		wantLoad(t, text, s, 0, api.OK)
		wantExtends(t, "P6.3", s, s, api.OK)
		return
	}
	wantLoad(t, text, api.Schema{}, 0, e)
	if m, fault := schema.Method(s, "S", "a"); !reflect.DeepEqual(m, api.Method{}) || fault != e {
		t.Errorf("P6.1: Method of %q: %v, %d; want %d", text, m, fault, e)
	}
	if n, fault := schema.Depth(s, "A"); n != 0 || fault != e {
		t.Errorf("P6.1: Depth of %q: %d, %d; want %d", text, n, fault, e)
	}
	good := parsed(t, whole)
	wantExtends(t, "P6.2", s, good, e)
	wantExtends(t, "P6.2", good, s, e)
	wantExtends(t, "P6.2", s, s, e)
}

func wantExtends(t *testing.T, promise string, a, b api.Schema, e api.Errno) {
	t.Helper()
	if got := schema.Extends(a, b); got != e {
		t.Errorf("%s: Extends: %d, want %d:\n%s--\n%s", promise, got, e, told(a), told(b))
	}
}

func TestCheck(t *testing.T) {
	wantText(t, "", api.OK)
	wantText(t, whole, api.OK)
	wantText(t, "struct A { 1 a : A ; }", api.ErrDepth)
	wantText(t, "struct A { 1 a : ? A ; }", api.OK)
	wantText(t, "struct A { 1 a : [ A ] ; }", api.OK)
	wantText(t, "struct A { }", api.OK)
	wantText(t, "enum E { 0 a ; }", api.OK)
	wantText(t, "service S { once a ( int ) [ bytes ] ; }", api.OK)
	wantCheck(t, api.Schema{Structs: []api.Struct{}, Enums: []api.Enum{}, Services: []api.Service{}}, api.OK)
}

// TestLoadTellsParse: parse's errors come with their lines, Check's with none.
func TestLoadTellsParse(t *testing.T) {
	wantLoad(t, "struct A {\n1 a : int ;\n", api.Schema{}, 2, api.ErrShort)
	wantLoad(t, "struct A { }\n\nstruct struct { }", api.Schema{}, 3, api.ErrSyntax)
	wantLoad(t, "\nstruct A { 1 a : ????????int ; }", api.Schema{}, 2, api.ErrDepth)
	wantLoad(t, "enum E {\n\n 01 a ; }", api.Schema{}, 3, api.ErrRange)
	wantLoad(t, "enum E {\n é ; }", api.Schema{}, 2, api.ErrToken)
	wantLoad(t, strings.Repeat(" ", 65537), api.Schema{}, 0, api.ErrLong)
	wantLoad(t, "struct A {\n1 a : A ;\n}\n", api.Schema{}, 0, api.ErrDepth)
	// What a text does not declare goes ahead of what its declarations may not be.
	wantLoad(t, "struct A { 1 a : A ; }\nstruct A {\n", api.Schema{}, 2, api.ErrShort)
	for _, text := range []string{"struct A {", "x", "enum E { 1 a : int ; }", "struct A { } #", "# a"} {
		s, line, e := parse.Text(text)
		wantLoad(t, text, s, line, e)
	}
}

// TestCheckTellsPrint: what has no text is told as Print tells it, ahead of all else.
func TestCheckTellsPrint(t *testing.T) {
	twice := []api.Struct{{Name: "A"}, {Name: "A"}}
	for _, s := range []api.Schema{
		{Structs: []api.Struct{{}}},
		{Structs: slices.Repeat(twice, 33)},
		{Structs: twice, Enums: []api.Enum{{Name: "int", Cases: []api.Case{{Name: "a"}}}}},
		{Structs: twice, Enums: []api.Enum{{Name: "E", Cases: []api.Case{{Name: "a", Number: -1}}}}},
		{Structs: twice, Enums: []api.Enum{{Name: "E", Cases: []api.Case{{Name: "a", Number: math.MaxInt}}}}},
		{Structs: twice, Services: []api.Service{{Name: "S", Methods: []api.Method{{Name: "m"}}}}},
		{Structs: twice, Services: []api.Service{{Name: "S", Methods: []api.Method{{Name: "m", Arg: endless()}}}}},
		{Structs: []api.Struct{{Name: "A", Fields: []api.Field{{Name: "a", Number: math.MinInt, Type: byName("A")}}}}},
		{Structs: []api.Struct{{Name: "A", Fields: []api.Field{{Name: "a", Number: 1, Type: endless()}}}}},
		{Structs: []api.Struct{{Name: "A", Fields: make([]api.Field, mostParts+1)}}},
		{Enums: []api.Enum{{Name: "E", Cases: make([]api.Case, mostParts+1)}}},
		{Services: []api.Service{{Name: "S", Methods: make([]api.Method, mostParts+1)}}},
	} {
		_, e := parse.Print(s)
		if e == api.OK {
			t.Fatal("it has a text")
		}
		wantCheck(t, s, e)
		wantExtends(t, "P6.2", s, api.Schema{}, e)
		wantExtends(t, "P6.2", api.Schema{}, s, e)
		if m, fault := schema.Method(s, "S", "m"); !reflect.DeepEqual(m, api.Method{}) || fault != e {
			t.Errorf("P6.1: Method: %v, %d; want %d", m, fault, e)
		}
		if n, fault := schema.Depth(s, "A"); n != 0 || fault != e {
			t.Errorf("P6.1: Depth: %d, %d; want %d", n, fault, e)
		}
	}
}

// TestNames: no two declarations have one name, of whatever kinds they are; parts may have it.
func TestNames(t *testing.T) {
	decls := []string{"struct A { 1 A : ? A ; 2 a : int ; } ", "enum A { 1 A ; 2 a ; } ", "service A { once A ( int ) int ; read a ( int ) int ; } "}
	other := func(text string) string { return strings.Replace(text, " A { ", " B { ", 1) }
	for i, first := range decls {
		wantText(t, strings.Replace(first, "? A", "int", 1), api.OK)
		for j, second := range decls {
			wantText(t, first+second, api.ErrTwice)
			wantText(t, first+"struct C { } enum D { 1 a ; } service F { once a ( int ) int ; } "+second, api.ErrTwice)
			text := first + other(second)
			if i == 2 && j == 0 {
				wantText(t, text, api.ErrType)
			} else {
				wantText(t, text, api.OK)
			}
		}
	}
	wantText(t, "struct A { } struct a { }", api.OK)
}

func TestNumbers(t *testing.T) {
	for _, x := range []struct {
		numbers        string
		inStruct, enum api.Errno
	}{
		{"0", api.ErrRange, api.OK},
		{"0 1", api.ErrRange, api.OK},
		{"1 0", api.ErrRange, api.ErrField},
		{"0 0", api.ErrRange, api.ErrField},
		{"1", api.OK, api.OK},
		{"1 1", api.ErrField, api.ErrField},
		{"1 2 3", api.OK, api.OK},
		{"1 3 2", api.ErrField, api.ErrField},
		{"1 2 1", api.ErrField, api.ErrField},
		{"2 1", api.ErrField, api.ErrField},
		{"7 900 65535 65536", api.OK, api.OK},
		{"65536", api.OK, api.OK},
		{"65537", api.ErrRange, api.ErrRange},
		{"1 65536 65537", api.ErrRange, api.ErrRange},
		{"999999999", api.ErrRange, api.ErrRange},
		{"65536 65536", api.ErrField, api.ErrField},
		{"65537 65537", api.ErrRange, api.ErrRange},
		{"2 1 65537", api.ErrRange, api.ErrRange},
	} {
		fields, cases := "", ""
		for i, n := range strings.Fields(x.numbers) {
			fields += n + " p" + strconv.Itoa(i) + " : int ; "
			cases += n + " p" + strconv.Itoa(i) + " ; "
		}
		wantText(t, "struct A { "+fields+"}", x.inStruct)
		wantText(t, "struct B { } struct A { "+fields+"} struct C { }", x.inStruct)
		wantText(t, "enum A { "+cases+"}", x.enum)
		wantText(t, "enum B { 5 b ; } enum A { "+cases+"} enum C { 1 b ; }", x.enum)
	}
}

func TestNamesOfParts(t *testing.T) {
	wantText(t, "struct A { 1 a : int ; 2 b : int ; 3 a : int ; }", api.ErrField)
	wantText(t, "struct A { 1 a : int ; 2 a : text ; }", api.ErrField)
	wantText(t, "struct A { 1 a : int ; 2 A : int ; } struct B { 1 a : int ; 2 A : int ; }", api.OK)
	wantText(t, "enum A { 1 a ; 2 b ; 3 a ; }", api.ErrField)
	wantText(t, "enum A { 1 a ; 2 a ; }", api.ErrField)
	wantText(t, "enum A { 1 a ; 2 A ; } enum B { 1 a ; 2 A ; }", api.OK)
	wantText(t, "service S { once a ( int ) int ; read b ( int ) int ; read a ( int ) text ; }", api.ErrField)
	wantText(t, "service S { once a ( int ) int ; once a ( int ) int ; }", api.ErrField)
	wantText(t, "service S { once a ( int ) int ; read A ( int ) int ; } service T { once A ( int ) int ; read a ( int ) int ; }", api.OK)
	wantText(t, "enum A { }", api.ErrCount)
	wantText(t, "enum A { 1 a ; } enum B { }", api.ErrCount)
	wantText(t, "service S { }", api.ErrCount)
	wantText(t, "service S { once a ( int ) int ; } service T { }", api.ErrCount)
}

// TestTypes: names stand for structs and enums, ahead of the type or behind it, at any depth of a type.
func TestTypes(t *testing.T) {
	decls := "struct P { } enum E { 1 a ; } service S { once a ( int ) int ; } "
	for _, around := range []string{"%", "[ % ]", "? %", "[ ? % ]", "? [ [ ? [ ? [ % ] ] ] ]", "??????? %"} {
		for name, e := range map[string]api.Errno{"P": api.OK, "E": api.OK, "S": api.ErrType, "X": api.ErrType, "p": api.ErrType, "a": api.ErrType, "T": api.OK, "U": api.ErrType, "int": api.OK} {
			x := strings.Replace(around, "%", name, 1)
			inStruct := e
			if name == "T" && x == "T" {
				inStruct = api.ErrDepth
			}
			for _, text := range []string{decls + "struct T { 1 t : " + x + " ; }", "struct T { 1 t : " + x + " ; } " + decls, decls + "struct T { 1 s : int ; 2 t : " + x + " ; 3 u : P ; }"} {
				wantText(t, text, inStruct)
			}
			wantText(t, decls+"struct T { } service U { once a ( "+x+" ) int ; }", e)
			wantText(t, decls+"struct T { } service U { read a ( int ) "+x+" ; }", e)
			wantText(t, "service U { read a ( int ) P ; once b ( E ) "+x+" ; } struct T { } "+decls, e)
		}
	}
}

// chain is n structs, each within the one ahead of it, the last one with these fields, in an order.
func chain(order []int, around, last string) string {
	text := ""
	for _, i := range order {
		name := "struct A" + strconv.Itoa(i) + " { "
		if i == len(order)-1 {
			text += name + last + "}\n"
		} else {
			text += name + "1 a : int ; 2 b : " + strings.Replace(around, "%", "A"+strconv.Itoa(i+1), 1) + " ; 3 c : text ; }\n"
		}
	}
	return text
}

func TestDepth(t *testing.T) {
	r := rand.New(rand.NewSource(61))
	for n := 1; n <= 40; n++ {
		for range 5 {
			order := r.Perm(n)
			e := api.OK
			if n > mostDepth {
				e = api.ErrDepth
			}
			text := chain(order, "%", "")
			wantText(t, text, e)
			for i := range n {
				got, fault := schema.Depth(parsed(t, text), "A"+strconv.Itoa(i))
				if e == api.OK && (got != n-i || fault != api.OK) || fault != e {
					t.Errorf("P6.1: Depth: %d, %d; want %d, %d", got, fault, n-i, e)
				}
			}
			wantText(t, chain(order, "[ % ]", ""), api.OK)
			wantText(t, chain(order, "? %", ""), api.OK)
			// A ring of structs has no depth, wherever it begins.
			wantText(t, chain(order, "%", "1 a : A"+strconv.Itoa(r.Intn(n))+" ; "), api.ErrDepth)
			// Behind an optional one it has: but for the last one, if it is within itself.
			back := r.Intn(n)
			e = api.OK
			if back == n-1 {
				e = api.ErrDepth
			}
			wantText(t, chain(order, "? %", "1 a : A"+strconv.Itoa(back)+" ; "), e)
		}
	}
	wantText(t, "struct B { } struct C { 1 b : B ; } struct A { 1 a : A ; }", api.ErrDepth)
	wantText(t, "struct B { 1 a : A ; } struct A { 1 c : C ; } struct C { 1 c : C ; }", api.ErrDepth)
	wantText(t, "struct B { 1 a : A ; } struct A { 1 b : ? B ; }", api.OK)
	wantText(t, "struct B { 1 a : A ; } struct A { 1 b : [ B ] ; 2 c : [ A ] ; }", api.OK)
}

// TestDepthOf: it is the greatest of what the fields need that counts, and structs alone need something.
func TestDepthOf(t *testing.T) {
	s := parsed(t, whole+`
struct Deep { 1 a : Q ; 2 b : P ; 3 c : R ; 4 d : int ; }
struct Flat { 1 a : [ Deep ] ; 2 b : ? Deep ; 3 c : E ; 4 d : bytes ; }
`)
	for name, want := range map[string]int{"R": 1, "Q": 2, "P": 3, "Deep": 4, "Flat": 1} {
		if n, e := schema.Depth(s, name); n != want || e != api.OK {
			t.Errorf("P6.1: Depth of %s: %d, %d; want %d", name, n, e, want)
		}
	}
	for _, name := range []string{"", "E", "S", "x", "a", "p", "int", "P ", strings.Repeat("P", 100)} {
		if n, e := schema.Depth(s, name); n != 0 || e != api.ErrNone {
			t.Errorf("P6.1: Depth of %q: %d, %d; want ErrNone", name, n, e)
		}
	}
	if n, e := schema.Depth(api.Schema{}, ""); n != 0 || e != api.ErrNone {
		t.Errorf("P6.1: Depth of no schema: %d, %d", n, e)
	}
}

// fields are n of them, from the number at on, of one type.
func fields(at, n int, kind string) string {
	text := ""
	for i := range n {
		number := strconv.Itoa(at + i)
		text += number + " f" + number + " : " + kind + " ; "
	}
	return text
}

func TestWeight(t *testing.T) {
	most := "struct M { " + fields(1, 32, "int") + "} "
	enum := "enum E { 1 a ; } "
	wantText(t, most, api.OK)
	for _, kind := range []string{"int", "[ M ]", "? M", "E", "? A", "[ [ A ] ]"} {
		// 1, 33 of M, and 30 others are 64.
		wantText(t, most+enum+"struct A { 1 m : M ; "+fields(2, 30, kind)+"}", api.OK)
		wantText(t, "struct A { "+fields(2, 30, kind)+"40 m : M ; } "+enum+most, api.OK)
		wantText(t, most+enum+"struct A { 1 m : M ; "+fields(2, 31, kind)+"}", api.ErrLong)
		wantText(t, "struct A { "+fields(2, 31, kind)+"40 m : M ; } "+enum+most, api.ErrLong)
	}
	wantText(t, most+"struct A { 1 m : M ; 2 n : M ; }", api.ErrLong)
	wantText(t, "struct A { 1 m : B ; 2 n : C ; } struct B { "+fields(1, 30, "int")+"} struct C { "+fields(1, 31, "int")+"}", api.OK)
	wantText(t, "struct A { 1 m : B ; 2 n : C ; } struct B { "+fields(1, 31, "int")+"} struct C { "+fields(1, 31, "int")+"}", api.ErrLong)
	// A struct without fields comes to 1.
	wantText(t, "struct N { } struct A { "+fields(1, 32, "N")+"}", api.OK)
	// 1, 32 of L, and 31 others are 64.
	wantText(t, "struct N { } struct L { "+fields(1, 31, "N")+"} struct A { 1 l : L ; "+fields(2, 31, "N")+"}", api.OK)
	wantText(t, "struct N { } struct L { "+fields(1, 32, "N")+"} struct A { 1 l : L ; "+fields(2, 31, "N")+"}", api.ErrLong)
	// 2, 5, 11, 23, 47: two of each within the next.
	two := "struct A1 { 1 a : int ; } "
	for i := 2; i <= 5; i++ {
		two += "struct A" + strconv.Itoa(i) + " { " + fields(1, 2, "A"+strconv.Itoa(i-1)) + "} "
	}
	wantText(t, two, api.OK)
	wantText(t, two+"struct A6 { 1 a : A5 ; "+fields(2, 16, "int")+"} ", api.OK)
	wantText(t, two+"struct A6 { 1 a : A5 ; "+fields(2, 17, "int")+"} ", api.ErrLong)
	wantText(t, two+"struct A6 { 1 a : A5 ; 2 b : A3 ; "+fields(3, 5, "int")+"} ", api.OK)
	wantText(t, two+"struct A6 { 1 a : A5 ; 2 b : A3 ; "+fields(3, 6, "int")+"} ", api.ErrLong)
	wantText(t, two+"struct A6 { 1 a : A5 ; 2 b : A4 ; } ", api.ErrLong)
}

// TestHeavy: what comes to more than any list holds is told at once.
func TestHeavy(t *testing.T) {
	text := ""
	for i := range 8 {
		text += "struct A" + strconv.Itoa(i) + " { " + fields(1, 32, "A"+strconv.Itoa(i+1)) + "} "
	}
	wantText(t, text+"enum A8 { 1 a ; }", api.ErrLong)
	wantText(t, "enum A8 { 1 a ; }"+text, api.ErrLong)
	wantText(t, text+"struct A8 { }", api.ErrDepth)
	wantText(t, text+"struct A8 { 1 a : A0 ; }", api.ErrDepth)
	all := ""
	for i := range 63 {
		all += "struct B" + strconv.Itoa(i) + " { " + fields(1, 32, "B"+strconv.Itoa(i+1)) + "} "
	}
	wantText(t, all, api.ErrType)
	wantText(t, all+"struct B63 { }", api.ErrDepth)
	wantText(t, all+"struct B63 { "+fields(1, 32, "B0")+"}", api.ErrDepth)
}

// wrong is something that makes a schema one that may not be, or not be extended, and how that is told.
type wrong struct {
	what string
	do   func(s *api.Schema)
	e    api.Errno
}

// base is a schema of two declarations a kind, and two parts each.
const base = `
struct A { 10 a : int ; 20 b : E ; }
struct B { 10 a : A ; 20 b : [ B ] ; }
enum E { 10 a ; 20 b ; }
enum F { 10 a ; 20 b ; }
service S { once a ( int ) A ; read b ( E ) int ; }
service T { once a ( int ) B ; read b ( F ) int ; }
`

// mistakes are wrong things of the schema base, in the order in which the chapter names them.
func mistakes() []wrong {
	var all []wrong
	add := func(what string, e api.Errno, do func(s *api.Schema)) { all = append(all, wrong{what, do, e}) }
	addField := func(i int, f api.Field) func(s *api.Schema) {
		return func(s *api.Schema) { s.Structs[i].Fields = append(s.Structs[i].Fields, f) }
	}
	addCase := func(i int, c api.Case) func(s *api.Schema) {
		return func(s *api.Schema) { s.Enums[i].Cases = append(s.Enums[i].Cases, c) }
	}
	addMethod := func(i int, m api.Method) func(s *api.Schema) {
		return func(s *api.Schema) { s.Services[i].Methods = append(s.Services[i].Methods, m) }
	}
	add("no text", api.ErrName, func(s *api.Schema) { s.Services = append(s.Services, api.Service{Name: "once"}) })
	add("twice", api.ErrTwice, func(s *api.Schema) {
		s.Services = append(s.Services, api.Service{Name: "T", Methods: []api.Method{{Name: "m", Arg: api.Type{Kind: 1}, Result: api.Type{Kind: 1}}}})
	})
	for i := range 2 {
		add("a field's number", api.ErrRange, addField(i, api.Field{Name: "high", Number: 65537, Type: api.Type{Kind: 1}}))
		add("a field's name", api.ErrField, func(s *api.Schema) { s.Structs[i].Fields[1].Name = "a" })
		add("a field's type", api.ErrType, func(s *api.Schema) { s.Structs[i].Fields[0].Type = byName("X") })
	}
	for i := range 2 {
		add("no case", api.ErrCount, func(s *api.Schema) { s.Enums[i].Cases = nil })
		add("a case's number", api.ErrRange, addCase(i, api.Case{Name: "high", Number: 65537}))
		add("a case's name", api.ErrField, addCase(i, api.Case{Name: "a", Number: 65536}))
	}
	for i := range 2 {
		add("no method", api.ErrCount, func(s *api.Schema) { s.Services[i].Methods = nil })
		add("a method's name", api.ErrField, addMethod(i, api.Method{Name: "a", Arg: api.Type{Kind: 1}, Result: api.Type{Kind: 1}}))
		add("an Arg", api.ErrType, addMethod(i, api.Method{Name: "x", Arg: byName("X"), Result: api.Type{Kind: 1}}))
		add("a Result", api.ErrType, addMethod(i, api.Method{Name: "y", Arg: api.Type{Kind: 1}, Result: byName("X")}))
	}
	add("a struct within itself", api.ErrDepth, func(s *api.Schema) {
		s.Structs = append(s.Structs, api.Struct{Name: "Self", Fields: []api.Field{{Name: "a", Number: 1, Type: byName("Self")}}})
	})
	add("a heavy struct", api.ErrLong, func(s *api.Schema) {
		l := slices.Clone(s.Structs)
		heavy := api.Struct{Name: "Heavy"}
		for i := range 32 {
			heavy.Fields = append(heavy.Fields, api.Field{Name: "f" + strconv.Itoa(i), Number: 1 + i, Type: byName("Light")})
		}
		light := api.Struct{Name: "Light", Fields: []api.Field{{Name: "a", Number: 1, Type: api.Type{Kind: 1}}}}
		s.Structs = append(l, heavy, light)
	})
	return all
}

// TestOrder: of two wrong things the one that the chapter names first counts.
func TestOrder(t *testing.T) {
	wantText(t, base, api.OK)
	all := mistakes()
	for i, first := range all {
		s := parsed(t, base)
		first.do(&s)
		if e := schema.Check(s); e != first.e {
			t.Errorf("P6.1: Check: %s: %d, want %d", first.what, e, first.e)
		}
		for _, second := range all[i+1:] {
			s := parsed(t, base)
			// The first one is done last, as it may empty the list that the second one adds to.
			second.do(&s)
			first.do(&s)
			if e := schema.Check(s); e != first.e || e != slowCheck(s) {
				t.Errorf("P6.1: Check: %s ahead of %s: %d, want %d", first.what, second.what, e, first.e)
			}
		}
	}
}

// TestOrderWithin: within one declaration a kind of error goes over all its parts ahead of the next one.
func TestOrderWithin(t *testing.T) {
	wantText(t, "struct A { 1 a : X ; 1 a : int ; 65537 c : int ; }", api.ErrRange)
	wantText(t, "struct A { 2 a : X ; 1 b : int ; }", api.ErrField)
	wantText(t, "struct A { 1 a : X ; 2 a : int ; }", api.ErrField)
	wantText(t, "struct A { 2 a : int ; 1 b : int ; 0 c : int ; }", api.ErrRange)
	wantText(t, "struct A { 1 a : X ; } struct B { 0 a : int ; }", api.ErrType)
	wantText(t, "struct A { 2 a : int ; 1 b : int ; } struct B { 0 a : int ; }", api.ErrField)
	wantText(t, "enum A { 2 a ; 1 b ; 65537 c ; }", api.ErrRange)
	wantText(t, "enum A { 1 a ; 2 a ; 65537 c ; }", api.ErrRange)
	wantText(t, "enum A { 2 a ; 1 b ; } enum B { }", api.ErrField)
	wantText(t, "enum A { 2 a ; 1 b ; } enum B { 65537 c ; }", api.ErrField)
	wantText(t, "service S { once a ( X ) int ; once a ( int ) int ; }", api.ErrField)
	wantText(t, "service S { once a ( X ) int ; } service T { }", api.ErrType)
	wantText(t, "service S { once a ( X ) int ; } service T { once a ( int ) int ; once a ( int ) int ; }", api.ErrType)
	wantText(t, "service S { } enum E { } struct A { 1 a : X ; }", api.ErrType)
	wantText(t, "service S { } enum E { 65537 a ; } struct A { }", api.ErrRange)
	wantText(t, "struct A { 1 a : A ; } enum E { }", api.ErrCount)
	wantText(t, "struct A { 1 a : A ; } service S { }", api.ErrCount)
	heavy := "struct H { " + fields(1, 32, "L") + "} struct L { 1 a : int ; } "
	wantText(t, heavy, api.ErrLong)
	wantText(t, heavy+"struct A { 1 a : A ; }", api.ErrDepth)
	wantText(t, heavy+chain([]int{0, 1, 2, 3, 4, 5, 6, 7, 8}, "%", ""), api.ErrDepth)
	wantText(t, heavy+"service S { }", api.ErrCount)
}

func wantFind(t *testing.T, s api.Schema, name string, kind, at int) {
	t.Helper()
	if k, i := schema.Find(s, name); k != kind || i != at {
		t.Errorf("P6.1: Find %q: %d, %d; want %d, %d", name, k, i, kind, at)
	}
}

func TestFind(t *testing.T) {
	s := parsed(t, whole)
	for kind := 1; kind <= 3; kind++ {
		for at, name := range declared(s, kind) {
			wantFind(t, s, name, kind, at)
		}
	}
	for _, name := range []string{"", "x", "a", "none", "p", "int", "PQ", "P ", strings.Repeat("P", 10000)} {
		wantFind(t, s, name, 0, 0)
		wantFind(t, api.Schema{}, name, 0, 0)
	}
}

// TestFindFirst: Find takes any schema; of several it tells the first one.
func TestFindFirst(t *testing.T) {
	s := api.Schema{
		Structs:  []api.Struct{{Name: "a"}, {Name: "b"}, {Name: "a"}, {Name: "int"}},
		Enums:    []api.Enum{{Name: "c"}, {Name: "b"}, {Name: "d"}, {Name: "d"}, {Name: ""}},
		Services: []api.Service{{Name: "d"}, {Name: "c"}, {Name: ""}, {Name: "e"}, {Name: "e"}, {Name: "\xff"}},
	}
	wantFind(t, s, "a", 1, 0)
	wantFind(t, s, "b", 1, 1)
	wantFind(t, s, "int", 1, 3)
	wantFind(t, s, "c", 2, 0)
	wantFind(t, s, "d", 2, 2)
	wantFind(t, s, "", 2, 4)
	wantFind(t, s, "e", 3, 3)
	wantFind(t, s, "\xff", 3, 5)
	long := api.Schema{Structs: make([]api.Struct, 100000), Enums: make([]api.Enum, 100000), Services: make([]api.Service, 100000)}
	long.Services[99999].Name = "last"
	wantFind(t, long, "last", 3, 99999)
	wantFind(t, long, "", 1, 0)
}

func TestMethod(t *testing.T) {
	s := parsed(t, whole)
	for _, x := range s.Services {
		for _, want := range x.Methods {
			m, e := schema.Method(s, x.Name, want.Name)
			if !reflect.DeepEqual(m, want) || e != api.OK {
				t.Errorf("P6.1: Method %s of %s: %v, %d; want %v", want.Name, x.Name, m, e, want)
			}
		}
	}
	for _, x := range [][2]string{{"S", "c"}, {"S", ""}, {"", "a"}, {"", ""}, {"T", "b"}, {"P", "x"}, {"P", "a"}, {"E", "some"}, {"s", "a"}, {"S", "A"}, {"a", "S"}, {"S", "S"}, {"U", "a"}} {
		if m, e := schema.Method(s, x[0], x[1]); !reflect.DeepEqual(m, api.Method{}) || e != api.ErrNone {
			t.Errorf("P6.1: Method %q of %q: %v, %d; want ErrNone", x[1], x[0], m, e)
		}
	}
	if m, e := schema.Method(api.Schema{}, "", ""); !reflect.DeepEqual(m, api.Method{}) || e != api.ErrNone {
		t.Errorf("P6.1: Method of no schema: %v, %d", m, e)
	}
	// Empty lists are as nil ones.
	s.Services[0].Methods[0].Arg.Of = []api.Type{}
	if m, e := schema.Method(s, "S", "a"); len(m.Arg.Of) != 0 || m.Arg.Kind != 2 || e != api.OK {
		t.Errorf("P6.1: Method with an empty list: %v, %d", m, e)
	}
}

func TestExtends(t *testing.T) {
	for _, x := range []struct {
		a, b string
		e    api.Errno
	}{
		{"", "", api.OK},
		{"", base, api.OK},
		{base, "", api.ErrNone},
		{"struct A { }", "struct A { }", api.OK},
		{"struct A { }", "struct B { }", api.ErrNone},
		{"struct A { }", "enum A { 1 a ; }", api.ErrNone},
		{"struct A { }", "service A { once a ( int ) int ; }", api.ErrNone},
		{"enum A { 1 a ; }", "struct A { }", api.ErrNone},
		{"enum A { 1 a ; }", "service A { once a ( int ) int ; }", api.ErrNone},
		{"service A { once a ( int ) int ; }", "struct A { }", api.ErrNone},
		{"service A { once a ( int ) int ; }", "enum A { 1 a ; }", api.ErrNone},
		{"struct A { }", "struct B { 1 a : A ; } struct A { 1 b : int ; } enum E { 1 a ; }", api.OK},
		{"struct A { 2 a : int ; }", "struct A { 2 a : int ; }", api.OK},
		{"struct A { 2 a : int ; }", "struct A { 1 b : int ; 2 a : int ; 3 c : int ; }", api.OK},
		{"struct A { 2 a : int ; 4 b : text ; }", "struct A { 2 a : int ; 3 d : int ; 4 b : text ; }", api.OK},
		{"struct A { 2 a : int ; }", "struct A { }", api.ErrField},
		{"struct A { 2 a : int ; }", "struct A { 3 a : int ; }", api.ErrField},
		{"struct A { 2 a : int ; }", "struct A { 2 b : int ; }", api.ErrField},
		{"struct A { 2 a : int ; }", "struct A { 2 a : uint ; }", api.ErrField},
		{"struct A { 2 a : int ; }", "struct A { 1 a : int ; 2 b : int ; }", api.ErrField},
		{"struct A { 2 a : int ; }", "struct A { 2 a : ? int ; }", api.ErrField},
		{"struct A { 2 a : ? int ; }", "struct A { 2 a : [ int ] ; }", api.ErrField},
		{"struct A { 2 a : ? int ; }", "struct A { 2 a : ? uint ; }", api.ErrField},
		{"struct A { 2 a : ? [ A ] ; }", "struct A { 2 a : ? [ A ] ; }", api.OK},
		{"struct A { 2 a : ? [ A ] ; }", "struct A { 2 a : ? [ B ] ; } struct B { }", api.ErrField},
		{"struct A { 2 a : B ; } struct B { }", "struct A { 2 a : C ; } struct B { } struct C { }", api.ErrField},
		{"struct A { 2 a : B ; } struct B { }", "struct A { 2 a : B ; } enum B { 1 a ; }", api.ErrNone},
		{"enum A { 1 a ; }", "enum A { 1 a ; 2 b ; }", api.OK},
		{"enum A { 1 a ; 3 c ; }", "enum A { 1 a ; 2 b ; 3 c ; 4 d ; }", api.OK},
		{"enum A { 1 a ; 3 c ; }", "enum A { 1 a ; 2 b ; }", api.ErrNone},
		{"enum A { 1 a ; 3 c ; }", "enum A { 1 a ; 2 c ; }", api.ErrField},
		{"enum A { 1 a ; 3 c ; }", "enum A { 1 a ; 2 c ; 3 d ; }", api.ErrField},
		{"enum A { 1 a ; 3 c ; }", "enum A { 1 b ; 3 c ; }", api.ErrNone},
		{"enum A { 1 a ; 3 c ; }", "enum A { 0 b ; 1 a ; 3 c ; }", api.ErrField},
		{"enum A { 1 a ; }", "enum A { 0 a ; 1 b ; }", api.ErrField},
		{"enum A { 1 a ; } enum B { 1 a ; }", "enum A { 0 z ; 1 a ; }", api.ErrField},
		{"enum A { 1 a ; 2 b ; }", "enum A { 0 z ; 1 a ; }", api.ErrNone},
		{"service A { once a ( int ) int ; }", "service A { read b ( int ) text ; once a ( int ) int ; }", api.OK},
		{"service A { once a ( int ) int ; read b ( text ) text ; }", "service A { read b ( text ) text ; once a ( int ) int ; }", api.OK},
		{"service A { once a ( int ) int ; }", "service A { once b ( int ) int ; }", api.ErrNone},
		{"service A { once a ( int ) int ; }", "service A { read a ( int ) int ; }", api.ErrField},
		{"service A { read a ( int ) int ; }", "service A { once a ( int ) int ; }", api.ErrField},
		{"service A { once a ( int ) int ; }", "service A { once a ( uint ) int ; }", api.ErrField},
		{"service A { once a ( int ) int ; }", "service A { once a ( int ) ? int ; }", api.ErrField},
		{"service A { once a ( [ B ] ) ? C ; } struct B { } struct C { }", "service A { once a ( [ C ] ) ? C ; } struct B { } struct C { }", api.ErrField},
		{"service A { once a ( [ B ] ) ? C ; } struct B { } struct C { }", "service A { once a ( [ B ] ) ? B ; } struct B { } struct C { }", api.ErrField},
		{"service A { once a ( [ B ] ) ? C ; } struct B { } struct C { }", "struct C { 1 a : int ; } struct B { 1 a : int ; } service A { once a ( [ B ] ) ? C ; }", api.OK},
		// Of several the first, of structs, enums, services, each part by part.
		{"struct A { 1 a : int ; } struct B { }", "struct A { }", api.ErrField},
		{"struct B { } struct A { 1 a : int ; }", "struct A { }", api.ErrNone},
		{"enum A { 1 a ; } struct A1 { 1 a : int ; }", "struct A1 { }", api.ErrField},
		{"service S { once a ( int ) int ; } enum A { 1 a ; 2 b ; }", "enum A { 1 a ; 3 b ; }", api.ErrField},
		{"service S { once a ( int ) int ; } enum A { 1 a ; }", "service S { read a ( int ) int ; }", api.ErrNone},
		{"enum A { 1 a ; 2 b ; 3 c ; }", "enum A { 1 a ; 3 b ; }", api.ErrField},
		{"enum A { 1 a ; 2 b ; 3 c ; }", "enum A { 1 a ; 4 c ; }", api.ErrNone},
		{"service S { once a ( int ) int ; once b ( int ) int ; }", "service S { read a ( int ) int ; }", api.ErrField},
		{"service S { once a ( int ) int ; once b ( int ) int ; }", "service S { read b ( int ) int ; }", api.ErrNone},
	} {
		a, b := parsed(t, x.a), parsed(t, x.b)
		wantExtends(t, "P6.2", a, b, x.e)
		if e := slowExtends(a, b); e != x.e {
			t.Errorf("the slow Extends of %q, %q: %d, want %d", x.a, x.b, e, x.e)
		}
	}
}

// TestExtendsChecks: a's error goes ahead of b's, and both of all else.
func TestExtendsChecks(t *testing.T) {
	for _, first := range mistakes() {
		for _, second := range mistakes() {
			a, b := parsed(t, base), parsed(t, base)
			first.do(&a)
			second.do(&b)
			wantExtends(t, "P6.2", a, b, first.e)
			wantExtends(t, "P6.2", parsed(t, whole), b, second.e)
			wantExtends(t, "P6.2", a, parsed(t, whole), first.e)
		}
	}
}

// TestExtendsNilOrEmpty: empty lists are as nil ones.
func TestExtendsNilOrEmpty(t *testing.T) {
	a, b := parsed(t, base), parsed(t, base)
	for i := range b.Structs {
		for j := range b.Structs[i].Fields {
			if b.Structs[i].Fields[j].Type.Of == nil {
				b.Structs[i].Fields[j].Type.Of = []api.Type{}
			}
		}
	}
	b.Services[0].Methods[0].Arg.Of = []api.Type{}
	b.Services[0].Methods[1].Result.Of = []api.Type{}
	wantExtends(t, "P6.2", a, b, api.OK)
	wantExtends(t, "P6.2", b, a, api.OK)
	wantExtends(t, "P6.2", api.Schema{}, api.Schema{Structs: []api.Struct{}}, api.OK)
}

func randType(r *rand.Rand, names ...string) api.Type {
	switch n := 1 + r.Intn(9); {
	case n <= 5 || len(names) == 0:
		return api.Type{Kind: 1 + n%5}
	case n <= 7:
		return of(n, randType(r, names...))
	}
	return byName(names[r.Intn(len(names))])
}

// flat keeps a type from needing depth most of the time, so that most schemas may be.
func flat(r *rand.Rand, t api.Type) api.Type {
	if t.Kind == 8 && r.Intn(3) > 0 {
		return of(6+r.Intn(2), t)
	}
	return t
}

// randSchema is a schema out of few names and numbers, which often may be.
func randSchema(r *rand.Rand) api.Schema {
	var s api.Schema
	names := []string{"A", "B", "C", "D", "E", "F"}
	if r.Intn(10) == 0 {
		names[5] = "A"
	}
	cut := [2]int{r.Intn(4), 3 + r.Intn(3)}
	types := names[:cut[1]]
	if r.Intn(10) == 0 {
		types = names
	}
	number := 0
	next := func() int {
		number += 1 + r.Intn(2)
		if r.Intn(100) == 0 {
			number = []int{0, 1, 65536, 65537}[r.Intn(4)]
		}
		return number
	}
	part := func() string {
		if r.Intn(100) == 0 {
			return "p"
		}
		return "p" + strconv.Itoa(number)
	}
	for _, name := range names[:cut[0]] {
		number = 0
		x := api.Struct{Name: name}
		for range r.Intn(4) {
			n := next()
			x.Fields = append(x.Fields, api.Field{Name: part(), Number: n, Type: flat(r, randType(r, types...))})
		}
		s.Structs = append(s.Structs, x)
	}
	for _, name := range names[cut[0]:cut[1]] {
		number = r.Intn(2) - 1
		x := api.Enum{Name: name}
		for range (r.Intn(20) + 6) / 6 {
			n := next()
			x.Cases = append(x.Cases, api.Case{Name: part(), Number: n})
		}
		s.Enums = append(s.Enums, x)
	}
	for _, name := range names[cut[1]:] {
		x := api.Service{Name: name}
		number = 0
		for range (r.Intn(20) + 6) / 6 {
			next()
			x.Methods = append(x.Methods, api.Method{Name: part(), Once: r.Intn(4) > 0, Arg: randType(r, types...), Result: randType(r, types...)})
		}
		s.Services = append(s.Services, x)
	}
	return s
}

// grown is s with more at its places: it extends s, if both may be.
func grown(r *rand.Rand, s api.Schema) api.Schema {
	var g api.Schema
	more := strconv.Itoa(r.Intn(1000))
	for _, x := range s.Structs {
		x.Fields = slices.Clone(x.Fields)
		if r.Intn(2) == 0 {
			x.Fields = append(x.Fields, api.Field{Name: "m" + more, Number: 20000 + r.Intn(1000), Type: randType(r, declared(s, 1+r.Intn(2))...)})
			slices.SortFunc(x.Fields, func(a, b api.Field) int { return a.Number - b.Number })
		}
		g.Structs = append(g.Structs, x)
	}
	for _, x := range s.Enums {
		x.Cases = slices.Clone(x.Cases)
		if r.Intn(2) == 0 {
			x.Cases = append(x.Cases, api.Case{Name: "m" + more, Number: 20000 + r.Intn(1000)})
			slices.SortFunc(x.Cases, func(a, b api.Case) int { return a.Number - b.Number })
		}
		g.Enums = append(g.Enums, x)
	}
	for _, x := range s.Services {
		x.Methods = slices.Clone(x.Methods)
		if r.Intn(2) == 0 {
			x.Methods = slices.Insert(x.Methods, r.Intn(len(x.Methods)+1), api.Method{Name: "m" + more, Arg: randType(r), Result: randType(r)})
		}
		g.Services = append(g.Services, x)
	}
	if r.Intn(2) == 0 {
		g.Structs = slices.Insert(g.Structs, r.Intn(len(g.Structs)+1), api.Struct{Name: "N" + more})
	}
	r.Shuffle(len(g.Enums), func(i, j int) { g.Enums[i], g.Enums[j] = g.Enums[j], g.Enums[i] })
	return g
}

// TestRandom: schemas out of few names, by the slow ones.
func TestRandom(t *testing.T) {
	r := rand.New(rand.NewSource(62))
	seen := map[api.Errno]int{}
	for range 20000 {
		s := randSchema(r)
		e := slowCheck(s)
		seen[e]++
		wantCheck(t, s, e)
		if text := told(s); e == api.OK {
			wantLoad(t, text, s, 0, api.OK)
			wantExtends(t, "P6.3", s, s, api.OK)
			for name, want := range slowDepths(s) {
				if n, e := schema.Depth(s, name); n != want || e != api.OK {
					t.Errorf("P6.1: Depth of %s: %d, %d; want %d:\n%s", name, n, e, want, text)
				}
			}
		} else {
			wantLoad(t, text, api.Schema{}, 0, e)
		}
	}
	for _, e := range []api.Errno{api.OK, api.ErrTwice, api.ErrRange, api.ErrField, api.ErrType, api.ErrDepth} {
		if seen[e] < 50 {
			t.Errorf("only %d random schemas of error %d", seen[e], e)
		}
	}
}

// TestRandomExtends: a schema, one that grew out of it, one that is near, and what follows of three.
func TestRandomExtends(t *testing.T) {
	r := rand.New(rand.NewSource(63))
	seen := map[api.Errno]int{}
	hold := func(a, b api.Schema) bool {
		e := slowExtends(a, b)
		seen[e]++
		wantExtends(t, "P6.2", a, b, e)
		return e == api.OK
	}
	rows := 0
	for range 5000 {
		a := randSchema(r)
		b := grown(r, a)
		c := grown(r, b)
		if r.Intn(3) == 0 {
			c = grown(r, a)
		}
		near := randSchema(r)
		if hold(a, b) && hold(b, c) {
			rows++
			wantExtends(t, "P6.3", a, c, api.OK)
		}
		hold(a, c)
		hold(c, b)
		hold(b, a)
		hold(a, near)
	}
	for _, e := range []api.Errno{api.OK, api.ErrNone, api.ErrField} {
		if seen[e] < 50 || rows < 50 {
			t.Errorf("only %d random schemas of error %d, %d rows", seen[e], e, rows)
		}
	}
}

// TestFollows: of all schemas with one small struct, enum and service each, what extends what extends one extends that.
func TestFollows(t *testing.T) {
	var all []api.Schema
	for _, a := range []string{"", "struct A { }", "struct A { 1 a : int ; }", "struct A { 1 a : uint ; }", "struct A { 1 a : int ; 2 b : int ; }"} {
		for _, e := range []string{"", "enum E { 1 a ; }", "enum E { 1 a ; 2 b ; }", "enum E { 0 b ; 1 a ; }"} {
			for _, s := range []string{"", "service S { once a ( int ) int ; }", "service S { read b ( int ) int ; once a ( int ) int ; }", "service S { read a ( int ) int ; }"} {
				all = append(all, parsed(t, a+" "+e+" "+s))
			}
		}
	}
	extends := make([][]bool, len(all))
	for i, a := range all {
		for _, b := range all {
			e := schema.Extends(a, b)
			if e != slowExtends(a, b) {
				t.Errorf("P6.2: Extends: %d:\n%s--\n%s", e, told(a), told(b))
			}
			extends[i] = append(extends[i], e == api.OK)
		}
		if !extends[i][i] {
			t.Errorf("P6.3: it does not extend itself:\n%s", told(a))
		}
	}
	for i := range all {
		for j := range all {
			for k := range all {
				if extends[i][j] && extends[j][k] && !extends[i][k] {
					t.Errorf("P6.3: what extends what extends does not:\n%s--\n%s--\n%s", told(all[i]), told(all[j]), told(all[k]))
				}
			}
		}
	}
}

// TestMost: as many declarations and parts as a schema may have.
func TestMost(t *testing.T) {
	text := ""
	for i := range 64 {
		text += "struct A" + strconv.Itoa(i) + " { "
		for j := range 32 {
			text += strconv.Itoa(65505+j) + " f" + strconv.Itoa(j) + " : [A" + strconv.Itoa((i*j)%64) + "] ; "
		}
		text += "} "
	}
	wantText(t, text, api.OK)
	// 1, 33 of another one, and 31 others.
	wantText(t, strings.Replace(text, "[A0]", "A63", 1), api.ErrLong)
	wantText(t, strings.Replace(text, "[A0]", "A64", 1), api.ErrType)
	wantLoad(t, text+"struct B { }", api.Schema{}, 1, api.ErrCount)
}

// span is a piece of memory.
type span struct {
	from, to uintptr
	what     string
}

func ofText(what, s string) span {
	from := uintptr(unsafe.Pointer(unsafe.StringData(s)))
	return span{from, from + uintptr(len(s)), what}
}

func ofList[T any](what string, l []T) span {
	from := uintptr(unsafe.Pointer(unsafe.SliceData(l)))
	var one T
	return span{from, from + uintptr(cap(l))*unsafe.Sizeof(one), what}
}

func typeSpans(t api.Type) []span {
	l := []span{ofText("a type's name", t.Name), ofList("Of", t.Of)}
	for _, x := range t.Of {
		l = append(l, typeSpans(x)...)
	}
	return l
}

func methodSpans(m api.Method) []span {
	return slices.Concat([]span{ofText("a method's name", m.Name)}, typeSpans(m.Arg), typeSpans(m.Result))
}

// schemaSpans are all pieces of memory that a schema is made of, the room behind its lists too.
func schemaSpans(s api.Schema) []span {
	l := []span{ofList("structs", s.Structs), ofList("enums", s.Enums), ofList("services", s.Services)}
	for _, x := range s.Structs {
		l = append(l, ofText("a struct's name", x.Name), ofList("fields", x.Fields))
		for _, f := range x.Fields {
			l = append(append(l, ofText("a field's name", f.Name)), typeSpans(f.Type)...)
		}
	}
	for _, x := range s.Enums {
		l = append(l, ofText("an enum's name", x.Name), ofList("cases", x.Cases))
		for _, c := range x.Cases {
			l = append(l, ofText("a case's name", c.Name))
		}
	}
	for _, x := range s.Services {
		l = append(l, ofText("a service's name", x.Name), ofList("methods", x.Methods))
		for _, m := range x.Methods {
			l = append(l, methodSpans(m)...)
		}
	}
	return l
}

func wantAlone(t *testing.T, l ...span) {
	t.Helper()
	l = slices.DeleteFunc(l, func(s span) bool { return s.from == s.to })
	slices.SortFunc(l, func(a, b span) int { return int(a.from) - int(b.from) })
	for i := 1; i < len(l); i++ {
		if l[i].from < l[i-1].to {
			t.Errorf("P6.4: %s and %s share memory", l[i-1].what, l[i].what)
		}
	}
}

func TestNewMemory(t *testing.T) {
	text := strings.Clone(whole)
	a, _, _ := schema.Load(text)
	b, _, _ := schema.Load(text)
	asked := strings.Clone("S T a b")
	all := slices.Concat([]span{ofText("the text", text), ofText("the names that are asked", asked)}, schemaSpans(a), schemaSpans(b))
	x := strings.Fields(asked)
	var kept []api.Method
	for _, names := range [][2]string{{x[0], x[2]}, {x[0], x[3]}, {x[0], x[3]}, {x[1], x[2]}} {
		m, e := schema.Method(a, names[0], names[1])
		if e != api.OK {
			t.Fatal("P6.4: Method:", e)
		}
		kept = append(kept, m)
		all = append(all, methodSpans(m)...)
	}
	wantAlone(t, all...)
	// What is let go of may be used again, and would look shared.
	runtime.KeepAlive([]any{text, asked, a, b, kept})
}

// TestNotChanged: what is handed in stays, with the room behind it.
func TestNotChanged(t *testing.T) {
	s := parsed(t, whole)
	s.Structs = append(s.Structs, api.Struct{Name: "behind"})[:len(s.Structs)]
	s.Structs[1].Fields = append(s.Structs[1].Fields, api.Field{Name: "behind"})[:2]
	s.Services[0].Methods = append(s.Services[0].Methods, api.Method{Name: "behind"})[:2]
	bigger := parsed(t, whole+"struct More { 1 a : P ; }")
	for range 3 {
		schema.Check(s)
		schema.Extends(s, bigger)
		schema.Extends(bigger, s)
		schema.Find(s, "T")
		schema.Depth(s, "P")
		if m, _ := schema.Method(s, "S", "b"); len(m.Arg.Of) == 1 && len(m.Result.Of) == 1 {
			m.Arg.Of[0], m.Result.Of[0] = api.Type{}, api.Type{}
		}
		if m, _ := schema.Method(s, "T", "a"); len(m.Result.Of) == 1 {
			m.Result.Of[0].Of[0] = api.Type{}
		}
	}
	same := parsed(t, whole)
	if !reflect.DeepEqual(s, same) || s.Structs[:4][3].Name != "behind" || s.Structs[1].Fields[:3][2].Name != "behind" || s.Services[0].Methods[:3][2].Name != "behind" {
		t.Error("P6.4: a schema is changed")
	}
	if !reflect.DeepEqual(bigger, parsed(t, whole+"struct More { 1 a : P ; }")) {
		t.Error("P6.4: Extends changes its schemas")
	}
}

// TestAnswersAreApart: who writes into an answer changes no other one.
func TestAnswersAreApart(t *testing.T) {
	a, _, _ := schema.Load(whole)
	b, _, _ := schema.Load(whole)
	m, _ := schema.Method(b, "T", "a")
	a.Structs[0].Fields[1].Type.Of[0] = api.Type{}
	a.Services[1].Methods[0].Result.Of[0] = api.Type{}
	b.Services[1].Methods[0].Result.Of[0] = api.Type{}
	if c, _, _ := schema.Load(whole); !reflect.DeepEqual(c, parsed(t, whole)) {
		t.Error("P6.4: two answers share memory")
	}
	if !reflect.DeepEqual(m.Result, of(6, of(7, byName("Q")))) {
		t.Error("P6.4: a method and its schema share memory")
	}
}

// FuzzLoad: whatever the text is, the error is the slow one's, and what may be extends itself and what it grew out of.
func FuzzLoad(f *testing.F) {
	f.Add(whole, base)
	f.Add(base, "struct A { 10 a : int ; 20 b : E ; 30 c : ? A ; } enum E { 10 a ; 20 b ; }")
	f.Add("struct A { 1 a : A ; }", "struct A { 1 a : ? A ; }")
	f.Add("enum E { 0 a ; }", "enum E { 0 a ; 1 b ; }")
	f.Add("service S { once a ( int ) int ; }", "service S { read a ( int ) int ; }")
	f.Add("struct A { 1 a : B ; 2 b : B ; } struct B { 65536 a : X ; }", "struct A { } enum A { }")
	f.Fuzz(func(t *testing.T, one, two string) {
		var l [2]api.Schema
		for i, text := range []string{one, two} {
			s, line, e := parse.Text(text)
			if e == api.OK {
				l[i] = s
				e = slowCheck(s)
			}
			if e != api.OK {
				s = api.Schema{}
			}
			wantLoad(t, text, s, line, e)
		}
		wantExtends(t, "P6.2", l[0], l[1], slowExtends(l[0], l[1]))
		wantExtends(t, "P6.3", l[0], l[0], slowCheck(l[0]))
	})
}
