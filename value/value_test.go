package value_test

import (
	"cmp"
	"math"
	"math/rand"
	"reflect"
	"runtime"
	"slices"
	"strconv"
	"strings"
	"testing"
	"unsafe"

	"waybill/api"
	"waybill/parse"
	"waybill/schema"
	"waybill/value"
)

// The limits, written out: the tests hold the document's numbers, not the program's.
const (
	mostOctets      = 1024
	mostList        = 64
	mostDeep        = 16
	mostDeepCounted = 100
	mostCounted     = 1048576
	mostNested      = 65536
)

// whole has all that a schema may have.
const whole = `
struct P { 1 x : int ; 2 l : [ uint ] ; }
struct N { }
struct A { 1 b : bool ; 2 i : int ; 3 u : uint ; 4 t : text ; 5 y : bytes ; 6 l : [ text ] ; 7 o : ? E ; 8 e : E ; 9 p : P ; 10 n : N ; }
struct R { 1 r : [ R ] ; }
struct O { 1 o : ? O ; }
struct T { 1 a : [ bool ] ; 2 b : text ; 3 c : O ; }
enum E { 3 c ; 7 d ; 65536 f ; }
enum Z { 0 no ; 1 yes ; }
service S { once a ( P ) E ; }
`

func loaded(t testing.TB, text string) api.Schema {
	t.Helper()
	s, line, e := schema.Load(text)
	if e != api.OK {
		t.Fatalf("no schema: %q: line %d, error %d", text, line, e)
	}
	return s
}

// typed is the type of that text.
func typed(t testing.TB, text string) api.Type {
	t.Helper()
	s, _, e := parse.Text("struct X { 1 x : " + text + " ; }")
	if e != api.OK {
		t.Fatalf("no type: %q: error %d", text, e)
	}
	return s.Structs[0].Fields[0].Type
}

func num(n int) api.Value {
	return api.Value{Int: n}
}

func nat(n uint64) api.Value {
	return api.Value{Uint: n}
}

func txt(s string) api.Value {
	return api.Value{Text: s}
}

func row(l ...api.Value) api.Value {
	return api.Value{List: l}
}

// repeated is n values of one kind.
func repeated(n int, v api.Value) api.Value {
	return row(slices.Repeat([]api.Value{v}, n)...)
}

// nested is a value that is n deep.
func nested(n int) api.Value {
	var v api.Value
	for range n - 1 {
		v = row(v)
	}
	return v
}

// endless is a value within itself, at each of n places.
func endless(n int) api.Value {
	l := make([]api.Value, n)
	for i := range l {
		l[i].List = l
	}
	return l[0]
}

// alike is what Same and Compare's 0 say, by the words of the chapter.
func alike(a, b api.Value) bool {
	if a.Int != b.Int || a.Uint != b.Uint || a.Text != b.Text || len(a.List) != len(b.List) {
		return false
	}
	for i := range a.List {
		if !alike(a.List[i], b.List[i]) {
			return false
		}
	}
	return true
}

func slowDeep(v api.Value) int {
	deep := 0
	for _, x := range v.List {
		deep = max(deep, slowDeep(x))
	}
	return deep + 1
}

func slowSize(l ...api.Value) int {
	n := 0
	for _, x := range l {
		n += 1 + slowSize(x.List...)
	}
	return n
}

func slowCompare(a, b api.Value) int {
	order := []int{cmp.Compare(a.Int, b.Int), cmp.Compare(a.Uint, b.Uint), slices.Compare([]byte(a.Text), []byte(b.Text))}
	for i := range min(len(a.List), len(b.List)) {
		order = append(order, slowCompare(a.List[i], b.List[i]))
	}
	order = append(order, cmp.Compare(len(a.List), len(b.List)))
	for _, n := range order {
		if n != 0 {
			return n
		}
	}
	return 0
}

// structOf is the struct of that name, or nil.
func structOf(s api.Schema, name string) *api.Struct {
	for i := range s.Structs {
		if s.Structs[i].Name == name {
			return &s.Structs[i]
		}
	}
	return nil
}

func enumOf(s api.Schema, name string) *api.Enum {
	for i := range s.Enums {
		if s.Enums[i].Name == name {
			return &s.Enums[i]
		}
	}
	return nil
}

// slowIs tells if a value is of a type, by the chapter's section 'Words', but for how deep it is.
func slowIs(s api.Schema, t api.Type, v api.Value) bool {
	inner := func(t api.Type, most int) bool {
		for _, x := range v.List {
			if !slowIs(s, t, x) {
				return false
			}
		}
		return len(v.List) <= most && alike(v, row(v.List...))
	}
	switch t.Kind {
	case 1:
		return alike(v, num(0)) || alike(v, num(1))
	case 2:
		return alike(v, num(v.Int))
	case 3:
		return alike(v, nat(v.Uint))
	case 4:
		return alike(v, txt(v.Text)) && len(v.Text) <= mostOctets && !badOctet(v.Text)
	case 5:
		return alike(v, txt(v.Text)) && len(v.Text) <= mostOctets
	case 6:
		return inner(t.Of[0], mostList)
	case 7:
		return inner(t.Of[0], 1)
	}
	if x := enumOf(s, t.Name); x != nil {
		return slices.ContainsFunc(x.Cases, func(c api.Case) bool { return alike(v, num(c.Number)) })
	}
	x := structOf(s, t.Name)
	if len(v.List) != len(x.Fields) || !alike(v, row(v.List...)) {
		return false
	}
	for i, f := range x.Fields {
		if !slowIs(s, f.Type, v.List[i]) {
			return false
		}
	}
	return true
}

// printable are all octets of texts.
func printable() string {
	var b []byte
	for c := byte(0x20); c <= 0x7e; c++ {
		b = append(b, c)
	}
	return string(b)
}

// badOctet tells if there is an octet that no text has.
func badOctet(s string) bool {
	for i := 0; i < len(s); i++ {
		if strings.IndexByte(printable(), s[i]) < 0 {
			return true
		}
	}
	return false
}

// fault is something that may be wrong with a value, without its parts.
type fault struct {
	wrong bool
	e     api.Errno
}

// slowFaults are what may be wrong with v alone, in the chapter's order.
func slowFaults(s api.Schema, t api.Type, v api.Value) []fault {
	enum, of := enumOf(s, t.Name), structOf(s, t.Name)
	usesInt, usesText := t.Kind == 1 || t.Kind == 2 || enum != nil, t.Kind == 4 || t.Kind == 5
	usesList := t.Kind == 6 || t.Kind == 7 || of != nil
	return []fault{
		{len(v.Text) > mostOctets, api.ErrLong},
		{t.Kind == 6 && len(v.List) > mostList, api.ErrLong},
		{t.Kind == 1 && v.Int != 0 && v.Int != 1, api.ErrRange},
		{enum != nil && !slices.ContainsFunc(enum.Cases, func(c api.Case) bool { return c.Number == v.Int }), api.ErrRange},
		{t.Kind == 4 && badOctet(v.Text), api.ErrRange},
		{t.Kind == 7 && len(v.List) > 1, api.ErrCount},
		{of != nil && len(v.List) != len(of.Fields), api.ErrCount},
		{!usesInt && v.Int != 0, api.ErrState},
		{t.Kind != 3 && v.Uint != 0, api.ErrState},
		{!usesText && v.Text != "", api.ErrState},
		{!usesList && len(v.List) > 0, api.ErrState},
	}
}

// slowValue goes over v ahead of its parts.
func slowValue(s api.Schema, t api.Type, v api.Value) api.Errno {
	for _, f := range slowFaults(s, t, v) {
		if f.wrong {
			return f.e
		}
	}
	for i, x := range v.List {
		of := structOf(s, t.Name)
		inner := t.Of
		if of != nil {
			inner = []api.Type{of.Fields[i].Type}
		}
		if e := slowValue(s, inner[0], x); e != api.OK {
			return e
		}
	}
	return api.OK
}

// slowType is the error of a schema and a type.
func slowType(s api.Schema, t api.Type) api.Errno {
	if e := schema.Check(s); e != api.OK {
		return e
	}
	if e := parse.Shape(t); e != api.OK {
		return e
	}
	for len(t.Of) > 0 {
		t = t.Of[0]
	}
	if t.Kind == 8 && structOf(s, t.Name) == nil && enumOf(s, t.Name) == nil {
		return api.ErrType
	}
	return api.OK
}

// slowCheck is the error of a value by the words of the chapter.
func slowCheck(s api.Schema, t api.Type, v api.Value) api.Errno {
	if e := slowType(s, t); e != api.OK {
		return e
	}
	if slowDeep(v) > mostDeep {
		return api.ErrDepth
	}
	return slowValue(s, t, v)
}

// slowDefault is the default by the words of the chapter.
func slowDefault(s api.Schema, t api.Type) api.Value {
	if x := enumOf(s, t.Name); x != nil {
		return num(x.Cases[0].Number)
	}
	x := structOf(s, t.Name)
	if x == nil {
		return api.Value{}
	}
	l := make([]api.Value, len(x.Fields))
	for i, f := range x.Fields {
		l[i] = slowDefault(s, f.Type)
	}
	return row(l...)
}

// told keeps long values out of what a failed test tells.
func told(v api.Value) string {
	s := strconv.Itoa(v.Int) + " " + strconv.FormatUint(v.Uint, 10) + " "
	if len(v.Text) > 20 {
		s += strconv.Quote(v.Text[:20]) + ".. of " + strconv.Itoa(len(v.Text))
	} else {
		s += strconv.Quote(v.Text)
	}
	s += " ["
	for i, x := range v.List {
		if i == 5 || len(s) > 300 {
			s += ".. of " + strconv.Itoa(len(v.List))
			break
		}
		s += told(x) + ";"
	}
	return s + "]"
}

// wantCheck holds Check, and Is with it, against an error.
func wantCheck(t *testing.T, s api.Schema, k api.Type, v api.Value, e api.Errno) {
	t.Helper()
	if got := value.Check(s, k, v); got != e {
		t.Errorf("P7.1: Check of %v, %s: %d, want %d", k, told(v), got, e)
	}
	is, got := value.Is(s, k, v)
	if got != e || is && e != api.OK {
		t.Errorf("P7.1: Is of %v, %s: %t, %d, want %d", k, told(v), is, got, e)
	}
	if e == api.OK && is != alike(v, slowDefault(s, k)) {
		t.Errorf("P7.1: Is of %v, %s: %t", k, told(v), is)
	}
}

// wantDefault holds Default against a value, and against what follows of defaults.
func wantDefault(t *testing.T, s api.Schema, k api.Type, v api.Value) {
	t.Helper()
	got, e := value.Default(s, k)
	if e != api.OK || !alike(got, v) {
		t.Errorf("P7.1: Default of %v: %s, %d; want %s", k, told(got), e, told(v))
	}
	if e := value.Check(s, k, got); e != api.OK {
		t.Errorf("P7.4: the default of %v is not of its type: %d", k, e)
	}
	if is, e := value.Is(s, k, got); !is || e != api.OK {
		t.Errorf("P7.1: the default of %v is none: %d", k, e)
	}
}

// wantNoType holds all calls that take a type against its error, or its schema's.
func wantNoType(t *testing.T, s api.Schema, k api.Type, e api.Errno) {
	t.Helper()
	if v, got := value.Default(s, k); got != e || !reflect.DeepEqual(v, api.Value{}) {
		t.Errorf("P7.1: Default of %v: %s, %d; want %d", k, told(v), got, e)
	}
	// Whatever the value is, it is not looked at.
	for _, v := range []api.Value{{}, num(1), row(num(1)), nested(mostDeep + 1), endless(2), {Int: 2, Uint: 1, Text: strings.Repeat("\n", 2000)}} {
		if got := value.Check(s, k, v); got != e {
			t.Errorf("P7.1: Check of %v: %d, want %d", k, got, e)
		}
		if is, got := value.Is(s, k, v); got != e || is {
			t.Errorf("P7.1: Is of %v: %t, %d; want %d", k, is, got, e)
		}
	}
}

func TestDefault(t *testing.T) {
	s := loaded(t, whole)
	p := row(num(0), row())
	for text, v := range map[string]api.Value{
		"bool": {}, "int": {}, "uint": {}, "text": {}, "bytes": {},
		"[ int ]": {}, "? int": {}, "[ E ]": {}, "? E": {}, "[ P ]": {}, "? P": {}, "? [ ? [ P ] ]": {},
		"E": num(3),
		"Z": num(0),
		"P": p,
		"N": {},
		"R": row(row()),
		"O": row(row()),
		"T": row(row(), txt(""), row(row())),
		"A": row(num(0), num(0), nat(0), txt(""), txt(""), row(), row(), num(3), p, row()),
	} {
		wantDefault(t, s, typed(t, text), v)
	}
	// An empty list of another one's types is one like none.
	wantDefault(t, s, api.Type{Kind: 2, Of: []api.Type{}}, api.Value{})
	wantDefault(t, api.Schema{}, api.Type{Kind: 1}, api.Value{})
	wantDefault(t, api.Schema{Structs: []api.Struct{}, Enums: []api.Enum{}}, api.Type{Kind: 6, Of: []api.Type{{Kind: 4}}}, api.Value{})
}

// TestDefaultMost: structs as deep, and as heavy, as they may be.
func TestDefaultMost(t *testing.T) {
	text, want := "", num(9)
	for i := range 8 {
		name := "struct A" + strconv.Itoa(i) + " { 1 a : text ; 2 b : "
		if i == 7 {
			text += name + "E ; }"
		} else {
			text += name + "A" + strconv.Itoa(i+1) + " ; }"
		}
		want = row(txt(""), want)
	}
	s := loaded(t, text+" enum E { 9 a ; 10 b ; }")
	wantDefault(t, s, typed(t, "A0"), want)
	if n := value.Deep(want); n != 9 {
		t.Errorf("P7.2: Deep: %d, want 9", n)
	}
	heavy := "struct M { "
	for i := range 32 {
		heavy += strconv.Itoa(1+i) + " f" + strconv.Itoa(i) + " : E ; "
	}
	heavy += "} enum E { 65536 a ; } struct A { 1 m : M ; "
	for i := range 30 {
		heavy += strconv.Itoa(2+i) + " f" + strconv.Itoa(i) + " : E ; "
	}
	s = loaded(t, heavy+"}")
	wantDefault(t, s, typed(t, "A"), row(append([]api.Value{repeated(32, num(65536))}, slices.Repeat([]api.Value{num(65536)}, 30)...)...))
}

// TestIs: what is of the type, and one step away from its default, is none.
func TestIs(t *testing.T) {
	s := loaded(t, whole)
	for text, l := range map[string][]api.Value{
		"bool":       {num(1)},
		"int":        {num(1), num(-1), num(math.MinInt), num(math.MaxInt)},
		"uint":       {nat(1), nat(math.MaxUint64)},
		"text":       {txt(" "), txt("~")},
		"bytes":      {txt("\x00"), txt("\xff")},
		"[ int ]":    {row(num(0)), row(num(0), num(0))},
		"? int":      {row(num(0)), row(num(1))},
		"? ? int":    {row(row()), row(row(num(0)))},
		"[ [ int ]]": {row(row())},
		"E":          {num(7), num(65536)},
		"Z":          {num(1)},
		"? E":        {row(num(3))},
		"P":          {row(num(1), row()), row(num(0), row(nat(0)))},
		"R":          {row(row(row(row())))},
		"T":          {row(row(num(0)), txt(""), row(row())), row(row(), txt("a"), row(row())), row(row(), txt(""), row(row(row(row()))))},
	} {
		k := typed(t, text)
		for _, v := range l {
			wantCheck(t, s, k, v, api.OK)
			if is, e := value.Is(s, k, v); is || e != api.OK {
				t.Errorf("P7.1: Is of %s, %s: %t, %d; want false", text, told(v), is, e)
			}
		}
		wantCheck(t, s, k, slowDefault(s, k), api.OK)
		if is, e := value.Is(s, k, slowDefault(s, k)); !is || e != api.OK {
			t.Errorf("P7.1: Is of %s's default: %t, %d", text, is, e)
		}
	}
	// Nil and empty lists are one.
	empty := api.Value{List: []api.Value{}}
	for _, x := range []struct {
		kind string
		v    api.Value
	}{{"int", empty}, {"text", empty}, {"[ P ]", empty}, {"? P", empty}, {"N", empty}, {"P", row(empty, empty)}, {"P", row(num(0), api.Value{})}, {"N", api.Value{}}} {
		wantCheck(t, s, typed(t, x.kind), x.v, api.OK)
		if is, e := value.Is(s, typed(t, x.kind), x.v); !is || e != api.OK {
			t.Errorf("P7.1: Is of %s, with an empty list: %t, %d", x.kind, is, e)
		}
	}
}

// TestCheckTellsSchema: a schema that may not be is told as schema.Check tells it, ahead of all else.
func TestCheckTellsSchema(t *testing.T) {
	field := func(number int, k api.Type) []api.Field {
		return []api.Field{{Name: "a", Number: number, Type: k}}
	}
	for _, s := range []api.Schema{
		{Structs: []api.Struct{{}}},
		{Structs: []api.Struct{{Name: "P"}, {Name: "P"}}},
		{Structs: []api.Struct{{Name: "P", Fields: field(0, api.Type{Kind: 1})}}},
		{Structs: []api.Struct{{Name: "P", Fields: field(1, api.Type{Kind: 8, Name: "X"})}}},
		{Structs: []api.Struct{{Name: "P", Fields: field(1, api.Type{Kind: 8, Name: "P"})}}},
		{Structs: []api.Struct{{Name: "P"}}, Enums: []api.Enum{{Name: "E"}}},
		{Structs: []api.Struct{{Name: "P"}}, Services: []api.Service{{Name: "S"}}},
		{Structs: []api.Struct{{Name: "P"}}, Services: []api.Service{{Name: "P"}}},
		{Structs: make([]api.Struct, 65)},
	} {
		e := schema.Check(s)
		if e == api.OK {
			t.Fatal("it may be")
		}
		for _, k := range []api.Type{{Kind: 2}, {Kind: 8, Name: "P"}, {Kind: 8, Name: "E"}, {Kind: 8, Name: "X"}, {Kind: 0}, {Kind: 9}, {Kind: 6}} {
			wantNoType(t, s, k, e)
		}
	}
}

// TestCheckTellsShape: a type that no text may have is told as parse.Shape tells it.
func TestCheckTellsShape(t *testing.T) {
	s := loaded(t, whole)
	of := func(kind int, l ...api.Type) api.Type { return api.Type{Kind: kind, Of: l} }
	deep := api.Type{Kind: 2}
	for range 8 {
		deep = of(6, deep)
	}
	deepNone := api.Type{Kind: 8, Name: "X"}
	for range 8 {
		deepNone = of(7, deepNone)
	}
	inItself := make([]api.Type, 1)
	inItself[0] = of(6, inItself...)
	inItself[0].Of = inItself
	for _, k := range []api.Type{
		{}, {Kind: -1}, {Kind: 9}, {Kind: 10}, {Kind: math.MaxInt}, {Kind: math.MinInt},
		{Kind: 1, Name: "P"}, {Kind: 2, Of: []api.Type{{Kind: 2}}}, {Kind: 9, Name: "P"}, {Kind: 10, Name: "E"},
		{Kind: 8}, {Kind: 8, Name: "int"}, {Kind: 8, Name: "P "}, {Kind: 8, Name: "P", Of: []api.Type{{Kind: 1}}}, {Kind: 8, Name: "once"},
		of(6), of(7), of(6, api.Type{Kind: 1}, api.Type{Kind: 1}), of(7, api.Type{}), of(6, of(7)), {Kind: 6, Name: "P", Of: []api.Type{{Kind: 1}}},
		deep, deepNone, inItself[0],
	} {
		e := parse.Shape(k)
		if e == api.OK {
			t.Fatal("it has a shape")
		}
		wantNoType(t, s, k, e)
	}
}

// TestCheckTellsNames: a type's name stands for a struct or an enum, however deep it is.
func TestCheckTellsNames(t *testing.T) {
	s := loaded(t, whole)
	for _, around := range []string{"%", "[ % ]", "? %", "[ ? % ]", "? [ [ ? [ ? [ % ] ] ] ]", "??????? %"} {
		for _, name := range []string{"S", "X", "p", "c", "a", "PP", strings.Repeat("P", 32)} {
			wantNoType(t, s, typed(t, strings.Replace(around, "%", name, 1)), api.ErrType)
			wantNoType(t, api.Schema{}, typed(t, strings.Replace(around, "%", name, 1)), api.ErrType)
		}
		for _, name := range []string{"P", "E", "N", "Z", "int"} {
			k := typed(t, strings.Replace(around, "%", name, 1))
			wantDefault(t, s, k, slowDefault(s, k))
		}
	}
}

// TestInts: what uses Int, at its edges.
func TestInts(t *testing.T) {
	s := loaded(t, whole)
	for _, n := range []int{math.MinInt, -65536, -7, -3, -1, 0, 1, 2, 3, 4, 6, 7, 8, 255, 256, 257, 65535, 65536, 65537, 65536 + 3, 1<<32 + 3, 1 << 32, 1<<32 + 1, math.MaxInt} {
		in := func(l ...int) api.Errno {
			if slices.Contains(l, n) {
				return api.OK
			}
			return api.ErrRange
		}
		wantCheck(t, s, typed(t, "int"), num(n), api.OK)
		wantCheck(t, s, typed(t, "bool"), num(n), in(0, 1))
		wantCheck(t, s, typed(t, "E"), num(n), in(3, 7, 65536))
		wantCheck(t, s, typed(t, "Z"), num(n), in(0, 1))
		wantCheck(t, s, typed(t, "? E"), row(num(n)), in(3, 7, 65536))
		wantCheck(t, s, typed(t, "[ bool ]"), row(num(1), num(n)), in(0, 1))
	}
	for _, n := range []uint64{0, 1, 2, 1 << 31, 1 << 63, math.MaxUint64} {
		wantCheck(t, s, typed(t, "uint"), nat(n), api.OK)
	}
}

// TestTexts: each octet, and each length at the edge, of texts and of bytes.
func TestTexts(t *testing.T) {
	s := loaded(t, whole)
	text, octets := typed(t, "text"), typed(t, "bytes")
	for c := range 256 {
		e := api.OK
		if c < 0x20 || c > 0x7e {
			e = api.ErrRange
		}
		one := string([]byte{byte(c)})
		for _, x := range []string{one, "a" + one, one + "a", strings.Repeat("~", 511) + one + strings.Repeat(" ", 512), strings.Repeat("a", 1023) + one} {
			wantCheck(t, s, text, txt(x), e)
			wantCheck(t, s, octets, txt(x), api.OK)
			wantCheck(t, s, typed(t, "[ text ]"), row(txt("a"), txt(x)), e)
		}
		for _, x := range []string{strings.Repeat("a", 1024) + one, one + strings.Repeat("a", 1024), strings.Repeat(one, 5000)} {
			wantCheck(t, s, text, txt(x), api.ErrLong)
			wantCheck(t, s, octets, txt(x), api.ErrLong)
		}
	}
	for n := 1020; n <= 1030; n++ {
		e := api.OK
		if n > mostOctets {
			e = api.ErrLong
		}
		wantCheck(t, s, text, txt(strings.Repeat("a", n)), e)
		wantCheck(t, s, octets, txt(strings.Repeat("\xff", n)), e)
		// It is octets that are counted, not what they spell.
		wantCheck(t, s, octets, txt(strings.Repeat("é", n)), api.ErrLong)
	}
	wantCheck(t, s, text, txt("é"), api.ErrRange)
	wantCheck(t, s, octets, txt(strings.Repeat("é", 512)), api.OK)
}

func TestLists(t *testing.T) {
	s := loaded(t, whole)
	for n := range 70 {
		list, optional := api.OK, api.OK
		if n > mostList {
			list = api.ErrLong
		}
		if n > 1 {
			optional = api.ErrCount
		}
		for kind, v := range map[string]api.Value{"int": num(-5), "text": txt("a"), "E": num(7), "N": {}, "P": row(num(1), repeated(64, nat(1))), "[ int ]": repeated(64, num(1)), "? int": row(num(0))} {
			wantCheck(t, s, typed(t, "[ "+kind+" ]"), repeated(n, v), list)
			wantCheck(t, s, typed(t, "? "+kind), repeated(n, v), optional)
		}
		for kind, fields := range map[string]int{"N": 0, "R": 1, "P": 2, "T": 3, "A": 10} {
			k := typed(t, kind)
			l := append(slowDefault(s, k).List, make([]api.Value, 70)...)
			e := api.ErrCount
			if n == fields {
				e = api.OK
			}
			wantCheck(t, s, k, row(l[:n]...), e)
		}
	}
}

// TestUnused: what a kind does not use is zero, in the value and in each of its parts.
func TestUnused(t *testing.T) {
	s := loaded(t, whole)
	uses := map[string]string{
		"bool": "Int", "int": "Int", "E": "Int", "Z": "Int", "uint": "Uint", "text": "Text", "bytes": "Text",
		"[ int ]": "List", "? int": "List", "[ P ]": "List", "? P": "List", "P": "List", "N": "List", "A": "List",
	}
	add := map[string]func(v *api.Value){
		"Int":  func(v *api.Value) { v.Int = 1 },
		"Uint": func(v *api.Value) { v.Uint = 1 },
		"Text": func(v *api.Value) { v.Text = "a" },
		"List": func(v *api.Value) { v.List = []api.Value{{}} },
	}
	for kind, used := range uses {
		for field, do := range add {
			if field == used {
				continue
			}
			k := typed(t, kind)
			v := slowDefault(s, k)
			do(&v)
			wantCheck(t, s, k, v, api.ErrState)
			wantCheck(t, s, typed(t, "? "+kind), row(v), api.ErrState)
			wantCheck(t, s, typed(t, "[ "+kind+" ]"), row(slowDefault(s, k), v), api.ErrState)
		}
	}
	// Each part of a struct, too.
	k := typed(t, "A")
	for i := range slowDefault(s, k).List {
		v := slowDefault(s, k)
		v.List[i].Int, v.List[i].Uint = 3, 1
		e := slowCheck(s, k, v)
		if e == api.OK {
			t.Fatal("it is used")
		}
		wantCheck(t, s, k, v, e)
	}
	wantCheck(t, s, typed(t, "int"), num(math.MinInt), api.OK)
	for _, v := range []api.Value{{Uint: 1 << 63}, {Uint: 1 << 32}, {Text: "\x00"}, row(num(1), num(2))} {
		wantCheck(t, s, typed(t, "int"), v, api.ErrState)
	}
}

// TestDepth: a value is at most 16 deep, whatever its type is.
func TestDepth(t *testing.T) {
	s := loaded(t, whole)
	// Each one within another is two deeper: the struct, and its list.
	inner := func(n int) api.Value {
		v := row(row())
		for range n - 1 {
			v = row(row(v))
		}
		return v
	}
	for n := 1; n <= 40; n++ {
		e := api.OK
		if 2*n > mostDeep {
			e = api.ErrDepth
		}
		for _, kind := range []string{"R", "O"} {
			wantCheck(t, s, typed(t, kind), inner(n), e)
		}
		if 2*n+1 > mostDeep {
			e = api.ErrDepth
		}
		for _, kind := range []string{"[ R ]", "? R", "[ O ]", "? O"} {
			wantCheck(t, s, typed(t, kind), row(inner(n)), e)
		}
		// The deepest part counts, wherever it stands.
		wantCheck(t, s, typed(t, "[ R ]"), row(inner(1), inner(n), inner(1)), e)
		wantCheck(t, s, typed(t, "[ R ]"), row(append(repeated(63, inner(1)).List, inner(n))...), e)
	}
	for n := 2; n <= 110; n++ {
		e := api.ErrState
		if n > mostDeep {
			e = api.ErrDepth
		}
		// What is not used is counted, too, and told ahead of all else.
		for _, kind := range []string{"int", "uint", "text", "E", "bool"} {
			v := nested(n)
			v.Text = "a"
			if kind == "text" {
				v.Text = ""
			}
			if kind == "E" {
				v.Int = 3
			}
			wantCheck(t, s, typed(t, kind), v, e)
		}
		if n > mostDeep {
			wantCheck(t, s, typed(t, "[ int ]"), row(append(make([]api.Value, 64), nested(n-1))...), api.ErrDepth)
			wantCheck(t, s, typed(t, "bool"), api.Value{Int: 2, Text: strings.Repeat("a", 2000), List: nested(n).List}, api.ErrDepth)
			wantCheck(t, s, typed(t, "N"), nested(n), api.ErrDepth)
			wantCheck(t, s, typed(t, "? int"), row(num(0), nested(n-1)), api.ErrDepth)
		}
	}
	wantCheck(t, s, typed(t, "R"), endless(1), api.ErrDepth)
	wantCheck(t, s, typed(t, "R"), endless(3), api.ErrDepth)
	wantCheck(t, s, typed(t, "int"), nested(mostNested), api.ErrDepth)
}

// TestOrderWithin: of several wrong things of one value the one that the chapter names first counts.
func TestOrderWithin(t *testing.T) {
	s := loaded(t, whole)
	long := strings.Repeat("a", mostOctets+1)
	bad := row(num(9), txt(long))
	for _, x := range []struct {
		kind string
		v    api.Value
		e    api.Errno
	}{
		{"text", api.Value{Text: long + "\n", Int: 1}, api.ErrLong},
		{"text", api.Value{Text: "\n", Int: 1}, api.ErrRange},
		{"text", api.Value{Text: "\n", List: bad.List}, api.ErrRange},
		{"text", api.Value{Text: "a", List: bad.List}, api.ErrState},
		{"bytes", api.Value{Text: long, Uint: 1}, api.ErrLong},
		{"bool", api.Value{Int: 2, Uint: 1}, api.ErrRange},
		{"bool", api.Value{Int: -1, List: bad.List}, api.ErrRange},
		{"bool", api.Value{Int: 1, List: bad.List}, api.ErrState},
		{"E", api.Value{Int: 0, Text: "a"}, api.ErrRange},
		{"E", api.Value{Int: 3, List: bad.List}, api.ErrState},
		{"[ text ]", api.Value{List: repeated(65, txt("\n")).List, Int: 1}, api.ErrLong},
		{"[ text ]", api.Value{List: repeated(64, txt("\n")).List, Int: 1}, api.ErrState},
		{"[ text ]", repeated(64, txt("\n")), api.ErrRange},
		{"? bool", api.Value{List: bad.List, Int: 1}, api.ErrCount},
		{"? bool", api.Value{List: bad.List[:1], Int: 1}, api.ErrState},
		{"? bool", row(bad.List[:1]...), api.ErrRange},
		{"P", api.Value{List: bad.List[:1], Uint: 1}, api.ErrCount},
		{"P", api.Value{List: bad.List, Uint: 1}, api.ErrState},
		{"P", row(num(0), txt(long)), api.ErrLong},
		// A Text that is too long is one of any kind's.
		{"bool", api.Value{Int: 2, Text: long}, api.ErrLong},
		{"int", txt(long), api.ErrLong},
		{"int", txt(long[1:]), api.ErrState},
		{"uint", txt(long), api.ErrLong},
		{"E", txt(long), api.ErrLong},
		{"? bool", api.Value{List: bad.List, Text: long}, api.ErrLong},
		{"P", txt(long), api.ErrLong},
		{"N", txt(long), api.ErrLong},
		// A List that is too long is one of a list alone.
		{"int", repeated(65, num(0)), api.ErrState},
		{"? int", repeated(65, num(0)), api.ErrCount},
		{"N", repeated(65, num(0)), api.ErrCount},
	} {
		wantCheck(t, s, typed(t, x.kind), x.v, x.e)
		if e := slowCheck(s, typed(t, x.kind), x.v); e != x.e {
			t.Errorf("the slow check of %s, %s: %d, want %d", x.kind, told(x.v), e, x.e)
		}
	}
}

// wrongs are values of a type that are none, each by one error, alone.
func wrongs(t *testing.T, s api.Schema, kind string) map[api.Errno]api.Value {
	k := typed(t, kind)
	v := slowDefault(s, k)
	l := map[api.Errno]api.Value{}
	add := func(e api.Errno, do func(v *api.Value)) {
		x := v
		x.List = slices.Clone(v.List)
		do(&x)
		l[e] = x
	}
	add(api.ErrState, func(v *api.Value) { v.Uint = 1 })
	switch kind {
	case "uint":
		add(api.ErrState, func(v *api.Value) { v.Int = 1 })
	case "bool", "E":
		add(api.ErrRange, func(v *api.Value) { v.Int = 2 })
	case "text":
		add(api.ErrRange, func(v *api.Value) { v.Text = "\x7f" })
		add(api.ErrLong, func(v *api.Value) { v.Text = strings.Repeat("a", 1025) })
	case "bytes":
		add(api.ErrLong, func(v *api.Value) { v.Text = strings.Repeat("a", 1025) })
	case "[ int ]":
		add(api.ErrLong, func(v *api.Value) { v.List = make([]api.Value, 65) })
	case "? int":
		add(api.ErrCount, func(v *api.Value) { v.List = make([]api.Value, 2) })
	case "P":
		add(api.ErrCount, func(v *api.Value) { v.List = nil })
	}
	for e, x := range l {
		wantCheck(t, s, k, x, e)
	}
	return l
}

// TestOrderOfParts: parts in order, each with all of its own parts ahead of the next, whatever their errors are.
func TestOrderOfParts(t *testing.T) {
	kinds := []string{"bool", "int", "uint", "text", "bytes", "[ int ]", "? int", "P", "E"}
	for _, a := range kinds {
		for _, b := range kinds {
			s := loaded(t, whole+"struct B { 1 a : "+a+" ; } struct C { 1 b : B ; 2 c : "+b+" ; 3 d : "+a+" ; }")
			k := typed(t, "C")
			for e, first := range wrongs(t, s, a) {
				for _, second := range wrongs(t, s, b) {
					v := slowDefault(s, k)
					v.List[0].List[0], v.List[1], v.List[2] = first, second, second
					wantCheck(t, s, k, v, e)
					if got := slowCheck(s, k, v); got != e {
						t.Errorf("the slow check of %s ahead of %s: %d, want %d", a, b, got, e)
					}
					wantCheck(t, s, typed(t, "[ C ]"), row(slowDefault(s, k), v, row(second)), e)
					// What is wrong with the whole goes ahead.
					v.Int = 1
					wantCheck(t, s, k, v, api.ErrState)
				}
			}
		}
	}
	s := loaded(t, whole)
	wantCheck(t, s, typed(t, "T"), row(row(num(0), num(2)), txt(strings.Repeat("a", 2000)), row()), api.ErrRange)
	wantCheck(t, s, typed(t, "T"), row(row(num(0), num(1)), txt("a"), row()), api.ErrCount)
}

func wantCompare(t *testing.T, a, b api.Value, n int) {
	t.Helper()
	if got := value.Compare(a, b); got != n {
		t.Errorf("P7.2: Compare of %s, %s: %d, want %d", told(a), told(b), got, n)
	}
	if got := value.Compare(b, a); got != -n {
		t.Errorf("P7.3: Compare of %s, %s: %d, want %d", told(b), told(a), got, -n)
	}
	if got := value.Same(a, b); got != (n == 0) {
		t.Errorf("P7.2: Same of %s, %s: %t", told(a), told(b), got)
	}
	if got := value.Same(b, a); got != (n == 0) {
		t.Errorf("P7.2: Same of %s, %s: %t", told(b), told(a), got)
	}
}

// TestCompare: a row of values, each ahead of all behind it.
func TestCompare(t *testing.T) {
	high := api.Value{Int: math.MinInt, Uint: math.MaxUint64, Text: "z", List: []api.Value{num(1)}}
	rising := []api.Value{
		num(math.MinInt), high, num(math.MinInt + 1), num(-1 << 40), num(-1),
		{}, row(num(-1)), row(num(-1), num(5)), row(num(0)), row(num(0), num(-9)), row(num(0), num(0)), row(num(0), num(0), num(-9)), row(row(num(0))), row(num(1)), row(num(1), num(-1)), row(num(2)),
		txt("\x00"), txt("\x00\x00"), txt(" "), {Text: "a"}, {Text: "a", List: []api.Value{num(-9)}}, txt("a\x00"), txt("aa"), txt("ab"), txt("b"), txt("ba"), txt("~"), txt("\x7f"), txt("\x80"), txt("é"), txt("\xff"), txt("\xff\x00"),
		nat(1), {Uint: 1, Text: "a"}, {Uint: 1, Text: "b", List: []api.Value{num(1)}}, nat(2), nat(math.MaxInt64), nat(1 << 63), nat(1<<63 + 1), nat(math.MaxUint64),
		num(1), {Int: 1, List: []api.Value{num(7)}}, {Int: 1, Text: "a"}, {Int: 1, Uint: 1}, num(2), num(1 << 32), num(math.MaxInt - 1), num(math.MaxInt),
	}
	for i, a := range rising {
		for j, b := range rising {
			wantCompare(t, a, b, cmp.Compare(i, j))
		}
	}
}

// TestSame: two values that are made apart, and what is one step away.
func TestSame(t *testing.T) {
	made := func() api.Value {
		return api.Value{Int: 1, Uint: 2, Text: "abc", List: []api.Value{num(3), row(txt("d"), nat(4)), row()}}
	}
	wantCompare(t, made(), made(), 0)
	wantCompare(t, api.Value{}, api.Value{List: []api.Value{}}, 0)
	wantCompare(t, row(row()), row(api.Value{List: []api.Value{}}), 0)
	for i, do := range []func(v *api.Value){
		func(v *api.Value) { v.Int = 2 },
		func(v *api.Value) { v.Uint = 3 },
		func(v *api.Value) { v.Text = "abd" },
		func(v *api.Value) { v.Text = "abcd" },
		func(v *api.Value) { v.List[0].Int = 4 },
		func(v *api.Value) { v.List[0].Text = "x" },
		func(v *api.Value) { v.List[1].List[0].Text = "e" },
		func(v *api.Value) { v.List[1].List[1].Uint = 5 },
		func(v *api.Value) { v.List[2].List = []api.Value{{}} },
		func(v *api.Value) { v.List = append(v.List, api.Value{}) },
	} {
		v := made()
		do(&v)
		wantCompare(t, made(), v, -1)
		if value.Same(v, made()) {
			t.Errorf("P7.2: Same, changed by %d", i)
		}
	}
}

// small are all values out of few numbers, texts and lists.
func small() []api.Value {
	var plain, all []api.Value
	for _, n := range []int{-1, 0, 1} {
		for _, u := range []uint64{0, 1} {
			for _, s := range []string{"", "a", "b"} {
				plain = append(plain, api.Value{Int: n, Uint: u, Text: s})
			}
		}
	}
	lists := [][]api.Value{nil}
	inner := []api.Value{num(-1), {}, row(num(0)), txt("a")}
	for _, a := range inner {
		lists = append(lists, []api.Value{a})
		for _, b := range inner {
			lists = append(lists, []api.Value{a, b})
		}
	}
	for _, v := range plain {
		for _, l := range lists {
			v.List = l
			all = append(all, v)
		}
	}
	return all
}

// TestOrder: of all small values, what follows of two and of three.
func TestOrder(t *testing.T) {
	all := small()
	order := make([][]int, len(all))
	for i, a := range all {
		for _, b := range all {
			n := value.Compare(a, b)
			order[i] = append(order[i], n)
			if n != slowCompare(a, b) {
				t.Fatalf("P7.2: Compare of %s, %s: %d", told(a), told(b), n)
			}
			if same := value.Same(a, b); same != alike(a, b) || same != (n == 0) {
				t.Fatalf("P7.3: Compare of %s, %s: %d, Same: %t", told(a), told(b), n, same)
			}
		}
	}
	for i := range all {
		for j := range all {
			if order[i][j] != -order[j][i] {
				t.Fatalf("P7.3: Compare of %s, %s: %d, and back: %d", told(all[i]), told(all[j]), order[i][j], order[j][i])
			}
			if order[i][j] > 0 {
				continue
			}
			for k := range all {
				if order[j][k] <= 0 && order[i][k] > 0 {
					t.Fatalf("P7.3: Compare is no order: %s, %s, %s", told(all[i]), told(all[j]), told(all[k]))
				}
			}
		}
	}
}

func TestDeep(t *testing.T) {
	want := func(v api.Value, n int) {
		t.Helper()
		if got := value.Deep(v); got != n {
			t.Errorf("P7.2: Deep of %s: %d, want %d", told(v), got, n)
		}
	}
	want(api.Value{}, 1)
	want(api.Value{List: []api.Value{}}, 1)
	want(api.Value{Int: 5, Uint: 5, Text: "abc"}, 1)
	want(row(num(1)), 2)
	want(row(num(1), row()), 2)
	want(row(num(1), row(num(1)), num(1)), 3)
	want(row(row(row(num(1))), row(row(row(num(1))))), 5)
	want(row(row(row(row(num(1)))), row(row(num(1)))), 5)
	for n := 1; n <= 130; n++ {
		want(nested(n), min(n, mostDeepCounted))
		want(row(num(1), nested(n), nested(n/2)), min(max(n, 1)+1, mostDeepCounted))
	}
	want(nested(mostNested), mostDeepCounted)
	want(endless(1), mostDeepCounted)
	want(endless(3), mostDeepCounted)
	want(repeated(1<<20, num(1)), 2)
	want(row(append(repeated(1<<16, num(1)).List, nested(50))...), 51)
}

func TestSize(t *testing.T) {
	want := func(n int, l ...api.Value) {
		t.Helper()
		if got := value.Size(l...); got != n {
			t.Errorf("P7.2: Size of %d values: %d, want %d", len(l), got, n)
		}
	}
	want(0)
	want(0, []api.Value{}...)
	want(1, api.Value{})
	want(1, api.Value{Int: 5, Uint: 5, Text: "abc", List: []api.Value{}})
	want(2, num(1), num(1))
	want(2, row(num(1)))
	want(6, row(num(1), row()), row(row(num(1))))
	want(8, num(0), row(row(num(1)), row(num(1), num(2))), row())
	for n := 1; n <= 130; n++ {
		want(n, nested(n))
		want(3*n, nested(n), nested(n), nested(n))
		want(n+1, repeated(n, num(1)))
	}
	want(mostNested, nested(mostNested))
	for n := mostCounted - 3; n <= mostCounted+3; n++ {
		most := min(n, mostCounted)
		want(most, repeated(n, num(1)).List...)
		want(most, repeated(n-1, num(1)))
		want(most, num(1), repeated(n-2, num(1)))
		want(most, repeated(n-2, num(1)), num(1))
		want(most, row(row(repeated(n-3, num(1)))))
		// The last one alone goes beyond.
		want(most, append(repeated(1023, repeated(1023, num(1))).List, repeated(n-1023*1024-1, num(1)))...)
	}
	want(mostCounted, repeated(3*mostCounted, num(1)))
	want(mostCounted, endless(1))
	want(mostCounted, endless(2))
	want(mostCounted, num(1), endless(100), num(1))
	// Lists that share one list count as often as they have it.
	shared := num(1)
	for range 60 {
		shared = row(shared, shared)
	}
	want(mostCounted, shared)
	// And more of them than any list holds.
	wide := repeated(1<<10, repeated(1<<10, repeated(1<<10, repeated(1<<10, num(1)))))
	want(mostCounted, wide)
	shared = num(1)
	for range 18 {
		shared = row(shared, shared)
	}
	want(1<<19-1, shared)
	want(1<<20-2, shared, shared)
	want(1<<20-1, row(shared, shared))
	want(1<<20, num(1), shared, shared, num(1))
	want(1<<20, num(1), shared, shared, num(1), num(1))
}

// TestDeepest: values as deep as they may be nested, and one within itself.
func TestDeepest(t *testing.T) {
	bottom := func(n int, v api.Value) api.Value {
		for range n - 1 {
			v = row(v)
		}
		return v
	}
	wantCompare(t, nested(mostNested), nested(mostNested), 0)
	wantCompare(t, bottom(mostNested, num(1)), bottom(mostNested, num(2)), -1)
	wantCompare(t, bottom(mostNested, txt("b")), bottom(mostNested, txt("a")), 1)
	wantCompare(t, nested(mostNested-1), nested(mostNested), -1)
	// Beyond that nothing is promised but that there is an end.
	wantCompare(t, endless(1), endless(1), 0)
	wantCompare(t, endless(1), nested(200), 1)
	wantCompare(t, endless(3), row(num(1)), -1)
}

// randSchema is a schema that may be.
func randSchema(r *rand.Rand) api.Schema {
	for {
		var s api.Schema
		structs, enums := 1+r.Intn(5), 1+r.Intn(3)
		var names []string
		for i := range structs {
			names = append(names, "S"+strconv.Itoa(i))
		}
		for i := range enums {
			names = append(names, "E"+strconv.Itoa(i))
		}
		for i := range structs {
			x := api.Struct{Name: names[i]}
			for j := range r.Intn(5) {
				k := randType(r, names...)
				if k.Kind == 8 && r.Intn(2) == 0 {
					k = api.Type{Kind: 6 + r.Intn(2), Of: []api.Type{k}}
				}
				x.Fields = append(x.Fields, api.Field{Name: "f" + strconv.Itoa(j), Number: 1 + 3*j + r.Intn(3), Type: k})
			}
			s.Structs = append(s.Structs, x)
		}
		for i := range enums {
			x := api.Enum{Name: names[structs+i]}
			for j := range 1 + r.Intn(4) {
				x.Cases = append(x.Cases, api.Case{Name: "c" + strconv.Itoa(j), Number: 3*j + r.Intn(3)})
			}
			s.Enums = append(s.Enums, x)
		}
		if schema.Check(s) == api.OK {
			return s
		}
	}
}

func randType(r *rand.Rand, names ...string) api.Type {
	switch n := 1 + r.Intn(11); {
	case n <= 5:
		return api.Type{Kind: n}
	case n <= 7:
		return api.Type{Kind: n, Of: []api.Type{randType(r, names...)}}
	}
	return api.Type{Kind: 8, Name: names[r.Intn(len(names))]}
}

// randValue is a value of its type; of lists and optional ones from deep on there is nothing.
func randValue(r *rand.Rand, s api.Schema, t api.Type, deep int) api.Value {
	few := 0
	if deep > 0 {
		few = r.Intn(4)
	}
	switch t.Kind {
	case 1:
		return num(r.Intn(2))
	case 2:
		return num(int(r.Uint64()) >> r.Intn(64))
	case 3:
		return nat(r.Uint64() >> r.Intn(64))
	case 4:
		b := make([]byte, few)
		for i := range b {
			b[i] = byte(0x20 + r.Intn(0x5f))
		}
		return txt(string(b))
	case 5:
		b := make([]byte, few)
		r.Read(b)
		return txt(string(b))
	case 6, 7:
		var v api.Value
		for range min(few, 1+2*(7-t.Kind)) {
			v.List = append(v.List, randValue(r, s, t.Of[0], deep-1))
		}
		return v
	}
	if x := enumOf(s, t.Name); x != nil {
		return num(x.Cases[r.Intn(len(x.Cases))].Number)
	}
	var v api.Value
	for _, f := range structOf(s, t.Name).Fields {
		v.List = append(v.List, randValue(r, s, f.Type, deep-1))
	}
	return v
}

// spots are all places of v: itself and its parts.
func spots(v *api.Value) []*api.Value {
	l := []*api.Value{v}
	for i := range v.List {
		l = append(l, spots(&v.List[i])...)
	}
	return l
}

// spoil changes one place of v, which may still be of its type then.
func spoil(r *rand.Rand, v *api.Value) {
	l := spots(v)
	at := l[r.Intn(len(l))]
	switch r.Intn(11) {
	case 0:
		at.Int += r.Intn(7) - 3
	case 1:
		at.Uint += uint64(r.Intn(3))
	case 2:
		at.Text += []string{"a", " ", "~", "\x1f", "\x7f", "\xc3\xa9"}[r.Intn(6)]
	case 3:
		at.Text = strings.Repeat("a", 1023+r.Intn(3)) + at.Text
	case 4:
		at.List = append(at.List, api.Value{})
	case 5:
		at.List = at.List[:len(at.List)/2]
	case 6:
		if len(at.List) > 0 {
			at.List = slices.Repeat(at.List[:1], 63+r.Intn(3))
		}
	case 7:
		at.List = append(at.List, nested(1+r.Intn(20)))
	case 8:
		for range r.Intn(20) {
			*at = row(*at)
		}
	case 9:
		*at = api.Value{}
	case 10:
		x := l[r.Intn(len(l))]
		if value.Size(*x) < 100 {
			*at = copied(*x)
		}
	}
}

func copied(v api.Value) api.Value {
	var l []api.Value
	for _, x := range v.List {
		l = append(l, copied(x))
	}
	v.List = l
	return v
}

// TestRandom: random values of random types, as they are and spoilt, by the slow ones.
func TestRandom(t *testing.T) {
	r := rand.New(rand.NewSource(71))
	seen := map[api.Errno]int{}
	for range 3000 {
		s := randSchema(r)
		var names []string
		for _, x := range s.Structs {
			names = append(names, x.Name, x.Name)
		}
		for _, x := range s.Enums {
			names = append(names, x.Name)
		}
		if r.Intn(5) == 0 {
			names = append(names, "X")
		}
		k := randType(r, names...)
		if e := slowType(s, k); e != api.OK {
			seen[e]++
			wantNoType(t, s, k, e)
			continue
		}
		wantDefault(t, s, k, slowDefault(s, k))
		for range 5 {
			v := randValue(r, s, k, 5)
			for i := range 4 {
				if i > 0 {
					spoil(r, &v)
				}
				e := slowCheck(s, k, v)
				seen[e]++
				if (e == api.OK) != (slowIs(s, k, v) && slowDeep(v) <= mostDeep) {
					t.Fatalf("the slow ones disagree: %v, %s: %d", k, told(v), e)
				}
				wantCheck(t, s, k, v, e)
				wantCount(t, v)
			}
		}
	}
	for _, e := range []api.Errno{api.OK, api.ErrType, api.ErrDepth, api.ErrLong, api.ErrRange, api.ErrCount, api.ErrState} {
		if seen[e] < 20 {
			t.Errorf("only %d random values of error %d", seen[e], e)
		}
	}
}

// wantCount holds Deep and Size against the slow ones.
func wantCount(t *testing.T, v api.Value) {
	t.Helper()
	if got, want := value.Deep(v), min(slowDeep(v), mostDeepCounted); got != want {
		t.Errorf("P7.2: Deep of %s: %d, want %d", told(v), got, want)
	}
	if got, want := value.Size(v), min(slowSize(v), mostCounted); got != want {
		t.Errorf("P7.2: Size of %s: %d, want %d", told(v), got, want)
	}
	if got, want := value.Size(append(slices.Clone(v.List), v)...), min(2*slowSize(v)-1, mostCounted); got != want {
		t.Errorf("P7.2: Size of %s and its parts: %d, want %d", told(v), got, want)
	}
}

// TestRandomOrder: values that are near each other, sorted by Compare.
func TestRandomOrder(t *testing.T) {
	r := rand.New(rand.NewSource(72))
	for range 300 {
		s := randSchema(r)
		k := randType(r, s.Structs[0].Name, s.Enums[0].Name)
		var l []api.Value
		for range 12 {
			v := randValue(r, s, k, 4)
			if len(l) > 0 && r.Intn(2) == 0 {
				v = copied(l[r.Intn(len(l))])
				if r.Intn(2) == 0 {
					spoil(r, &v)
				}
			}
			l = append(l, v)
		}
		slices.SortFunc(l, value.Compare)
		for i, a := range l {
			for j, b := range l {
				n := slowCompare(a, b)
				wantCompare(t, a, b, n)
				if i < j && n > 0 {
					t.Errorf("P7.3: sorted, but %s is ahead of %s", told(a), told(b))
				}
			}
		}
	}
}

// span is a piece of memory.
type span struct {
	from, to uintptr
	what     string
}

func ofList[T any](what string, l []T) span {
	from := uintptr(unsafe.Pointer(unsafe.SliceData(l)))
	var one T
	return span{from, from + uintptr(cap(l))*unsafe.Sizeof(one), what}
}

// valueSpans are all lists that a value is made of, the room behind them too.
func valueSpans(what string, v api.Value) []span {
	l := []span{ofList(what, v.List)}
	for _, x := range v.List {
		l = append(l, valueSpans(what, x)...)
	}
	return l
}

func wantAlone(t *testing.T, l ...span) {
	t.Helper()
	l = slices.DeleteFunc(l, func(s span) bool { return s.from == s.to })
	slices.SortFunc(l, func(a, b span) int { return cmp.Compare(a.from, b.from) })
	for i := 1; i < len(l); i++ {
		if l[i].from < l[i-1].to {
			t.Errorf("P7.5: %s and %s share memory", l[i-1].what, l[i].what)
		}
	}
}

func TestNewMemory(t *testing.T) {
	s := loaded(t, whole)
	two := loaded(t, whole+"struct U { 1 a : A ; 2 b : A ; 3 c : P ; }")
	var all []span
	var kept []api.Value
	for _, x := range []struct {
		s    api.Schema
		kind string
	}{{s, "A"}, {s, "A"}, {s, "P"}, {s, "P"}, {s, "T"}, {two, "U"}, {two, "U"}, {two, "A"}} {
		v, e := value.Default(x.s, typed(t, x.kind))
		if e != api.OK || len(v.List) == 0 {
			t.Fatal("P7.5: Default:", e)
		}
		kept = append(kept, v)
		all = append(all, valueSpans("a default of "+x.kind, v)...)
	}
	wantAlone(t, all...)
	// What is let go of may be used again, and would look shared.
	runtime.KeepAlive(kept)
}

// TestAnswersAreApart: who writes into a default changes no other one, nor what is told of it.
func TestAnswersAreApart(t *testing.T) {
	s := loaded(t, whole+"struct U { 1 a : P ; 2 b : P ; }")
	k := typed(t, "U")
	p := row(num(0), row())
	v, _ := value.Default(s, k)
	v.List[0].List[0] = num(5)
	v.List[0].List[1] = row(nat(1))
	if !alike(v.List[1], p) {
		t.Error("P7.5: two lists of a default share memory")
	}
	wantDefault(t, s, k, row(p, p))
	if !reflect.DeepEqual(s, loaded(t, whole+"struct U { 1 a : P ; 2 b : P ; }")) {
		t.Error("P7.5: a default shares memory with its schema")
	}
}

// TestNotChanged: what is handed in stays, with the room behind it.
func TestNotChanged(t *testing.T) {
	made := func() (api.Schema, api.Type, []api.Value) {
		s := loaded(t, whole)
		s.Structs = append(s.Structs, api.Struct{Name: "behind"})[:len(s.Structs)]
		s.Enums[0].Cases = append(s.Enums[0].Cases, api.Case{Name: "behind"})[:3]
		k := api.Type{Kind: 6, Of: append([]api.Type{{Kind: 8, Name: "A"}}, api.Type{Name: "behind"})[:1]}
		v := slowDefault(s, k.Of[0])
		v.List[5].List = append(make([]api.Value, 0, 4), txt("a"), txt("b"), txt("behind"))[:2]
		l := append(make([]api.Value, 0, 4), row(v), row(slowDefault(s, k.Of[0])), num(7), txt("behind"))
		return s, k, l[:3]
	}
	s, k, l := made()
	for range 3 {
		for _, v := range l {
			value.Check(s, k, v)
			value.Is(s, k, v)
			value.Is(s, k.Of[0], v)
			value.Deep(v)
			value.Size(v)
			value.Same(v, l[0])
			value.Compare(v, l[1])
		}
		value.Size(l...)
		value.Default(s, k)
		if v, e := value.Default(s, k.Of[0]); e == api.OK {
			v.List[0] = num(9)
		}
	}
	s2, k2, l2 := made()
	if !reflect.DeepEqual(s, s2) || !reflect.DeepEqual(s.Structs[:cap(s.Structs)][:len(s.Structs)+1], s2.Structs[:len(s2.Structs)+1]) || !reflect.DeepEqual(s.Enums[0].Cases[:4], s2.Enums[0].Cases[:4]) {
		t.Error("P7.5: a schema is changed")
	}
	if !reflect.DeepEqual(k.Of[:2], k2.Of[:2]) {
		t.Error("P7.5: a type is changed")
	}
	if !reflect.DeepEqual(l[:4], l2[:4]) || !reflect.DeepEqual(l[0].List[0].List[5].List[:4], l2[0].List[0].List[5].List[:4]) {
		t.Error("P7.5: a value is changed")
	}
	if value.Check(s, k, l[0]) != api.OK || value.Check(s, k, l[2]) == api.OK {
		t.Error("P7.1: Check")
	}
}

// fuzzed makes a value out of octets, and answers how many it took.
func fuzzed(b []byte, deep int) (api.Value, int) {
	var v api.Value
	if len(b) == 0 {
		return v, 0
	}
	at := 1
	next := func() int {
		if at >= len(b) {
			return 0
		}
		at++
		return int(b[at-1])
	}
	if b[0]&1 != 0 {
		v.Int = next() - 128
	}
	if b[0]&2 != 0 {
		v.Uint = uint64(next())
	}
	if b[0]&4 != 0 {
		n := min(next(), len(b)-at)
		v.Text = strings.Repeat(string(b[at:at+n]), 1+int(b[0]>>4))
		at += n
	}
	if b[0]&8 != 0 && deep < 40 {
		for range next() % 70 {
			x, n := fuzzed(b[at:], deep+1)
			v.List = append(v.List, x)
			at += n
		}
	}
	return v, at
}

// FuzzValue: whatever the values are, all calls answer as the slow ones.
func FuzzValue(f *testing.F) {
	f.Add(whole, "A", []byte{1, 129}, []byte{8, 2, 1, 129, 0})
	f.Add(whole, "[ text ]", []byte{8, 1, 4, 1, 97}, []byte{8, 2, 4, 1, 97, 4, 1, 10})
	f.Add(whole, "? E", []byte{8, 1, 1, 131}, []byte{8, 1, 1, 132})
	f.Add(whole, "R", []byte{8, 1, 8, 1, 8, 1, 8, 0}, []byte{8, 1, 8, 1, 8, 2})
	f.Add("struct A { 1 a : A ; }", "A", []byte{}, []byte{15, 1, 2, 3})
	f.Add("enum E { }", "X", []byte{255}, []byte{248, 69})
	f.Fuzz(func(t *testing.T, text, kind string, one, two []byte) {
		s, _, e := parse.Text(text)
		if e != api.OK {
			return
		}
		x, _, e := parse.Text("struct X { 1 x : " + kind + " ; }")
		if e != api.OK || len(x.Structs[0].Fields) != 1 {
			return
		}
		k := x.Structs[0].Fields[0].Type
		a, _ := fuzzed(one, 1)
		b, _ := fuzzed(two, 1)
		for _, v := range []api.Value{a, b} {
			wantCheck(t, s, k, v, slowCheck(s, k, v))
			wantCount(t, v)
			wantCompare(t, v, v, 0)
		}
		wantCompare(t, a, b, slowCompare(a, b))
		if e := slowType(s, k); e == api.OK {
			wantDefault(t, s, k, slowDefault(s, k))
		} else {
			wantNoType(t, s, k, e)
		}
	})
}
