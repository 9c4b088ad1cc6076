package codec_test

import (
	"bytes"
	"cmp"
	"encoding/hex"
	"math"
	"math/rand"
	"reflect"
	"runtime"
	"slices"
	"strconv"
	"strings"
	"testing"
	"unsafe"

	"waybill/api"
	"waybill/codec"
	"waybill/parse"
	"waybill/schema"
	"waybill/value"
	"waybill/varint"
)

// The limits, written out: the tests hold the document's numbers, not the program's.
const (
	mostFrame  = 4096
	mostOctets = 1024
	mostList   = 64
	mostNumber = 65536
	mostDeep   = 16
)

// whole has all that a schema may have.
const whole = `
struct P { 1 x : int ; }
struct N { }
struct A { 1 b : bool ; 2 i : int ; 3 u : uint ; 4 t : text ; 5 y : bytes ; 6 l : [ text ] ; 7 o : ? E ; 8 e : E ; 9 p : P ; 10 n : N ; 11 m : [ int ] ; 12 q : [ P ] ; }
struct R { 1 r : [ R ] ; }
struct O { 1 o : ? O ; }
struct Q { 1 q : ? Q ; 2 n : int ; 3 t : text ; }
struct W { 1 a : N ; 2 p : P ; 3 w : V ; }
struct V { 5 e : E ; 7 p : P ; }
struct F { 1 a : int ; 63 b : int ; 64 c : text ; 8191 d : int ; 8192 e : text ; 65535 f : int ; 65536 g : text ; }
enum E { 3 c ; 7 d ; 300 m ; 65536 f ; }
enum Z { 0 no ; 1 yes ; }
service S { once a ( P ) E ; }
`

func loaded(t testing.TB, text string) api.Schema {
	t.Helper()
	s, line, e := schema.Load(text)
	if e != api.OK {
		t.Fatalf("no schema: %q: line %d, error %d", text, line, e)
	}
	return s
}

// typed is the type of that text.
func typed(t testing.TB, text string) api.Type {
	t.Helper()
	s, _, e := parse.Text("struct X { 1 x : " + text + " ; }")
	if e != api.OK {
		t.Fatalf("no type: %q: error %d", text, e)
	}
	return s.Structs[0].Fields[0].Type
}

// octets are those of hexadecimal digits, with blanks between.
func octets(t testing.TB, digits string) []byte {
	t.Helper()
	b, err := hex.DecodeString(strings.ReplaceAll(digits, " ", ""))
	if err != nil {
		t.Fatal(digits, err)
	}
	return b
}

func num(n int) api.Value {
	return api.Value{Int: n}
}

func nat(n uint64) api.Value {
	return api.Value{Uint: n}
}

func txt(s string) api.Value {
	return api.Value{Text: s}
}

func row(l ...api.Value) api.Value {
	return api.Value{List: l}
}

// repeated is n values of one kind.
func repeated(n int, v api.Value) api.Value {
	return row(slices.Repeat([]api.Value{v}, n)...)
}

// joined is octets one behind the other, in memory of their own.
func joined(l ...[]byte) []byte {
	return bytes.Join(l, nil)
}

// long is a length, and as many octets.
func long(b []byte) []byte {
	return joined(varint.Put(nil, uint64(len(b))), b)
}

// field is a tag, and octets with their length.
func field(number int, b []byte) []byte {
	return joined(varint.Put(nil, uint64(2*number+1)), long(b))
}

// count is a tag, and a number.
func count(number int, n uint64) []byte {
	return varint.Put(nil, uint64(2*number), n)
}

func alike(a, b api.Value) bool {
	return a.Int == b.Int && a.Uint == b.Uint && a.Text == b.Text && slices.EqualFunc(a.List, b.List, alike)
}

// structOf is the struct of that name, or nil.
func structOf(s api.Schema, name string) *api.Struct {
	for i := range s.Structs {
		if s.Structs[i].Name == name {
			return &s.Structs[i]
		}
	}
	return nil
}

func enumOf(s api.Schema, name string) *api.Enum {
	for i := range s.Enums {
		if s.Enums[i].Name == name {
			return &s.Enums[i]
		}
	}
	return nil
}

func slowDeep(v api.Value) int {
	deep := 0
	for _, x := range v.List {
		deep = max(deep, slowDeep(x))
	}
	return deep + 1
}

// slowDefault is the default by the words of chapter 7.
func slowDefault(s api.Schema, t api.Type) api.Value {
	if x := enumOf(s, t.Name); x != nil {
		return num(x.Cases[0].Number)
	}
	x := structOf(s, t.Name)
	if x == nil {
		return api.Value{}
	}
	l := make([]api.Value, len(x.Fields))
	for i, f := range x.Fields {
		l[i] = slowDefault(s, f.Type)
	}
	return row(l...)
}

func slowIsNumber(s api.Schema, t api.Type) bool {
	return t.Kind <= 3 || enumOf(s, t.Name) != nil
}

// slowEncode is a value that may be as octets by the words of the chapter, however many they are.
func slowEncode(s api.Schema, t api.Type, v api.Value) []byte {
	part := func(t api.Type, v api.Value) []byte {
		if slowIsNumber(s, t) {
			return slowEncode(s, t, v)
		}
		return long(slowEncode(s, t, v))
	}
	var out []byte
	switch {
	case t.Kind == 2:
		return varint.Put(nil, varint.Zig(v.Int))
	case t.Kind == 3:
		return varint.Put(nil, v.Uint)
	case slowIsNumber(s, t):
		return varint.Put(nil, uint64(v.Int))
	case t.Kind == 4, t.Kind == 5:
		return []byte(v.Text)
	case t.Kind == 6:
		for _, x := range v.List {
			out = joined(out, part(t.Of[0], x))
		}
		return out
	case t.Kind == 7:
		if len(v.List) == 0 {
			return nil
		}
		return joined([]byte{1}, slowEncode(s, t.Of[0], v.List[0]))
	}
	for i, f := range structOf(s, t.Name).Fields {
		if alike(v.List[i], slowDefault(s, f.Type)) {
			continue
		}
		tag := 2 * f.Number
		if !slowIsNumber(s, f.Type) {
			tag++
		}
		out = joined(out, varint.Put(nil, uint64(tag)), part(f.Type, v.List[i]))
	}
	return out
}

// slow is a value on its way out of octets by the words of the chapter.
type slow struct {
	s       api.Schema
	unknown int
}

// cut takes octets with their length off b.
func cut(b []byte) ([]byte, []byte, api.Errno) {
	n, at, e := varint.Get(b, 0)
	if e != api.OK {
		return nil, nil, e
	}
	b = b[at:]
	if n > uint64(len(b)) {
		return nil, nil, api.ErrShort
	}
	return b[:n], b[n:], api.OK
}

// number takes one off b.
func (d *slow) number(b []byte) (uint64, []byte, api.Errno) {
	n, at, e := varint.Get(b, 0)
	if e != api.OK {
		return 0, nil, e
	}
	return n, b[at:], api.OK
}

func (d *slow) ofNumber(t api.Type, n uint64) (api.Value, api.Errno) {
	switch t.Kind {
	case 1:
		if n > 1 {
			return api.Value{}, api.ErrRange
		}
		return num(int(n)), api.OK
	case 2:
		return num(varint.Zag(n)), api.OK
	case 3:
		return nat(n), api.OK
	}
	for _, c := range enumOf(d.s, t.Name).Cases {
		if uint64(c.Number) == n {
			return num(c.Number), api.OK
		}
	}
	return api.Value{}, api.ErrRange
}

// part takes a value off b behind which others may stand.
func (d *slow) part(t api.Type, b []byte, deep int) (api.Value, []byte, api.Errno) {
	if slowIsNumber(d.s, t) {
		if deep > mostDeep {
			return api.Value{}, nil, api.ErrDepth
		}
		n, rest, e := d.number(b)
		if e != api.OK {
			return api.Value{}, nil, e
		}
		v, e := d.ofNumber(t, n)
		return v, rest, e
	}
	x, rest, e := cut(b)
	if e != api.OK {
		return api.Value{}, nil, e
	}
	v, e := d.value(t, x, deep)
	return v, rest, e
}

// value is what all of b is.
func (d *slow) value(t api.Type, b []byte, deep int) (api.Value, api.Errno) {
	switch {
	case deep > mostDeep:
		return api.Value{}, api.ErrDepth
	case slowIsNumber(d.s, t):
		n, rest, e := d.number(b)
		if e != api.OK {
			return api.Value{}, e
		}
		if len(rest) > 0 {
			return api.Value{}, api.ErrTail
		}
		return d.ofNumber(t, n)
	case t.Kind == 4 || t.Kind == 5:
		if len(b) > mostOctets {
			return api.Value{}, api.ErrLong
		}
		for _, c := range b {
			if t.Kind == 4 && (c < 0x20 || c > 0x7e) {
				return api.Value{}, api.ErrRange
			}
		}
		return txt(string(b)), api.OK
	case t.Kind == 6:
		var v api.Value
		for len(b) > 0 {
			if len(v.List) == mostList {
				return api.Value{}, api.ErrLong
			}
			x, rest, e := d.part(t.Of[0], b, deep+1)
			if e != api.OK {
				return api.Value{}, e
			}
			v.List, b = append(v.List, x), rest
		}
		return v, api.OK
	case t.Kind == 7:
		if len(b) == 0 {
			return api.Value{}, api.OK
		}
		if b[0] != 1 {
			return api.Value{}, api.ErrCorrupt
		}
		x, e := d.value(t.Of[0], b[1:], deep+1)
		if e != api.OK {
			return api.Value{}, e
		}
		return row(x), api.OK
	}
	return d.fields(t, b, deep)
}

func (d *slow) fields(t api.Type, b []byte, deep int) (api.Value, api.Errno) {
	fields, v := structOf(d.s, t.Name).Fields, slowDefault(d.s, t)
	last := 0
	for len(b) > 0 {
		tag, at, e := varint.Get(b, 0)
		if e != api.OK {
			return api.Value{}, e
		}
		b = b[at:]
		if tag/2 == 0 || tag/2 > mostNumber || int(tag/2) <= last {
			return api.Value{}, api.ErrField
		}
		last = int(tag / 2)
		known := -1
		for i, f := range fields {
			if f.Number == last {
				known = i
			}
		}
		if known < 0 {
			d.unknown++
			if tag%2 == 0 {
				_, b, e = d.number(b)
			} else {
				_, b, e = cut(b)
			}
			if e != api.OK {
				return api.Value{}, e
			}
			continue
		}
		f := fields[known]
		if slowIsNumber(d.s, f.Type) != (tag%2 == 0) {
			return api.Value{}, api.ErrType
		}
		v.List[known], b, e = d.part(f.Type, b, deep+1)
		if e != api.OK {
			return api.Value{}, e
		}
		if alike(v.List[known], slowDefault(d.s, f.Type)) {
			return api.Value{}, api.ErrCorrupt
		}
	}
	return v, api.OK
}

// slowType is the error of a schema and a type.
func slowType(s api.Schema, t api.Type) api.Errno {
	if e := schema.Check(s); e != api.OK {
		return e
	}
	if e := parse.Shape(t); e != api.OK {
		return e
	}
	for len(t.Of) > 0 {
		t = t.Of[0]
	}
	if t.Kind == 8 && structOf(s, t.Name) == nil && enumOf(s, t.Name) == nil {
		return api.ErrType
	}
	return api.OK
}

func slowDecode(s api.Schema, t api.Type, b []byte) (api.Value, int, api.Errno) {
	if e := slowType(s, t); e != api.OK {
		return api.Value{}, 0, e
	}
	if len(b) > mostFrame {
		return api.Value{}, 0, api.ErrLong
	}
	d := slow{s: s}
	v, e := d.value(t, b, 1)
	if e != api.OK {
		return api.Value{}, 0, e
	}
	if slowDeep(v) > mostDeep {
		return api.Value{}, 0, api.ErrDepth
	}
	return v, d.unknown, api.OK
}

// told keeps long values out of what a failed test tells.
func told(v api.Value) string {
	s := strconv.Itoa(v.Int) + " " + strconv.FormatUint(v.Uint, 10) + " "
	if len(v.Text) > 20 {
		s += strconv.Quote(v.Text[:20]) + ".. of " + strconv.Itoa(len(v.Text))
	} else {
		s += strconv.Quote(v.Text)
	}
	s += " ["
	for i, x := range v.List {
		if i == 5 || len(s) > 300 {
			s += ".. of " + strconv.Itoa(len(v.List))
			break
		}
		s += told(x) + ";"
	}
	return s + "]"
}

// seen keeps long octets out of what a failed test tells.
func seen(b []byte) string {
	if len(b) > 60 {
		return hex.EncodeToString(b[:60]) + ".. of " + strconv.Itoa(len(b))
	}
	return hex.EncodeToString(b)
}

// roomy is b with room behind it, in which other octets stand.
func roomy(b []byte) []byte {
	return append(append(make([]byte, 0, len(b)+8), b...), 1, 1, 2, 2, 0, 128, 3, 1)[:len(b)]
}

// wantDecode holds Decode, and Canon with it, against a value or an error, and against what follows of them.
func wantDecode(t *testing.T, s api.Schema, k api.Type, b []byte, v api.Value, unknown int, e api.Errno) {
	t.Helper()
	in := roomy(b)
	got, n, ge := codec.Decode(s, k, in)
	if ge != e || n != unknown || !alike(got, v) {
		t.Errorf("P8.2: Decode of %v, %s: %s, %d, %d; want %s, %d, %d", k, seen(b), told(got), n, ge, told(v), unknown, e)
		return
	}
	canon, ce := codec.Canon(s, k, in)
	if ce != e {
		t.Errorf("P8.3: Canon of %v, %s: %d, want %d", k, seen(b), ce, e)
	}
	if !bytes.Equal(in[:cap(in)], roomy(b)[:cap(in)]) {
		t.Errorf("P8.7: %s is changed", seen(b))
	}
	if e != api.OK {
		if !reflect.DeepEqual(got, api.Value{}) || len(canon) > 0 {
			t.Errorf("P4: beside error %d there are %s, %s", e, told(got), seen(canon))
		}
		return
	}
	if ve := value.Check(s, k, got); ve != api.OK {
		t.Errorf("P8.2: Decode of %v, %s is not of its type: %d", k, seen(b), ve)
	}
	if want := slowEncode(s, k, v); !bytes.Equal(canon, want) {
		t.Errorf("P8.3: Canon of %v, %s: %s, want %s", k, seen(b), seen(canon), seen(want))
	}
	if out, ee := codec.Encode(s, k, got); ee != api.OK || !bytes.Equal(out, canon) || unknown == 0 && !bytes.Equal(out, b) {
		t.Errorf("P8.5: Decode takes %v, %s, Encode makes %s, %d of it", k, seen(b), seen(out), ee)
	}
}

// wantSlow holds Decode against the slow one.
func wantSlow(t *testing.T, s api.Schema, k api.Type, b []byte) api.Errno {
	t.Helper()
	v, unknown, e := slowDecode(s, k, b)
	wantDecode(t, s, k, b, v, unknown, e)
	return e
}

// wantNone holds Decode against an error.
func wantNone(t *testing.T, s api.Schema, k api.Type, b []byte, e api.Errno) {
	t.Helper()
	wantDecode(t, s, k, b, api.Value{}, 0, e)
	if _, _, se := slowDecode(s, k, b); se != e {
		t.Errorf("the slow one of %v, %s: %d, want %d", k, seen(b), se, e)
	}
}

// wantBoth holds Encode against octets, and Decode of them against the value.
func wantBoth(t *testing.T, s api.Schema, k api.Type, v api.Value, b []byte) {
	t.Helper()
	got, e := codec.Encode(s, k, v)
	if e != api.OK || !bytes.Equal(got, b) {
		t.Errorf("P8.1: Encode of %v, %s: %s, %d; want %s", k, told(v), seen(got), e, seen(b))
		return
	}
	if back, n, e := codec.Decode(s, k, got); e != api.OK || n != 0 || !alike(back, v) {
		t.Errorf("P8.4: Decode of Encode of %v, %s: %s, %d, %d", k, told(v), told(back), n, e)
	}
	if l, e := codec.Args(s, k, v); e != api.OK || len(l) != 1 || !bytes.Equal(l[0], b) {
		t.Errorf("P8.1: Args of %v, %s: %v, %d", k, told(v), l, e)
	}
	wantDecode(t, s, k, b, v, 0, api.OK)
}

// wantNotEncoded holds Encode and Args against an error.
func wantNotEncoded(t *testing.T, s api.Schema, k api.Type, v api.Value, e api.Errno) {
	t.Helper()
	if b, got := codec.Encode(s, k, v); got != e || len(b) > 0 {
		t.Errorf("P8.1: Encode of %v, %s: %s, %d; want %d", k, told(v), seen(b), got, e)
	}
	if l, got := codec.Args(s, k, v); got != e || len(l) > 0 {
		t.Errorf("P8.1: Args of %v, %s: %v, %d; want %d", k, told(v), l, got, e)
	}
}

// both is a value and its octets, in hexadecimal.
type both struct {
	kind  string
	v     api.Value
	octet string
}

// TestNumbers: bool, int, uint, an enum: a number, at its edges.
func TestNumbers(t *testing.T) {
	s := loaded(t, whole)
	for _, x := range []both{
		{"bool", num(0), "00"}, {"bool", num(1), "01"},
		{"int", num(0), "00"}, {"int", num(-1), "01"}, {"int", num(1), "02"}, {"int", num(3), "06"},
		{"int", num(63), "7e"}, {"int", num(-64), "7f"}, {"int", num(64), "8001"}, {"int", num(-65), "8101"}, {"int", num(150), "ac02"},
		{"int", num(math.MaxInt), "feffffffffffffffff01"}, {"int", num(math.MinInt), "ffffffffffffffffff01"},
		{"uint", nat(0), "00"}, {"uint", nat(1), "01"}, {"uint", nat(127), "7f"}, {"uint", nat(128), "8001"}, {"uint", nat(300), "ac02"},
		{"uint", nat(1 << 63), "80808080808080808001"}, {"uint", nat(math.MaxUint64), "ffffffffffffffffff01"},
		{"E", num(3), "03"}, {"E", num(7), "07"}, {"E", num(300), "ac02"}, {"E", num(65536), "808004"},
		{"Z", num(0), "00"}, {"Z", num(1), "01"},
	} {
		wantBoth(t, s, typed(t, x.kind), x.v, octets(t, x.octet))
	}
}

// TestTexts: text and bytes are octets as they are.
func TestTexts(t *testing.T) {
	s := loaded(t, whole)
	all := make([]byte, 256)
	for i := range all {
		all[i] = byte(i)
	}
	for _, kind := range []string{"text", "bytes"} {
		for n := range mostOctets + 1 {
			wantBoth(t, s, typed(t, kind), txt(strings.Repeat("a", n)), bytes.Repeat([]byte("a"), n))
		}
		wantBoth(t, s, typed(t, kind), txt(string(all[0x20:0x7f])), all[0x20:0x7f])
		for _, n := range []int{mostOctets + 1, mostOctets + 2, 2000, mostFrame - 1, mostFrame} {
			wantNone(t, s, typed(t, kind), bytes.Repeat([]byte("a"), n), api.ErrLong)
			wantNone(t, s, typed(t, kind), bytes.Repeat([]byte("\n"), n), api.ErrLong)
		}
	}
	wantBoth(t, s, typed(t, "bytes"), txt(string(all)), all)
	for c := range 256 {
		e := api.ErrRange
		if c >= 0x20 && c <= 0x7e {
			e = api.OK
		}
		one := []byte{byte(c)}
		for _, b := range [][]byte{one, joined([]byte("a"), one), joined(one, []byte("a")), joined(bytes.Repeat([]byte("~"), 1023), one)} {
			wantBoth(t, s, typed(t, "bytes"), txt(string(b)), b)
			if e == api.OK {
				wantBoth(t, s, typed(t, "text"), txt(string(b)), b)
			} else {
				wantNone(t, s, typed(t, "text"), b, e)
				wantNone(t, s, typed(t, "[ text ]"), joined(long(nil), long(b)), e)
				wantNone(t, s, typed(t, "? text"), joined([]byte{1}, b), e)
				wantNone(t, s, typed(t, "A"), field(4, b), e)
			}
		}
	}
}

func TestLists(t *testing.T) {
	s := loaded(t, whole)
	for _, x := range []both{
		{"[ int ]", row(), ""},
		{"[ int ]", row(num(0)), "00"},
		{"[ int ]", row(num(3), num(-1), num(150)), "06 01 ac02"},
		{"[ uint ]", row(nat(300), nat(0)), "ac02 00"},
		{"[ bool ]", row(num(1), num(0), num(1)), "01 00 01"},
		{"[ E ]", row(num(3), num(300), num(7)), "03 ac02 07"},
		{"[ text ]", row(), ""},
		{"[ text ]", row(txt("")), "00"},
		{"[ text ]", row(txt("ab"), txt(""), txt("c")), "026162 00 0163"},
		{"[ bytes ]", row(txt("\x00\xff")), "0200ff"},
		{"[ [ int ] ]", row(row(num(3)), row(), row(num(0), num(-1))), "0106 00 020001"},
		{"[ ? int ]", row(row(num(3)), row(), row(num(0))), "020106 00 020100"},
		{"[ P ]", row(row(num(3)), row(num(0))), "020206 00"},
		{"[ N ]", row(row(), row()), "00 00"},
		{"[ ? P ]", row(row(row(num(0))), row(), row(row(num(3)))), "0101 00 03010206"},
		{"[ [ P ] ]", row(row(row(num(3)), row(num(3))), row()), "06020206020206 00"},
	} {
		wantBoth(t, s, typed(t, x.kind), x.v, octets(t, x.octet))
	}
	for kind, v := range map[string]api.Value{"int": num(-5), "E": num(300), "bool": num(0), "text": txt("a"), "N": {}, "P": row(num(0)), "[ int ]": row(num(1)), "? int": row()} {
		k := typed(t, "[ "+kind+" ]")
		for n := range 70 {
			b := slowEncode(s, k, repeated(n, v))
			if n <= mostList {
				wantBoth(t, s, k, repeated(n, v), b)
				continue
			}
			wantNotEncoded(t, s, k, repeated(n, v), api.ErrLong)
			wantNone(t, s, k, b, api.ErrLong)
		}
		full := slowEncode(s, k, repeated(mostList, v))
		// That there is one too many shows where it begins, whatever it is.
		for _, more := range []string{"00", "80", "8000", "ff", "05", "02", "7f"} {
			wantNone(t, s, k, joined(full, octets(t, more)), api.ErrLong)
			wantNone(t, s, typed(t, "? [ "+kind+" ]"), joined([]byte{1}, full, octets(t, more)), api.ErrLong)
		}
		// What is wrong with one of the first goes ahead.
		if kind == "text" {
			full[63*2+1] = '\n'
			wantNone(t, s, k, joined(full, []byte{0}), api.ErrRange)
		}
	}
	wantNone(t, s, typed(t, "[ bool ]"), joined(make([]byte, 63), []byte{2, 0}), api.ErrRange)
	wantNone(t, s, typed(t, "[ bool ]"), joined(make([]byte, 64), []byte{2}), api.ErrLong)
}

func TestOptional(t *testing.T) {
	s := loaded(t, whole)
	for _, x := range []both{
		{"? int", row(), ""},
		{"? int", row(num(0)), "01 00"},
		{"? int", row(num(150)), "01 ac02"},
		{"? bool", row(num(1)), "01 01"},
		{"? E", row(num(3)), "01 03"},
		{"? text", row(txt("")), "01"},
		{"? text", row(txt("ab")), "01 6162"},
		{"? bytes", row(txt("\x01")), "01 01"},
		{"? ? int", row(row()), "01"},
		{"? ? int", row(row(num(0))), "01 01 00"},
		{"? [ int ]", row(row()), "01"},
		{"? [ int ]", row(row(num(0), num(0))), "01 00 00"},
		{"? P", row(row(num(0))), "01"},
		{"? P", row(row(num(3))), "01 02 06"},
		{"? N", row(row()), "01"},
	} {
		wantBoth(t, s, typed(t, x.kind), x.v, octets(t, x.octet))
	}
	for c := range 256 {
		for _, kind := range []string{"int", "E", "text", "bytes", "? int", "[ int ]", "P", "N"} {
			k := typed(t, "? "+kind)
			if c != 1 {
				wantNone(t, s, k, []byte{byte(c)}, api.ErrCorrupt)
				wantNone(t, s, k, []byte{byte(c), 1}, api.ErrCorrupt)
				wantNone(t, s, k, []byte{byte(c), 0}, api.ErrCorrupt)
			}
			wantSlow(t, s, k, []byte{1, byte(c)})
			wantSlow(t, s, k, []byte{1, 1, byte(c)})
		}
	}
}

func TestStructs(t *testing.T) {
	s := loaded(t, whole)
	plain := slowDefault(s, typed(t, "A"))
	with := func(at int, v api.Value) api.Value {
		x := row(slices.Clone(plain.List)...)
		x.List[at] = v
		return x
	}
	for _, x := range []both{
		{"P", row(num(3)), "02 06"},
		{"P", row(num(0)), ""},
		{"N", row(), ""},
		{"A", plain, ""},
		{"A", with(0, num(1)), "02 01"},
		{"A", with(1, num(-1)), "04 01"},
		{"A", with(2, nat(300)), "06 ac02"},
		{"A", with(3, txt("ab")), "09 02 6162"},
		{"A", with(4, txt("\x00")), "0b 01 00"},
		{"A", with(5, row(txt(""))), "0d 01 00"},
		{"A", with(6, row(num(3))), "0f 02 0103"},
		{"A", with(7, num(7)), "10 07"},
		{"A", with(7, num(300)), "10 ac02"},
		{"A", with(8, row(num(3))), "13 02 0206"},
		{"A", with(10, row(num(0))), "17 01 00"},
		{"A", with(11, row(row(num(0)))), "19 01 00"},
		{"A", with(11, row(row(num(3)), row(num(0)))), "19 04 020206 00"},
		{"A", row(num(1), num(3), nat(1), txt("a"), txt("b"), row(txt("c")), row(num(7)), num(7), row(num(1)), row(), row(num(1)), row(row(num(1)))),
			"02 01 04 06 06 01 09 01 61 0b 01 62 0d 02 0163 0f 02 0107 10 07 13 02 0202 17 01 02 19 03 020202"},
		{"R", row(row()), ""},
		{"R", row(row(row(row()))), "03 01 00"},
		{"R", row(row(row(row(row(row()))))), "03 04 03 030100"},
		{"O", row(row(row(row()))), "03 01 01"},
		{"O", row(row(row(row(row(row()))))), "03 04 01 03 01 01"},
		{"W", row(row(), row(num(0)), row(num(3), row(num(0)))), ""},
		{"W", row(row(), row(num(3)), row(num(3), row(num(0)))), "05 02 0206"},
		{"W", row(row(), row(num(0)), row(num(7), row(num(0)))), "07 02 0a07"},
		{"W", row(row(), row(num(0)), row(num(3), row(num(-1)))), "07 04 0f020201"},
		{"F", row(num(-1), num(-1), txt("a"), num(-1), txt("b"), num(-1), txt("c")), "02 01 7e 01 8101 01 61 fe7f 01 818001 01 62 feff07 01 818008 01 63"},
	} {
		wantBoth(t, s, typed(t, x.kind), x.v, octets(t, x.octet))
	}
}

// TestEncodeTellsCheck: what value.Check refuses is not encoded, by its error.
func TestEncodeTellsCheck(t *testing.T) {
	s := loaded(t, whole)
	tooDeep := api.Value{}
	for range mostDeep {
		tooDeep = row(tooDeep)
	}
	inItself := make([]api.Value, 1)
	inItself[0].List = inItself
	for _, x := range []struct {
		kind string
		v    api.Value
		e    api.Errno
	}{
		{"bool", num(2), api.ErrRange}, {"bool", num(-1), api.ErrRange}, {"bool", nat(1), api.ErrState},
		{"int", nat(1), api.ErrState}, {"uint", num(1), api.ErrState}, {"uint", num(-1), api.ErrState},
		{"E", num(0), api.ErrRange}, {"E", num(4), api.ErrRange}, {"E", num(-3), api.ErrRange},
		{"text", txt("\n"), api.ErrRange}, {"text", txt(strings.Repeat("a", 1025)), api.ErrLong}, {"bytes", txt(strings.Repeat("a", 1025)), api.ErrLong},
		{"[ int ]", repeated(65, num(0)), api.ErrLong}, {"[ bool ]", row(num(0), num(2)), api.ErrRange},
		{"? int", row(num(0), num(0)), api.ErrCount},
		{"P", row(), api.ErrCount}, {"P", row(num(0), num(0)), api.ErrCount}, {"P", row(nat(1)), api.ErrState}, {"N", row(num(0)), api.ErrCount},
		{"R", tooDeep, api.ErrDepth}, {"int", inItself[0], api.ErrDepth}, {"R", inItself[0], api.ErrDepth},
		// Ahead of octets that are too many.
		{"[ text ]", row(append(repeated(63, txt(strings.Repeat("a", 1024))).List, txt("\n"))...), api.ErrRange},
		{"[ bytes ]", row(append(repeated(63, txt(strings.Repeat("a", 1024))).List, num(1))...), api.ErrState},
	} {
		if e := value.Check(s, typed(t, x.kind), x.v); e != x.e {
			t.Fatalf("Check of %s, %s: %d", x.kind, told(x.v), e)
		}
		wantNotEncoded(t, s, typed(t, x.kind), x.v, x.e)
	}
}

// wantNoType holds all calls that take a type against its error, or its schema's, whatever else they are given.
func wantNoType(t *testing.T, s api.Schema, k api.Type, e api.Errno) {
	t.Helper()
	for _, v := range []api.Value{{}, num(1), row(num(1)), {Int: 2, Uint: 1, Text: strings.Repeat("\n", 2000)}, repeated(100, txt(strings.Repeat("a", 1024)))} {
		wantNotEncoded(t, s, k, v, e)
	}
	for _, b := range [][]byte{nil, {}, {0}, {128}, {1, 1}, make([]byte, mostFrame), make([]byte, mostFrame+1)} {
		wantDecode(t, s, k, b, api.Value{}, 0, e)
	}
	if l, e := codec.Args(s, k); e != api.OK || len(l) > 0 {
		t.Errorf("P8.1: Args of no values: %v, %d", l, e)
	}
}

// TestNoType: a schema or a type that may not be is told ahead of all else.
func TestNoType(t *testing.T) {
	fields := func(number int, k api.Type) []api.Field {
		return []api.Field{{Name: "a", Number: number, Type: k}}
	}
	for _, s := range []api.Schema{
		{Structs: []api.Struct{{}}},
		{Structs: []api.Struct{{Name: "P"}, {Name: "P"}}},
		{Structs: []api.Struct{{Name: "P", Fields: fields(0, api.Type{Kind: 1})}}},
		{Structs: []api.Struct{{Name: "P", Fields: fields(1, api.Type{Kind: 8, Name: "X"})}}},
		{Structs: []api.Struct{{Name: "P", Fields: fields(1, api.Type{Kind: 8, Name: "P"})}}},
		{Structs: []api.Struct{{Name: "P"}}, Enums: []api.Enum{{Name: "E"}}},
		{Structs: []api.Struct{{Name: "P"}}, Services: []api.Service{{Name: "P"}}},
		{Structs: make([]api.Struct, 65)},
	} {
		e := schema.Check(s)
		if e == api.OK {
			t.Fatal("it may be")
		}
		for _, k := range []api.Type{{Kind: 2}, {Kind: 8, Name: "P"}, {Kind: 8, Name: "E"}, {Kind: 8, Name: "X"}, {Kind: 0}, {Kind: 9}, {Kind: 6}} {
			wantNoType(t, s, k, e)
		}
	}
	s := loaded(t, whole)
	deep := api.Type{Kind: 8, Name: "X"}
	for range 8 {
		deep = api.Type{Kind: 6, Of: []api.Type{deep}}
	}
	inItself := make([]api.Type, 1)
	inItself[0] = api.Type{Kind: 7, Of: inItself}
	for _, k := range []api.Type{
		{}, {Kind: -1}, {Kind: 9}, {Kind: 10}, {Kind: math.MaxInt}, {Kind: math.MinInt},
		{Kind: 1, Name: "P"}, {Kind: 2, Of: []api.Type{{Kind: 2}}}, {Kind: 9, Name: "P"}, {Kind: 10, Name: "E"},
		{Kind: 8}, {Kind: 8, Name: "int"}, {Kind: 8, Name: "P", Of: []api.Type{{Kind: 1}}}, {Kind: 6}, {Kind: 7, Of: make([]api.Type, 2)}, {Kind: 6, Of: []api.Type{{Kind: 7}}},
		deep, inItself[0],
	} {
		e := parse.Shape(k)
		if e == api.OK {
			t.Fatal("it has a shape")
		}
		wantNoType(t, s, k, e)
	}
	for _, text := range []string{"X", "S", "p", "[ X ]", "? S", "[ ? [ X ] ]"} {
		wantNoType(t, s, typed(t, text), api.ErrType)
	}
	// Nil and empty lists are one, and no declarations are enough for what needs none.
	for _, s := range []api.Schema{{}, {Structs: []api.Struct{}, Enums: []api.Enum{}, Services: []api.Service{}}} {
		wantBoth(t, s, api.Type{Kind: 2, Of: []api.Type{}}, num(3), []byte{6})
		wantBoth(t, s, api.Type{Kind: 6, Of: []api.Type{{Kind: 4}}}, row(txt("a")), []byte{1, 'a'})
	}
	empty := api.Value{List: []api.Value{}}
	for _, x := range []both{{"int", api.Value{Int: 3, List: []api.Value{}}, "06"}, {"[ int ]", empty, ""}, {"? int", empty, ""}, {"N", empty, ""}, {"R", row(empty), ""}, {"A", slowDefault(s, typed(t, "A")), ""}} {
		wantBoth(t, s, typed(t, x.kind), x.v, octets(t, x.octet))
	}
}

// TestEncodeLong: as many as MaxFrame octets, and one more.
func TestEncodeLong(t *testing.T) {
	s := loaded(t, whole+"struct L { 1 a : bytes ; 2 b : bytes ; 3 c : bytes ; 4 d : bytes ; 5 e : [ int ] ; 6 f : [ [ uint ] ] ; }")
	letters := func(n int) api.Value { return txt(strings.Repeat("a", n)) }
	want := func(kind string, v api.Value, n int) {
		t.Helper()
		k := typed(t, kind)
		b := slowEncode(s, k, v)
		if len(b) != n {
			t.Fatalf("%d octets, not %d", len(b), n)
		}
		if n <= mostFrame {
			wantBoth(t, s, k, v, b)
			return
		}
		wantNotEncoded(t, s, k, v, api.ErrLong)
		wantNone(t, s, k, b, api.ErrLong)
	}
	for n := mostFrame - 3; n <= mostFrame+3; n++ {
		last := n - 3*1024 - 2
		want("[ bytes ]", row(letters(1022), letters(1022), letters(1022), letters(last-3), letters(2)), n)
		want("? [ text ]", row(row(letters(1022), letters(1022), letters(1022), letters(last-3), letters(1))), n)
		want("[ [ bytes ] ]", row(row(letters(1022), letters(1022), letters(1022), letters(last-4), letters(0), letters(0))), n)
		want("L", row(letters(1021), letters(1021), letters(1021), letters(last-1), row(), row()), n)
		want("[ L ]", row(row(letters(1021), letters(1021), letters(1021), letters(last-3), row(), row())), n)
	}
	// Sixty-two lists of 64 numbers with their lengths, and two of a few.
	for n := mostFrame - 3; n <= mostFrame+3; n++ {
		l := repeated(62, repeated(64, num(0))).List
		want("[ [ int ] ]", row(append(l, repeated(30, num(0)), repeated(n-62*65-32, num(0)))...), n)
	}
	want("[ [ uint ] ]", repeated(64, repeated(64, nat(math.MaxUint64))), 64*(640+2))
	want("[ text ]", repeated(64, letters(1024)), 64*1026)
	deep := letters(1024)
	for range 3 {
		deep = repeated(64, deep)
	}
	wantNotEncoded(t, s, typed(t, "[[[ text ]]]"), deep, api.ErrLong)
}

// TestDecodeLong: more than MaxFrame octets are told ahead of what they are.
func TestDecodeLong(t *testing.T) {
	s := loaded(t, whole)
	for n := mostFrame - 2; n <= mostFrame+2; n++ {
		unknown := joined([]byte{5}, long(make([]byte, n-3)))
		bad := bytes.Repeat([]byte{0xff}, n)
		if n > mostFrame {
			for _, kind := range []string{"P", "N", "int", "text", "[ int ]", "? int", "E"} {
				for _, b := range [][]byte{unknown, bad, make([]byte, n)} {
					wantNone(t, s, typed(t, kind), b, api.ErrLong)
				}
			}
			continue
		}
		wantDecode(t, s, typed(t, "P"), unknown, row(num(0)), 1, api.OK)
		wantNone(t, s, typed(t, "P"), bad, api.ErrCorrupt)
		wantNone(t, s, typed(t, "[ int ]"), make([]byte, n), api.ErrLong)
		wantNone(t, s, typed(t, "? int"), make([]byte, n), api.ErrCorrupt)
		wantNone(t, s, typed(t, "int"), make([]byte, n), api.ErrTail)
	}
	wantNone(t, s, typed(t, "int"), make([]byte, 1<<20), api.ErrLong)
}

// TestDecodeErrors: what may not be, one by one.
func TestDecodeErrors(t *testing.T) {
	s := loaded(t, whole)
	for _, x := range []struct {
		kind, octet string
		e           api.Errno
	}{
		// A number: varint's errors; behind it there is nothing; what it may be.
		{"int", "", api.ErrShort}, {"int", "80", api.ErrShort}, {"int", "8000", api.ErrCorrupt}, {"int", "ffffffffffffffffff02", api.ErrCorrupt},
		{"uint", "", api.ErrShort}, {"uint", "0000", api.ErrTail}, {"uint", "ac0200", api.ErrTail}, {"uint", "0080", api.ErrTail},
		{"bool", "", api.ErrShort}, {"bool", "02", api.ErrRange}, {"bool", "8001", api.ErrRange}, {"bool", "8002", api.ErrRange}, {"bool", "8100", api.ErrCorrupt}, {"bool", "0101", api.ErrTail}, {"bool", "0201", api.ErrTail},
		{"bool", "80808080808080808001", api.ErrRange}, {"bool", "81808080808080808001", api.ErrRange}, {"bool", "8180808010", api.ErrRange},
		{"E", "", api.ErrShort}, {"E", "00", api.ErrRange}, {"E", "02", api.ErrRange}, {"E", "04", api.ErrRange}, {"E", "ab02", api.ErrRange}, {"E", "818004", api.ErrRange}, {"E", "0300", api.ErrTail}, {"E", "0400", api.ErrTail},
		{"E", "8380808010", api.ErrRange}, {"E", "83808080808080808001", api.ErrRange}, {"E", "ffffffffffffffffff01", api.ErrRange},
		// A list: of each value.
		{"[ int ]", "80", api.ErrShort}, {"[ int ]", "0080", api.ErrShort}, {"[ int ]", "008000", api.ErrCorrupt},
		{"[ bool ]", "000102", api.ErrRange}, {"[ bool ]", "0280", api.ErrRange}, {"[ bool ]", "8002", api.ErrRange}, {"[ E ]", "0304", api.ErrRange}, {"[ E ]", "0480", api.ErrRange},
		{"[ text ]", "01", api.ErrShort}, {"[ text ]", "80", api.ErrShort}, {"[ text ]", "8000", api.ErrCorrupt}, {"[ text ]", "0161 0261", api.ErrShort}, {"[ text ]", "010a 02", api.ErrRange}, {"[ text ]", "010a 8000", api.ErrRange},
		{"[ text ]", "81 08 0a", api.ErrShort}, {"[ text ]", "ffffffffffffffffff01", api.ErrShort}, {"[ text ]", "80808080808080808001", api.ErrShort}, {"[ text ]", "ffffffffffffffff7f 61", api.ErrShort}, {"[ text ]", "8120", api.ErrShort}, {"[ bytes ]", "ffffffff0f 61", api.ErrShort},
		{"[ [ bool ] ]", "0102", api.ErrRange}, {"[ [ int ] ]", "0180", api.ErrShort}, {"[ [ int ] ]", "0180 01", api.ErrShort}, {"[ ? int ]", "0100", api.ErrCorrupt}, {"[ ? int ]", "0101", api.ErrShort}, {"[ ? int ]", "03010000", api.ErrTail},
		{"[ N ]", "0100", api.ErrField}, {"[ N ]", "0102", api.ErrShort}, {"[ P ]", "020200", api.ErrCorrupt}, {"[ P ]", "0102 06", api.ErrShort},
		// An optional one: an octet, and all behind it is its value.
		{"? int", "00", api.ErrCorrupt}, {"? int", "0000", api.ErrCorrupt}, {"? int", "8100", api.ErrCorrupt}, {"? int", "01", api.ErrShort}, {"? int", "0180", api.ErrShort}, {"? int", "018000", api.ErrCorrupt}, {"? int", "010000", api.ErrTail}, {"? bool", "0102", api.ErrRange}, {"? bool", "010200", api.ErrTail},
		{"? text", "011f", api.ErrRange}, {"? text", "0061", api.ErrCorrupt}, {"? ? int", "0102", api.ErrCorrupt}, {"? E", "0100", api.ErrRange}, {"? P", "010200", api.ErrCorrupt}, {"? P", "0102", api.ErrShort},
		// A struct: tags.
		{"P", "80", api.ErrShort}, {"P", "8000", api.ErrCorrupt}, {"P", "02", api.ErrShort}, {"P", "0280", api.ErrShort}, {"P", "028000", api.ErrCorrupt}, {"P", "0200", api.ErrCorrupt},
		{"P", "00", api.ErrField}, {"P", "01", api.ErrField}, {"P", "0000", api.ErrField}, {"P", "0100", api.ErrField}, {"P", "808008", api.ErrShort}, {"P", "828008", api.ErrField}, {"P", "838008", api.ErrField}, {"P", "ffffffffffffffffff01", api.ErrField}, {"P", "feffffffffffffffff01", api.ErrField}, {"P", "8280808010", api.ErrField},
		{"P", "0206 02", api.ErrField}, {"P", "0206 0206", api.ErrField}, {"P", "0206 03", api.ErrField}, {"P", "0406 02", api.ErrField}, {"P", "0406 0206", api.ErrField}, {"P", "0406 0405", api.ErrField}, {"P", "0500 0400", api.ErrField}, {"P", "0400 0500", api.ErrField}, {"P", "0606 0406", api.ErrField},
		{"P", "03", api.ErrType}, {"P", "0300", api.ErrType}, {"P", "0380", api.ErrType}, {"P", "0301 00", api.ErrType}, {"A", "03", api.ErrType}, {"A", "05", api.ErrType}, {"A", "07", api.ErrType}, {"A", "08", api.ErrType}, {"A", "0a", api.ErrType}, {"A", "0c", api.ErrType}, {"A", "0e", api.ErrType}, {"A", "11", api.ErrType}, {"A", "12", api.ErrType}, {"A", "14", api.ErrType}, {"A", "16", api.ErrType}, {"A", "18", api.ErrType},
		// A struct: values, and those that are defaults.
		{"A", "0200", api.ErrCorrupt}, {"A", "0202", api.ErrRange}, {"A", "0400", api.ErrCorrupt}, {"A", "0600", api.ErrCorrupt}, {"A", "0900", api.ErrCorrupt}, {"A", "09010a", api.ErrRange}, {"A", "0b00", api.ErrCorrupt}, {"A", "0d00", api.ErrCorrupt}, {"A", "0f00", api.ErrCorrupt}, {"A", "1003", api.ErrCorrupt}, {"A", "1000", api.ErrRange}, {"A", "1300", api.ErrCorrupt}, {"A", "13020200", api.ErrCorrupt}, {"A", "1500", api.ErrCorrupt}, {"A", "1700", api.ErrCorrupt}, {"A", "1900", api.ErrCorrupt},
		{"A", "0f0100", api.ErrCorrupt}, {"A", "0f020104", api.ErrRange}, {"A", "0f0101", api.ErrShort}, {"A", "0f03010300", api.ErrTail}, {"A", "0901", api.ErrShort}, {"A", "0980", api.ErrShort}, {"A", "098000", api.ErrCorrupt}, {"A", "098108 61", api.ErrShort}, {"A", "09ffffffffffffffffff01", api.ErrShort}, {"A", "09808080808080808080 02", api.ErrCorrupt}, {"A", "098120 0a", api.ErrShort},
		{"A", "1301 02 06", api.ErrShort}, {"W", "0702 0a03", api.ErrCorrupt}, {"W", "0704 0f020200", api.ErrCorrupt}, {"W", "0702 0f00", api.ErrCorrupt},
		// A struct without fields is its default, whatever is in it that it does not know; so is one with unknown fields alone.
		{"A", "1502 0200", api.ErrCorrupt}, {"A", "1302 0405", api.ErrCorrupt}, {"W", "0302 0200", api.ErrCorrupt}, {"W", "0502 0405", api.ErrCorrupt},
		// An unknown one: what is there is gone over, what is not is told.
		{"N", "02", api.ErrShort}, {"N", "0280", api.ErrShort}, {"N", "028000", api.ErrCorrupt}, {"N", "03", api.ErrShort}, {"N", "0301", api.ErrShort}, {"N", "038000", api.ErrCorrupt}, {"N", "03ffffffffffffffffff01", api.ErrShort}, {"N", "0380808080808080808001 00", api.ErrShort}, {"N", "0381ffffffffffffff7f", api.ErrShort}, {"N", "0380808080808080808002", api.ErrCorrupt}, {"N", "00", api.ErrField}, {"N", "828008", api.ErrField}, {"N", "0200 0200", api.ErrField}, {"N", "0200 0300", api.ErrField}, {"N", "0381 20", api.ErrShort},
	} {
		wantNone(t, s, typed(t, x.kind), octets(t, x.octet), x.e)
	}
	wantNone(t, s, typed(t, "A"), field(4, bytes.Repeat([]byte("a"), 1025)), api.ErrLong)
	wantNone(t, s, typed(t, "A"), field(5, bytes.Repeat([]byte("\n"), 1025)), api.ErrLong)
	wantNone(t, s, typed(t, "A"), field(4, bytes.Repeat([]byte("\n"), 1024)), api.ErrRange)
	wantNone(t, s, typed(t, "A"), field(6, bytes.Repeat([]byte{0}, 65)), api.ErrLong)
	wantNone(t, s, typed(t, "A"), field(11, bytes.Repeat([]byte{0}, 65)), api.ErrLong)
}

// TestTags: each number that a tag may have, where it is a field's and where it is not.
func TestTags(t *testing.T) {
	s := loaded(t, whole)
	k := typed(t, "F")
	known := map[int]bool{1: true, 63: true, 64: true, 8191: true, 8192: true, 65535: true, 65536: true}
	for n := range mostNumber + 5 {
		if n > 200 && n < 8100 || n > 8300 && n < 65400 {
			continue
		}
		for _, b := range [][]byte{count(n, 2), field(n, []byte("ab"))} {
			v, unknown, e := slowDecode(s, k, b)
			wantDecode(t, s, k, b, v, unknown, e)
			if (unknown == 1) != (n > 0 && n <= mostNumber && !known[n]) || (e == api.ErrField) != (n == 0 || n > mostNumber) {
				t.Errorf("P8.2: a tag of %d: %d, %d", n, unknown, e)
			}
		}
		for _, m := range []int{1, n - 1, n, n + 1, mostNumber} {
			e := api.ErrField
			if n > 0 && n < m && m <= mostNumber {
				e = api.OK
			}
			wantSlow(t, s, typed(t, "N"), joined(count(n, 2), count(max(m, 0), 2)))
			if _, unknown, got := codec.Decode(s, typed(t, "N"), joined(field(n, nil), count(max(m, 0), 2))); got != e || e == api.OK && unknown != 2 {
				t.Errorf("P8.2: tags of %d, %d: %d, %d", n, m, unknown, got)
			}
		}
	}
}

// TestUnknown: fields that a struct has not are gone over, wherever they stand, and counted.
func TestUnknown(t *testing.T) {
	s := loaded(t, whole)
	three := row(num(3))
	for _, x := range []struct {
		kind, octet string
		v           api.Value
		unknown     int
	}{
		{"P", "0206 0409", three, 1},
		{"P", "0206 0500", three, 1},
		{"P", "0206 0503ffffff", three, 1},
		{"P", "0206 0400 0600 0900 808008 00", three, 4},
		{"P", "0400", row(num(0)), 1},
		{"P", "04ffffffffffffffffff01", row(num(0)), 1},
		{"N", "0200", row(), 1},
		{"N", "0300 0503020100", row(), 2},
		{"V", "0201 0a07 0c00 0f020206 1301 00", row(num(7), three), 3},
		// What is in an unknown field is not looked at.
		{"P", "0503 048000", row(num(0)), 1},
		{"P", "0206 050a 0200 0400 0600 0800 0a00", three, 1},
		// Within others, all are counted.
		{"[ P ]", "020400 040206 0400 00 020500", row(row(num(0)), three, row(num(0)), row(num(0))), 3},
		{"? P", "01 0206 0409", row(three), 1},
		{"? P", "01 0409", row(row(num(0))), 1},
		{"V", "0f04 0206 0409 1000", row(num(3), three), 2},
		{"W", "0504 0206 0401 070b 0201 0f04 0206 0800 1301 ff", row(row(), three, row(num(3), three)), 4},
		{"[ ? [ P ] ]", "06 01 04 0206 0400 00 01 01 04 01 02 0400", row(row(row(three)), row(), row(row()), row(row(row(num(0))))), 2},
	} {
		wantDecode(t, s, typed(t, x.kind), octets(t, x.octet), x.v, x.unknown, api.OK)
	}
	// As many as there is room for.
	var many []byte
	n := 0
	for len(many)+len(count(n+2, 0)) <= mostFrame {
		many = joined(many, count(n+2, 0))
		n++
	}
	wantDecode(t, s, typed(t, "P"), many, row(num(0)), n, api.OK)
	wantDecode(t, s, typed(t, "[ N ]"), bytes.Repeat(long(joined(count(1, 0), field(2, nil))), mostList), repeated(mostList, row()), 2*mostList, api.OK)
}

// wrongs are octets of one field of number n and kind, each with the error that it alone brings.
func wrongs(n int, kind string) map[api.Errno][]byte {
	number := map[api.Errno][]byte{
		api.ErrCorrupt: count(n, 0),
		api.ErrType:    field(n, []byte{1}),
		api.ErrField:   joined(count(n, 1), count(n, 1)),
	}
	other := map[api.Errno][]byte{
		api.ErrCorrupt: field(n, nil),
		api.ErrType:    count(n, 1),
		api.ErrField:   joined(field(n, []byte{1, '!'}), field(n, []byte{1, '!'})),
	}
	switch kind {
	case "int":
		return number
	case "bool":
		number[api.ErrRange] = count(n, 2)
		return number
	case "E":
		number[api.ErrRange] = count(n, 1)
		number[api.ErrCorrupt] = count(n, 3)
		number[api.ErrField] = joined(count(n, 7), count(n, 7))
		return number
	case "text":
		other[api.ErrField] = joined(field(n, []byte("a")), field(n, []byte("a")))
		other[api.ErrRange] = field(n, []byte{0x7f})
		other[api.ErrLong] = field(n, make([]byte, 1025))
	case "bytes":
		other[api.ErrLong] = field(n, make([]byte, 1025))
	case "[ int ]":
		other[api.ErrShort] = field(n, []byte{0x80})
		other[api.ErrLong] = field(n, make([]byte, 65))
	case "? int":
		other[api.ErrShort] = field(n, []byte{1})
		other[api.ErrTail] = field(n, []byte{1, 0, 0})
	case "P":
		other[api.ErrField] = field(n, []byte{2, 2, 2, 2})
		other[api.ErrShort] = field(n, []byte{2})
	}
	return other
}

// TestOrder: of several wrong things the first one in the order of the octets counts, whatever their errors are.
func TestOrder(t *testing.T) {
	kinds := []string{"bool", "int", "text", "bytes", "[ int ]", "? int", "P", "E"}
	for _, a := range kinds {
		for _, b := range kinds {
			s := loaded(t, whole+"struct B { 2 a : "+a+" ; 4 b : "+b+" ; } struct C { 1 b : B ; 3 c : "+b+" ; }")
			for e, first := range wrongs(2, a) {
				wantNone(t, s, typed(t, "B"), first, e)
				for _, second := range wrongs(4, b) {
					wantNone(t, s, typed(t, "B"), joined(first, second), e)
					wantNone(t, s, typed(t, "B"), joined(count(1, 5), first, second), e)
					wantNone(t, s, typed(t, "[ B ]"), joined(long(nil), long(joined(first, second)), long(second)), e)
				}
				for _, second := range wrongs(3, b) {
					wantNone(t, s, typed(t, "C"), joined(field(1, first), second), e)
				}
				for _, rest := range []string{"80", "8000", "00", "02", "0300", "ff"} {
					wantNone(t, s, typed(t, "B"), joined(first, octets(t, rest)), e)
				}
				// Octets that end are told at their length, ahead of what is there of them.
				inner := long(first)
				wantNone(t, s, typed(t, "[ B ]"), inner[:len(inner)-1], api.ErrShort)
				wantNone(t, s, typed(t, "C"), field(1, first)[:len(field(1, first))-1], api.ErrShort)
			}
		}
	}
}

// chained is n values of the type Q, each within another, as octets; the innermost one has those at its end.
func chained(n int, end []byte) []byte {
	for range n - 1 {
		end = field(1, joined([]byte{1}, end))
	}
	return end
}

// chain is the value of that, whose innermost one is v.
func chain(n int, v api.Value) api.Value {
	for range n - 1 {
		v = row(row(v), num(0), txt(""))
	}
	return v
}

// TestDepth: a value that is 17 deep is told where it begins; one that is not told at all, in the end.
func TestDepth(t *testing.T) {
	s := loaded(t, whole)
	q, list := typed(t, "Q"), typed(t, "[ Q ]")
	plain := slowDefault(s, q)
	// Each Q within another is two deeper: its fields one, the next Q two.
	for n := 1; n <= 12; n++ {
		b, v := chained(n, nil), chain(n, plain)
		if slowDeep(v) != 2*n {
			t.Fatal("another depth:", slowDeep(v))
		}
		if 2*n <= mostDeep {
			wantBoth(t, s, q, v, b)
		} else {
			wantNotEncoded(t, s, q, v, api.ErrDepth)
			wantNone(t, s, q, b, api.ErrDepth)
		}
		if 2*n+1 <= mostDeep {
			wantBoth(t, s, list, row(v, plain), joined(long(b), long(nil)))
		} else {
			wantNotEncoded(t, s, list, row(v, plain), api.ErrDepth)
			wantNone(t, s, list, joined(long(b), long(nil)), api.ErrDepth)
		}
	}
	// The ninth Q is 17 deep: what comes behind its beginning is not looked at.
	for _, end := range [][]byte{nil, {0}, {0x80}, {3}, {2, 6}, count(2, 6), field(9, nil), bytes.Repeat([]byte{0xff}, 20)} {
		wantNone(t, s, q, chained(9, end), api.ErrDepth)
		wantNone(t, s, q, joined(chained(9, end), []byte{0x80}), api.ErrDepth)
		// The eighth one's fields are 16 deep, and all right.
		wantSlow(t, s, q, chained(8, end))
	}
	wantBoth(t, s, q, chain(8, row(row(), num(3), txt("a"))), chained(8, joined(count(2, 6), field(3, []byte("a")))))
	// What is wrong ahead of it, or further out, goes ahead.
	wantNone(t, s, q, chained(8, field(1, []byte{2})), api.ErrCorrupt)
	wantNone(t, s, q, chained(8, []byte{3, 5, 1}), api.ErrShort)
	wantNone(t, s, q, chained(8, joined(count(2, 0), field(1, []byte{1}))), api.ErrCorrupt)
	// Within a list a Q is one deeper, so that the eighth one's fields are 17 deep: they are values that begin only where they are told.
	inner := func(end []byte) []byte { return long(chained(8, end)) }
	for _, end := range [][]byte{count(2, 6), {4}, {4, 0x80}, count(2, 0), field(1, nil), field(3, []byte("a")), field(3, nil), field(3, []byte("\n"))} {
		wantNone(t, s, list, inner(end), api.ErrDepth)
		wantNone(t, s, list, joined(inner(end), []byte{0x80}), api.ErrDepth)
	}
	for end, e := range map[string]api.Errno{"05": api.ErrType, "0500": api.ErrType, "02": api.ErrType, "00": api.ErrField, "80": api.ErrShort, "8000": api.ErrCorrupt, "07": api.ErrShort, "0701": api.ErrShort, "078000": api.ErrCorrupt, "08": api.ErrShort, "828008": api.ErrField} {
		wantNone(t, s, list, inner(octets(t, end)), e)
	}
	// In the end: what is wrong behind goes ahead.
	for _, end := range [][]byte{nil, count(4, 0), field(5, []byte{0x80})} {
		wantNone(t, s, list, inner(end), api.ErrDepth)
		wantNone(t, s, list, joined(inner(end), long(nil)), api.ErrDepth)
		for rest, e := range map[string]api.Errno{"80": api.ErrShort, "8000": api.ErrCorrupt, "0100": api.ErrField, "0102": api.ErrType, "03030100": api.ErrCorrupt, "020400": api.ErrCorrupt} {
			wantNone(t, s, list, joined(inner(end), octets(t, rest)), e)
		}
		wantNone(t, s, list, joined(inner(end), make([]byte, 64)), api.ErrLong)
	}
}

// wantSkip holds Skip against how many octets it goes over.
func wantSkip(t *testing.T, b []byte, n int, e api.Errno) {
	t.Helper()
	in := roomy(b)
	if got, ge := codec.Skip(in); got != n || ge != e {
		t.Errorf("P8.3: Skip of %s: %d, %d; want %d, %d", seen(b), got, ge, n, e)
	}
	if !bytes.Equal(in[:cap(in)], roomy(b)[:cap(in)]) {
		t.Errorf("P8.7: %s is changed", seen(b))
	}
}

// slowSkip is Skip by the words of the chapter.
func slowSkip(b []byte) (int, api.Errno) {
	tag, at, e := varint.Get(b, 0)
	if e != api.OK {
		return 0, e
	}
	n, end, e := varint.Get(b, at)
	switch {
	case e != api.OK:
		return 0, e
	case tag%2 == 0:
		return end, api.OK
	case n > uint64(len(b)-end):
		return 0, api.ErrShort
	}
	return end + int(n), api.OK
}

func TestSkip(t *testing.T) {
	for _, x := range []struct {
		octet string
		n     int
		e     api.Errno
	}{
		{"", 0, api.ErrShort}, {"80", 0, api.ErrShort}, {"8000", 0, api.ErrCorrupt}, {"02", 0, api.ErrShort}, {"03", 0, api.ErrShort}, {"0280", 0, api.ErrShort}, {"028000", 0, api.ErrCorrupt}, {"038000", 0, api.ErrCorrupt},
		{"0206", 2, api.OK}, {"020606", 2, api.OK}, {"02ac02", 3, api.OK}, {"02ac0200", 3, api.OK}, {"02ffffffffffffffffff01", 11, api.OK}, {"02ffffffffffffffffff02", 0, api.ErrCorrupt},
		{"0300", 2, api.OK}, {"030000", 2, api.OK}, {"0301", 0, api.ErrShort}, {"030180", 3, api.OK}, {"0302 80", 0, api.ErrShort}, {"0302 8080", 4, api.OK}, {"0302 8080 80", 4, api.OK},
		// A tag's number may be any.
		{"0000", 2, api.OK}, {"0100", 2, api.OK}, {"0101 00", 3, api.OK}, {"828008 05", 4, api.OK}, {"838008 01 ff", 5, api.OK}, {"feffffffffffffffff01 05", 11, api.OK}, {"ffffffffffffffffff01 01 00", 12, api.OK}, {"ffffffffffffffffff02 00", 0, api.ErrCorrupt},
		// A length may be any, as long as that many octets are there.
		{"03 ffffffffffffffffff01", 0, api.ErrShort}, {"03 80808080808080808001 00", 0, api.ErrShort}, {"03 feffffffffffffff7f", 0, api.ErrShort}, {"03 f5ffffffffffffffff01 00000000000000", 0, api.ErrShort}, {"03 ffffffff0f 00", 0, api.ErrShort}, {"03 8120 00", 0, api.ErrShort},
	} {
		wantSkip(t, octets(t, x.octet), x.n, x.e)
	}
	wantSkip(t, nil, 0, api.ErrShort)
	for _, n := range []int{127, 128, 1024, 1025, 4095, 4096, 4097, 8193, 1 << 20} {
		b := field(5, bytes.Repeat([]byte{0xff}, n))
		wantSkip(t, b, len(b), api.OK)
		wantSkip(t, joined(b, []byte{0x80, 0}), len(b), api.OK)
		wantSkip(t, b[:len(b)-1], 0, api.ErrShort)
	}
}

// eachText does it for all texts of at most n octets of those.
func eachText(n int, of []byte, do func(b []byte)) {
	var more func(b []byte)
	more = func(b []byte) {
		do(b)
		if len(b) < n {
			for _, c := range of {
				more(joined(b, []byte{c}))
			}
		}
	}
	more(nil)
}

func allOctets() []byte {
	b := make([]byte, 256)
	for i := range b {
		b[i] = byte(i)
	}
	return b
}

func TestShortSkips(t *testing.T) {
	want := func(b []byte) {
		n, e := slowSkip(b)
		wantSkip(t, b, n, e)
	}
	eachText(2, allOctets(), want)
	eachText(5, []byte{0, 1, 2, 3, 4, 127, 128, 129, 255}, want)
}

// TestShortOctets: all short octets, by the slow one; what is taken is in one form.
func TestShortOctets(t *testing.T) {
	small := loaded(t, "struct P { 1 x : int ; } struct M { 1 b : bool ; 2 t : text ; 3 l : [ bool ] ; 4 o : ? E ; 5 p : P ; } enum E { 1 a ; 2 b ; }")
	for _, text := range []string{"bool", "int", "uint", "text", "bytes", "E", "[ bool ]", "[ text ]", "? bool", "? text", "[ P ]", "? P", "P", "M", "[ ? bool ]", "? [ bool ]"} {
		k := typed(t, text)
		met := map[api.Errno]int{}
		forms := map[string]string{}
		want := func(b []byte) {
			met[wantSlow(t, small, k, b)]++
			if v, n, e := codec.Decode(small, k, b); e == api.OK && n == 0 {
				told := told(v)
				if other, ok := forms[told]; ok && other != string(b) {
					t.Errorf("P8.5: %s, %s and %s are one value", text, seen(b), seen([]byte(other)))
				}
				forms[told] = string(b)
			}
		}
		eachText(1, allOctets(), want)
		eachText(5, []byte{0, 1, 2, 3, 5}, want)
		eachText(3, []byte{0, 1, 2, 3, 4, 5, 6, 7, 9, 11, 127, 128}, want)
		if met[api.OK] == 0 {
			t.Errorf("of %s there is nothing", text)
		}
	}
}

func TestArgs(t *testing.T) {
	s := loaded(t, whole)
	k := typed(t, "P")
	for n := range 25 {
		var l []api.Value
		for i := range n {
			l = append(l, row(num(i)))
		}
		got, e := codec.Args(s, k, l...)
		if e != api.OK || len(got) != n {
			t.Fatalf("P8.1: Args of %d values: %d, %d", n, len(got), e)
		}
		for i, b := range got {
			if !bytes.Equal(b, slowEncode(s, k, l[i])) {
				t.Errorf("P8.1: Args: %d: %s", i, seen(b))
			}
		}
		for i := range l {
			bad := slices.Clone(l)
			bad[i] = row(nat(1))
			bad[n-1-(n-1-i)/2] = row(nat(1))
			if i < n-1 {
				bad[n-1] = row()
			}
			if got, e := codec.Args(s, k, bad...); e != api.ErrState || len(got) > 0 {
				t.Errorf("P8.1: Args with %d wrong: %d, %d", i, len(got), e)
			}
		}
	}
	big := repeated(64, txt(strings.Repeat("a", 1024)))
	for _, x := range []struct {
		l []api.Value
		e api.Errno
	}{
		{[]api.Value{row(txt("a")), big, row(txt("\n"))}, api.ErrLong},
		{[]api.Value{row(txt("a")), row(txt("\n")), big}, api.ErrRange},
		{[]api.Value{row(), num(1), big, row(txt("\n"))}, api.ErrState},
	} {
		if got, e := codec.Args(s, typed(t, "[ text ]"), x.l...); e != x.e || len(got) > 0 {
			t.Errorf("P8.1: Args: %d, %d; want %d", len(got), e, x.e)
		}
	}
	// Without values there is none that has an error.
	for _, s := range []api.Schema{s, {}, {Structs: make([]api.Struct, 65)}} {
		if got, e := codec.Args(s, api.Type{}); e != api.OK || len(got) > 0 {
			t.Errorf("P8.1: Args of none: %d, %d", len(got), e)
		}
	}
}

// randSchema is a schema that may be.
func randSchema(r *rand.Rand) api.Schema {
	for {
		var s api.Schema
		structs, enums := 1+r.Intn(5), 1+r.Intn(3)
		var names []string
		for i := range structs {
			names = append(names, "S"+strconv.Itoa(i))
		}
		for i := range enums {
			names = append(names, "E"+strconv.Itoa(i))
		}
		for i := range structs {
			x := api.Struct{Name: names[i]}
			for j := range r.Intn(6) {
				x.Fields = append(x.Fields, api.Field{Name: "f" + strconv.Itoa(j), Number: 1 + 3*j + r.Intn(3), Type: randField(r, names...)})
			}
			s.Structs = append(s.Structs, x)
		}
		for i := range enums {
			x := api.Enum{Name: names[structs+i]}
			for j := range 1 + r.Intn(4) {
				x.Cases = append(x.Cases, api.Case{Name: "c" + strconv.Itoa(j), Number: 3*j + r.Intn(3)})
			}
			s.Enums = append(s.Enums, x)
		}
		if schema.Check(s) == api.OK {
			return s
		}
	}
}

func randType(r *rand.Rand, names ...string) api.Type {
	switch n := 1 + r.Intn(11); {
	case n <= 5:
		return api.Type{Kind: n}
	case n <= 7:
		return api.Type{Kind: n, Of: []api.Type{randType(r, names...)}}
	}
	return api.Type{Kind: 8, Name: names[r.Intn(len(names))]}
}

// randField is a type that is often behind a list or an optional one, so that structs may lead to themselves.
func randField(r *rand.Rand, names ...string) api.Type {
	k := randType(r, names...)
	if k.Kind == 8 && r.Intn(2) == 0 {
		k = api.Type{Kind: 6 + r.Intn(2), Of: []api.Type{k}}
	}
	return k
}

// randTop is a type in a schema, most often a struct's.
func randTop(r *rand.Rand, s api.Schema) api.Type {
	if r.Intn(2) == 0 {
		return api.Type{Kind: 8, Name: s.Structs[r.Intn(len(s.Structs))].Name}
	}
	return randType(r, s.Structs[0].Name, s.Enums[0].Name)
}

// randValue is a value of its type, with defaults in it; of lists and optional ones from deep on there is nothing.
func randValue(r *rand.Rand, s api.Schema, t api.Type, deep int) api.Value {
	few := 0
	if deep > 0 {
		few = r.Intn(4)
	}
	switch t.Kind {
	case 1:
		return num(r.Intn(2))
	case 2:
		return num(int(r.Uint64()) >> r.Intn(64))
	case 3:
		return nat(r.Uint64() >> r.Intn(64))
	case 4:
		b := make([]byte, few)
		for i := range b {
			b[i] = byte(0x20 + r.Intn(0x5f))
		}
		return txt(string(b))
	case 5:
		b := make([]byte, few)
		r.Read(b)
		return txt(string(b))
	case 6, 7:
		var v api.Value
		for range min(few, 1+2*(7-t.Kind)) {
			v.List = append(v.List, randValue(r, s, t.Of[0], deep-1))
		}
		return v
	}
	if x := enumOf(s, t.Name); x != nil {
		return num(x.Cases[r.Intn(len(x.Cases))].Number)
	}
	var v api.Value
	for _, f := range structOf(s, t.Name).Fields {
		if r.Intn(3) == 0 {
			v.List = append(v.List, slowDefault(s, f.Type))
		} else {
			v.List = append(v.List, randValue(r, s, f.Type, deep-1))
		}
	}
	return v
}

// spoilt is b, changed at one place.
func spoilt(r *rand.Rand, b []byte) []byte {
	at := r.Intn(len(b) + 1)
	low := byte(r.Intn(12))
	switch r.Intn(7) {
	case 0:
		return joined(b[:at], []byte{low}, b[at:])
	case 1:
		return joined(b[:at], []byte{byte(r.Intn(256))}, b[at:])
	case 2:
		return b[:at]
	case 3:
		return joined(b[:at], b[min(at+1, len(b)):])
	case 4:
		return joined(b[:at], []byte{low}, b[min(at+1, len(b)):])
	case 5:
		return joined(b[:at], []byte{byte(r.Intn(256))}, b[min(at+1, len(b)):])
	}
	return joined(b, []byte{low, byte(r.Intn(12))})
}

// TestRandom: random values of random types, there and back, and octets that are spoilt, by the slow ones.
func TestRandom(t *testing.T) {
	r := rand.New(rand.NewSource(81))
	met := map[api.Errno]int{}
	for range 2500 {
		s := randSchema(r)
		k := randTop(r, s)
		for range 4 {
			v := randValue(r, s, k, 6)
			b := slowEncode(s, k, v)
			if slowDeep(v) > mostDeep {
				wantNotEncoded(t, s, k, v, api.ErrDepth)
				met[wantSlow(t, s, k, b)]++
				continue
			}
			if len(b) > mostFrame {
				wantNotEncoded(t, s, k, v, api.ErrLong)
				continue
			}
			wantBoth(t, s, k, v, b)
			for range 6 {
				b = spoilt(r, b)
				met[wantSlow(t, s, k, b)]++
			}
		}
	}
	for _, e := range []api.Errno{api.OK, api.ErrShort, api.ErrCorrupt, api.ErrTail, api.ErrRange, api.ErrField, api.ErrType} {
		if met[e] < 50 {
			t.Errorf("only %d random octets of error %d", met[e], e)
		}
	}
}

// TestEachPlace: octets that are cut off, and changed, at each place.
func TestEachPlace(t *testing.T) {
	s := loaded(t, whole)
	v := row(num(1), num(3), nat(1), txt("abc"), txt("b"), row(txt("c"), txt("")), row(num(7)), num(300), row(num(1)), row(), row(num(1), num(-70)), row(row(num(1)), row(num(0))))
	k := typed(t, "A")
	b := slowEncode(s, k, v)
	wantBoth(t, s, k, v, b)
	for at := range b {
		wantSlow(t, s, k, b[:at])
		wantSlow(t, s, k, joined(b[:at], b[at+1:]))
		for c := range 256 {
			wantSlow(t, s, k, joined(b[:at], []byte{byte(c)}, b[at+1:]))
			wantSlow(t, s, k, joined(b[:at], []byte{byte(c)}, b[at:]))
		}
	}
}

// grown is a schema that extends s.
func grown(r *rand.Rand, s api.Schema) api.Schema {
	for {
		var more api.Schema
		names := []string{"New", "Fresh"}
		for _, x := range s.Structs {
			names = append(names, x.Name)
		}
		for _, x := range s.Enums {
			names = append(names, x.Name)
		}
		for _, x := range s.Structs {
			x.Fields = slices.Clone(x.Fields)
			for range r.Intn(4) {
				number := 1 + r.Intn(25)
				if !slices.ContainsFunc(x.Fields, func(f api.Field) bool { return f.Number == number }) {
					x.Fields = append(x.Fields, api.Field{Name: "g" + strconv.Itoa(number), Number: number, Type: randField(r, names...)})
				}
			}
			slices.SortFunc(x.Fields, func(a, b api.Field) int { return cmp.Compare(a.Number, b.Number) })
			more.Structs = append(more.Structs, x)
		}
		for _, x := range s.Enums {
			x.Cases = slices.Clone(x.Cases)
			for range r.Intn(4) {
				number := x.Cases[0].Number + 1 + r.Intn(20)
				if !slices.ContainsFunc(x.Cases, func(c api.Case) bool { return c.Number == number }) {
					x.Cases = append(x.Cases, api.Case{Name: "d" + strconv.Itoa(number), Number: number})
				}
			}
			slices.SortFunc(x.Cases, func(a, b api.Case) int { return cmp.Compare(a.Number, b.Number) })
			more.Enums = append(more.Enums, x)
		}
		more.Structs = slices.Insert(more.Structs, r.Intn(len(more.Structs)+1), api.Struct{Name: "New", Fields: []api.Field{{Name: "a", Number: 1, Type: api.Type{Kind: 2}}}})
		more.Enums = slices.Insert(more.Enums, r.Intn(len(more.Enums)+1), api.Enum{Name: "Fresh", Cases: []api.Case{{Name: "a", Number: 9}}})
		if schema.Extends(s, more) == api.OK {
			return more
		}
	}
}

// carried is a value of s in a schema that extends it: the value, with defaults.
func carried(s, more api.Schema, t api.Type, v api.Value) api.Value {
	old := structOf(s, t.Name)
	if old == nil {
		for i, x := range v.List {
			if i == 0 {
				v.List = slices.Clone(v.List)
			}
			v.List[i] = carried(s, more, t.Of[0], x)
		}
		return v
	}
	var out api.Value
	for _, f := range structOf(more, t.Name).Fields {
		at := slices.IndexFunc(old.Fields, func(x api.Field) bool { return x.Number == f.Number })
		if at < 0 {
			out.List = append(out.List, slowDefault(more, f.Type))
		} else {
			out.List = append(out.List, carried(s, more, f.Type, v.List[at]))
		}
	}
	return out
}

// fewer is a value of a schema that extends s without what s has not, how many fields that were, and if s has all cases of it.
func fewer(s, more api.Schema, t api.Type, v api.Value) (api.Value, int, bool) {
	if x := enumOf(s, t.Name); x != nil {
		return v, 0, slices.ContainsFunc(x.Cases, func(c api.Case) bool { return c.Number == v.Int })
	}
	old := structOf(s, t.Name)
	out, n, has := v, 0, true
	out.List = nil
	if old == nil {
		for _, x := range v.List {
			y, m, ok := fewer(s, more, t.Of[0], x)
			out.List, n, has = append(out.List, y), n+m, has && ok
		}
		return out, n, has
	}
	for i, f := range structOf(more, t.Name).Fields {
		at := slices.IndexFunc(old.Fields, func(x api.Field) bool { return x.Number == f.Number })
		if at < 0 {
			if !alike(v.List[i], slowDefault(more, f.Type)) {
				n++
			}
			continue
		}
		y, m, ok := fewer(s, more, f.Type, v.List[i])
		// A field of which nothing is left but unknown ones would be its default.
		ok = ok && (m == 0 || !alike(y, slowDefault(s, f.Type)))
		out.List, n, has = append(out.List, y), n+m, has && ok
	}
	return out, n, has
}

// TestExtended: what a schema encodes one that extends it decodes; and back, where nothing new is in the way.
func TestExtended(t *testing.T) {
	r := rand.New(rand.NewSource(86))
	there, back, unknown := 0, 0, 0
	for range 2500 {
		s := randSchema(r)
		more := grown(r, s)
		k := randTop(r, s)
		v := randValue(r, s, k, 4)
		want := carried(s, more, k, v)
		if slowDeep(want) > mostDeep {
			continue
		}
		b, e := codec.Encode(s, k, v)
		if e == api.ErrLong {
			continue
		}
		got, n, de := codec.Decode(more, k, b)
		if e != api.OK || de != api.OK || n != 0 || !alike(got, want) {
			t.Errorf("P8.6: %s, %d, by a schema that extends: %s, %d, %d; want %s", seen(b), e, told(got), n, de, told(want))
		}
		// The octets are the same, for what is new is its default.
		wantBoth(t, more, k, want, b)
		there++
		new := randValue(r, more, k, 4)
		if b = slowEncode(more, k, new); len(b) > mostFrame {
			continue
		}
		wantSlow(t, s, k, b)
		if old, n, has := fewer(s, more, k, new); has && slowDeep(old) <= mostDeep {
			wantDecode(t, s, k, b, old, n, api.OK)
			back++
			unknown += n
		}
	}
	if there < 2000 || back < 500 || unknown < 500 {
		t.Errorf("only %d there, %d back, %d unknown", there, back, unknown)
	}
}

// TestExtendedByHand: fields ahead, between and behind, a struct that had none, cases.
func TestExtendedByHand(t *testing.T) {
	old := loaded(t, "struct P { 3 x : int ; 5 n : N ; 7 l : [ N ] ; 9 e : E ; } struct N { } enum E { 4 a ; 8 b ; }")
	more := loaded(t, "enum E { 4 a ; 5 n ; 8 b ; 9 m ; } struct N { 1 t : text ; 2 e : E ; } struct P { 1 w : [ P ] ; 3 x : int ; 4 y : bool ; 5 n : N ; 7 l : [ N ] ; 9 e : E ; 10 q : ? P ; 11 n2 : N ; }")
	if e := schema.Extends(old, more); e != api.OK {
		t.Fatal("it does not extend:", e)
	}
	k, n := typed(t, "P"), row(txt(""), num(4))
	for _, x := range []struct {
		v, want api.Value
		octet   string
	}{
		{row(num(0), row(), row(), num(4)), row(row(), num(0), num(0), n, row(), num(4), row(), n), ""},
		{row(num(3), row(), row(row(), row()), num(8)), row(row(), num(3), num(0), n, row(n, n), num(8), row(), n), "06 06 0f 02 0000 12 08"},
	} {
		b, e := codec.Encode(old, k, x.v)
		if e != api.OK || !bytes.Equal(b, octets(t, x.octet)) {
			t.Errorf("P8.1: Encode: %s, %d", seen(b), e)
		}
		wantDecode(t, more, k, b, x.want, 0, api.OK)
	}
	// What is new is unknown to the old one; a new case is none of its cases.
	wantDecode(t, old, k, octets(t, "03 01 00 06 06 08 01 0f 05 03 030161 00"), row(num(3), row(), row(row(), row()), num(4)), 3, api.OK)
	wantNone(t, old, k, octets(t, "12 05"), api.ErrRange)
}

// span is a piece of memory.
type span struct {
	from, to uintptr
	what     string
}

func ofList[T any](what string, l []T) span {
	from := uintptr(unsafe.Pointer(unsafe.SliceData(l)))
	var one T
	return span{from, from + uintptr(cap(l))*unsafe.Sizeof(one), what}
}

// valueSpans are all lists that a value is made of, the room behind them too.
func valueSpans(what string, v api.Value) []span {
	l := []span{ofList(what, v.List)}
	for _, x := range v.List {
		l = append(l, valueSpans(what, x)...)
	}
	return l
}

func textSpans(what string, v api.Value) []span {
	from := uintptr(unsafe.Pointer(unsafe.StringData(v.Text)))
	l := []span{{from, from + uintptr(len(v.Text)), what}}
	for _, x := range v.List {
		l = append(l, textSpans(what, x)...)
	}
	return l
}

func wantAlone(t *testing.T, l ...span) {
	t.Helper()
	l = slices.DeleteFunc(l, func(s span) bool { return s.from == s.to })
	slices.SortFunc(l, func(a, b span) int { return cmp.Compare(a.from, b.from) })
	for i := 1; i < len(l); i++ {
		if l[i].from < l[i-1].to {
			t.Errorf("P8.7: %s and %s share memory", l[i-1].what, l[i].what)
		}
	}
}

// TestNewMemory: no answer shares memory with another one, with what was handed in, or within itself.
func TestNewMemory(t *testing.T) {
	s := loaded(t, whole+"struct U { 1 a : A ; 2 b : [ A ] ; 3 c : bytes ; 4 d : [ text ] ; 5 p : P ; 6 q : P ; }")
	a := row(num(1), num(3), nat(1), txt("abc"), txt("bcd"), row(txt("cde"), txt("")), row(num(7)), num(300), row(num(1)), row(), row(num(1), num(-70)), row(row(num(1)), row(num(0))))
	plain := slowDefault(s, typed(t, "A"))
	v := row(a, row(plain, a, plain), txt("defg"), row(txt("abc"), txt("abc")), row(num(0)), row(num(0)))
	k := typed(t, "U")
	// What is handed in may share what it likes.
	all := append(valueSpans("what was handed in", v), textSpans("what was handed in", v)...)
	slices.SortFunc(all, func(a, b span) int { return cmp.Compare(a.from, b.from) })
	all = slices.CompactFunc(all, func(a, b span) bool { return a.from == b.from })
	var kept []any
	for range 3 {
		b, e := codec.Encode(s, k, v)
		if e != api.OK || len(b) == 0 {
			t.Fatal("P8.1: Encode:", e)
		}
		canon, _ := codec.Canon(s, k, b)
		args, _ := codec.Args(s, k, v, v, v)
		back, _, e := codec.Decode(s, k, b)
		if e != api.OK || !alike(back, v) {
			t.Fatal("P8.4: Decode:", e)
		}
		all = append(all, ofList("octets of Encode", b), ofList("octets of Canon", canon), ofList("the list of Args", args))
		for _, x := range args {
			all = append(all, ofList("octets of Args", x))
		}
		all = append(all, valueSpans("a value of Decode", back)...)
		all = append(all, textSpans("a text of Decode", back)...)
		kept = append(kept, b, canon, args, back)
	}
	wantAlone(t, all...)
	runtime.KeepAlive(kept)
	runtime.KeepAlive(v)
}

// TestAnswersAreApart: who writes into octets or values changes no answer, and who writes into an answer nothing else.
func TestAnswersAreApart(t *testing.T) {
	s := loaded(t, whole)
	k := typed(t, "A")
	v := slowDefault(s, k)
	v.List[3], v.List[4], v.List[10] = txt("abc"), txt("\x00\x01"), row(num(1))
	b, _ := codec.Encode(s, k, v)
	first, _, _ := codec.Decode(s, k, b)
	canon, _ := codec.Canon(s, k, b)
	args, _ := codec.Args(s, k, v, v)
	want := slices.Clone(b)
	for i := range b {
		b[i] = 0xee
	}
	if !alike(first, v) || !bytes.Equal(canon, want) {
		t.Error("P8.7: an answer shares memory with octets that were handed in")
	}
	for i := range args[0] {
		args[0][i] = 0xee
	}
	if !bytes.Equal(args[1], want) {
		t.Error("P8.7: two answers of Args share memory")
	}
	second, _, _ := codec.Decode(s, k, want)
	first.List[10].List[0] = num(9)
	first.List[0] = num(1)
	if !alike(second, v) {
		t.Error("P8.7: two values share memory")
	}
	v.List[10].List[0] = num(8)
	if !alike(second.List[10], row(num(1))) {
		t.Error("P8.7: a value is kept")
	}
	if !reflect.DeepEqual(s, loaded(t, whole)) {
		t.Error("P8.7: a schema is changed")
	}
}

// TestNotChanged: what is handed in stays, with the room behind it.
func TestNotChanged(t *testing.T) {
	made := func() (api.Schema, api.Type, []api.Value) {
		s := loaded(t, whole)
		s.Structs = append(s.Structs, api.Struct{Name: "behind"})[:len(s.Structs)]
		s.Enums[0].Cases = append(s.Enums[0].Cases, api.Case{Name: "behind"})[:4]
		k := api.Type{Kind: 6, Of: append([]api.Type{{Kind: 8, Name: "A"}}, api.Type{Name: "behind"})[:1]}
		v := slowDefault(s, k.Of[0])
		v.List[5].List = append(make([]api.Value, 0, 4), txt("a"), txt("b"), txt("behind"))[:2]
		l := append(make([]api.Value, 0, 4), row(v), row(slowDefault(s, k.Of[0])), num(7), txt("behind"))
		return s, k, l[:3]
	}
	s, k, l := made()
	for range 3 {
		for _, v := range l {
			codec.Encode(s, k, v)
			codec.Encode(s, k.Of[0], v)
		}
		codec.Args(s, k, l...)
		codec.Args(s, k, l[:2]...)
		b, _ := codec.Encode(s, k, l[0])
		codec.Decode(s, k, b)
		codec.Decode(s, k.Of[0], b)
		codec.Canon(s, k, b)
	}
	s2, k2, l2 := made()
	if !reflect.DeepEqual(s, s2) || !reflect.DeepEqual(s.Structs[:cap(s.Structs)][:len(s.Structs)+1], s2.Structs[:len(s2.Structs)+1]) || !reflect.DeepEqual(s.Enums[0].Cases[:5], s2.Enums[0].Cases[:5]) {
		t.Error("P8.7: a schema is changed")
	}
	if !reflect.DeepEqual(k.Of[:2], k2.Of[:2]) {
		t.Error("P8.7: a type is changed")
	}
	if !reflect.DeepEqual(l[:4], l2[:4]) || !reflect.DeepEqual(l[0].List[0].List[5].List[:4], l2[0].List[0].List[5].List[:4]) {
		t.Error("P8.7: a value is changed")
	}
}

// TestMost: a schema as large as it may be, and as many structs as there is room for.
func TestMost(t *testing.T) {
	var text strings.Builder
	for i := range 62 {
		text.WriteString("struct S" + strconv.Itoa(i) + " { ")
		for j := range 31 {
			text.WriteString(strconv.Itoa(j+1) + " f" + strconv.Itoa(j) + " : [ S" + strconv.Itoa((i+j)%62) + " ] ; ")
		}
		text.WriteString("32 e : E ; } ")
	}
	text.WriteString("enum E { 65535 a ; 65536 b ; } struct Top { 1 l : [ [ S61 ] ] ; }")
	s := loaded(t, text.String())
	k := typed(t, "[ [ S61 ] ]")
	plain := slowDefault(s, typed(t, "S61"))
	v := row(append(repeated(62, repeated(64, plain)).List, repeated(64, plain))...)
	b := slowEncode(s, k, v)
	if len(b) != 63*65 {
		t.Fatal(len(b), "octets")
	}
	wantBoth(t, s, k, v, b)
	wantNone(t, s, k, joined(b, []byte{0x80}), api.ErrShort)
}

// FuzzCodec: whatever the octets are, all calls answer as the slow ones.
func FuzzCodec(f *testing.F) {
	f.Add(whole, "A", []byte{2, 1, 4, 6, 9, 1, 97, 16, 7})
	f.Add(whole, "[ text ]", []byte{2, 97, 98, 0, 1, 99})
	f.Add(whole, "? E", []byte{1, 3})
	f.Add(whole, "Q", []byte{3, 4, 1, 3, 1, 1})
	f.Add(whole, "[ Q ]", chained(9, nil))
	f.Add("struct A { 1 a : A ; }", "A", []byte{2, 0})
	f.Add("enum E { }", "X", []byte{255})
	f.Fuzz(func(t *testing.T, text, kind string, b []byte) {
		n, e := slowSkip(b)
		wantSkip(t, b, n, e)
		s, _, e := parse.Text(text)
		if e != api.OK {
			return
		}
		x, _, e := parse.Text("struct X { 1 x : " + kind + " ; }")
		if e != api.OK || len(x.Structs[0].Fields) != 1 {
			return
		}
		k := x.Structs[0].Fields[0].Type
		wantSlow(t, s, k, b)
		if v, _, e := slowDecode(s, k, b); e == api.OK {
			wantBoth(t, s, k, v, slowEncode(s, k, v))
		}
	})
}
