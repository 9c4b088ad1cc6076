package message_test

import (
	"bytes"
	"cmp"
	"encoding/binary"
	"encoding/hex"
	"fmt"
	"hash/crc32"
	"math"
	"math/rand"
	"reflect"
	"runtime"
	"slices"
	"strings"
	"testing"
	"unsafe"

	"waybill/api"
	"waybill/message"
)

// The limits, written out: the tests hold the document's numbers, not the program's.
const (
	mostData   = 1024
	mostFrame  = 4096
	mostNumber = 1<<31 - 1
)

// fields are the numbers of a message.
var fields = []string{"Client", "Backend", "Incarnation", "Session", "Seq", "Mark", "Nonce", "Left", "Code", "Place"}

// uses are the fields of each kind, as the chapter lists them, behind Backend.
var uses = map[int]string{
	1: "Client Nonce",
	2: "Client Incarnation Session Nonce",
	3: "Client Incarnation Session Seq Mark Left Data",
	4: "Client Incarnation Session Seq Code Place Data",
	5: "Client Incarnation Session Seq Mark",
	6: "Client Incarnation Session Seq",
	7: "Client Incarnation Session Seq",
	8: "Client Nonce",
}

// usedBy are the fields of a kind in the order of the octets.
func usedBy(kind int) []string {
	return append([]string{"Backend"}, strings.Fields(uses[kind])...)
}

func numberOf(m *api.Msg, field string) *int {
	return reflect.ValueOf(m).Elem().FieldByName(field).Addr().Interface().(*int)
}

// with is m with another number.
func with(m api.Msg, field string, n int) api.Msg {
	*numberOf(&m, field) = n
	return m
}

// plain is a message of that kind that may be, each number that it uses another one.
func plain(kind int) api.Msg {
	m := api.Msg{Kind: kind}
	for i, field := range usedBy(kind) {
		if field == "Data" {
			m.Data = []byte("data")
		} else {
			*numberOf(&m, field) = 11 * (i + 1)
		}
	}
	return m
}

// slowCheck is Check by the words of the chapter.
func slowCheck(m api.Msg) api.Errno {
	if m.Kind < 1 || m.Kind > 8 {
		return api.ErrKind
	}
	for _, field := range fields {
		if n := *numberOf(&m, field); n < 0 || n > mostNumber {
			return api.ErrRange
		}
	}
	if len(m.Data) > mostData {
		return api.ErrLong
	}
	for _, field := range fields {
		if *numberOf(&m, field) != 0 && !slices.Contains(usedBy(m.Kind), field) {
			return api.ErrState
		}
	}
	if len(m.Data) > 0 && !slices.Contains(usedBy(m.Kind), "Data") {
		return api.ErrState
	}
	return api.OK
}

// slowEncode is a message of some kind as octets, whatever its numbers.
func slowEncode(m api.Msg) []byte {
	b := binary.AppendUvarint(nil, uint64(m.Kind))
	for _, field := range usedBy(m.Kind) {
		if field == "Data" {
			b = binary.AppendUvarint(b, uint64(len(m.Data)))
			b = append(b, m.Data...)
		} else {
			b = binary.AppendUvarint(b, uint64(*numberOf(&m, field)))
		}
	}
	return b
}

// cutNumber is the number that b begins with, what is behind it, and varint's error.
func cutNumber(b []byte) (uint64, []byte, api.Errno) {
	n := uint64(0)
	for i, c := range b {
		if i > 0 && c == 0 || i == 9 && c > 1 {
			return 0, nil, api.ErrCorrupt
		}
		n += uint64(c&127) << (7 * i)
		if c < 128 {
			return n, b[i+1:], api.OK
		}
	}
	return 0, nil, api.ErrShort
}

// slowDecode is Decode by the words of the chapter.
func slowDecode(b []byte) (api.Msg, api.Errno) {
	kind, b, e := cutNumber(b)
	if e != api.OK {
		return api.Msg{}, e
	}
	if kind < 1 || kind > 8 {
		return api.Msg{}, api.ErrKind
	}
	m := api.Msg{Kind: int(kind)}
	for _, field := range usedBy(m.Kind) {
		n, rest, e := cutNumber(b)
		switch {
		case e != api.OK:
			return api.Msg{}, e
		case field != "Data" && n > mostNumber:
			return api.Msg{}, api.ErrRange
		case field != "Data":
			*numberOf(&m, field) = int(n)
			b = rest
		case n > mostData:
			return api.Msg{}, api.ErrLong
		case n > uint64(len(rest)):
			return api.Msg{}, api.ErrShort
		default:
			m.Data = append([]byte(nil), rest[:n]...)
			b = rest[n:]
		}
	}
	if len(b) > 0 {
		return api.Msg{}, api.ErrTail
	}
	return m, api.OK
}

func slowBack(m api.Msg) bool {
	return slices.Contains([]int{2, 4, 6, 7, 8}, m.Kind)
}

// framed is a frame by the words of chapter 3.
func framed(payload []byte) []byte {
	b := binary.AppendUvarint(nil, uint64(len(payload)))
	b = append(b, payload...)
	return binary.LittleEndian.AppendUint32(b, crc32.ChecksumIEEE(b))
}

func stream(payloads ...[]byte) []byte {
	var b []byte
	for _, payload := range payloads {
		b = append(b, framed(payload)...)
	}
	return b
}

// cutFrame is the payload of the frame that b begins with, and what is behind it.
func cutFrame(b []byte) ([]byte, []byte, api.Errno) {
	n, rest, e := cutNumber(b)
	switch {
	case e == api.ErrShort:
		return nil, nil, api.ErrNone
	case e != api.OK:
		return nil, nil, e
	case n == 0:
		return nil, nil, api.ErrShort
	case n > mostFrame:
		return nil, nil, api.ErrLong
	case len(rest) < int(n)+4:
		return nil, nil, api.ErrNone
	case !bytes.HasPrefix(b, framed(rest[:n])):
		return nil, nil, api.ErrCorrupt
	}
	return rest[:n], rest[n+4:], api.OK
}

// slowRead is Read by the words of the chapter.
func slowRead(b []byte) ([]api.Msg, api.Errno) {
	var payloads [][]byte
	for {
		payload, rest, e := cutFrame(b)
		if e == api.ErrNone {
			break
		}
		if e != api.OK {
			return nil, e
		}
		payloads = append(payloads, payload)
		b = rest
	}
	if len(b) > 0 {
		return nil, api.ErrShort
	}
	var l []api.Msg
	for _, payload := range payloads {
		m, e := slowDecode(payload)
		if e != api.OK {
			return nil, e
		}
		l = append(l, m)
	}
	return l, api.OK
}

// alike takes no Data and empty Data for one.
func alike(a, b api.Msg) bool {
	same := bytes.Equal(a.Data, b.Data)
	a.Data, b.Data = nil, nil
	return same && reflect.DeepEqual(a, b)
}

// seen keeps long octets out of what a failed test tells.
func seen(b []byte) string {
	if len(b) > 60 {
		return fmt.Sprintf("% x .. of %d", b[:60], len(b))
	}
	return fmt.Sprintf("% x", b)
}

// told keeps long Data out of what a failed test tells.
func told(m api.Msg) string {
	text := seen(m.Data)
	m.Data = nil
	return fmt.Sprintf("%+v (data %s)", m, text)
}

// octets are those of hexadecimal digits, with blanks between.
func octets(t testing.TB, digits string) []byte {
	t.Helper()
	b, err := hex.DecodeString(strings.ReplaceAll(digits, " ", ""))
	if err != nil {
		t.Fatal(digits, err)
	}
	return b
}

// roomy is b with room behind it, in which other octets stand.
func roomy(b []byte) []byte {
	return append(append(make([]byte, 0, len(b)+8), b...), 1, 1, 2, 2, 0, 128, 3, 1)[:len(b)]
}

func joined(l ...[]byte) []byte {
	return bytes.Join(l, nil)
}

// wantMsg holds all that is asked of a message against one error, and where it may be against its octets.
func wantMsg(t *testing.T, m api.Msg, want api.Errno) {
	t.Helper()
	if e := message.Check(m); e != want {
		t.Errorf("P9.1: Check of %s: %d, want %d", told(m), e, want)
	}
	b, e := message.Encode(m)
	if e != want {
		t.Errorf("P9.1: Encode of %s: %d, want %d", told(m), e, want)
	}
	f, fe := message.Frames(m)
	if fe != want {
		t.Errorf("P9.2: Frames of %s: %d, want %d", told(m), fe, want)
	}
	if want != api.OK {
		if len(b) > 0 || len(f) > 0 {
			t.Errorf("P4: beside error %d of %s there are %s, %s", want, told(m), seen(b), seen(f))
		}
		return
	}
	if !bytes.Equal(b, slowEncode(m)) {
		t.Errorf("P9.1: Encode of %s: %s, want %s", told(m), seen(b), seen(slowEncode(m)))
	}
	if back, e := message.Decode(b); e != api.OK || !alike(back, m) {
		t.Errorf("P9.3: Decode of Encode of %s: %s, %d", told(m), told(back), e)
	}
	if !bytes.Equal(f, framed(slowEncode(m))) {
		t.Errorf("P9.2: Frames of %s: %s", told(m), seen(f))
	}
	if l, e := message.Read(f); e != api.OK || !slices.EqualFunc(l, []api.Msg{m}, alike) {
		t.Errorf("P9.3: Read of Frames of %s: %d messages, %d", told(m), len(l), e)
	}
}

// wantDecode holds Decode, and Read with it, against a message or an error, and against what follows of them.
func wantDecode(t *testing.T, b []byte, m api.Msg, want api.Errno) {
	t.Helper()
	in := roomy(b)
	got, e := message.Decode(in)
	if e != want || !alike(got, m) {
		t.Errorf("P9.1: Decode of %s: %s, %d; want %s, %d", seen(b), told(got), e, told(m), want)
	}
	if !bytes.Equal(in[:cap(in)], roomy(b)[:cap(in)]) {
		t.Errorf("P9.4: %s is changed", seen(b))
	}
	if want == api.OK {
		if out, e := message.Encode(got); e != api.OK || !bytes.Equal(out, b) {
			t.Errorf("P9.3: Decode takes %s, Encode makes %s, %d of it", seen(b), seen(out), e)
		}
	} else if !reflect.DeepEqual(got, api.Msg{}) {
		t.Errorf("P4: beside error %d there is %s", want, told(got))
	}
	if len(b) == 0 || len(b) > mostFrame {
		return
	}
	l, e := message.Read(framed(b))
	if e != want || want == api.OK && !slices.EqualFunc(l, []api.Msg{m}, alike) || want != api.OK && len(l) > 0 {
		t.Errorf("P9.2: Read of a frame of %s: %d messages, %d, want %d", seen(b), len(l), e, want)
	}
}

// wantSlow holds Decode against the slow one.
func wantSlow(t *testing.T, b []byte) api.Errno {
	t.Helper()
	m, e := slowDecode(b)
	wantDecode(t, b, m, e)
	return e
}

// wantNone holds Decode against an error alone, and the slow one with it.
func wantNone(t *testing.T, b []byte, e api.Errno) {
	t.Helper()
	if _, slow := slowDecode(b); slow != e {
		t.Fatalf("the slow Decode of %s: %d, want %d", seen(b), slow, e)
	}
	wantDecode(t, b, api.Msg{}, e)
}

// wantRead holds Read against messages or an error.
func wantRead(t *testing.T, b []byte, l []api.Msg, want api.Errno) {
	t.Helper()
	in := roomy(b)
	got, e := message.Read(in)
	if e != want || !slices.EqualFunc(got, l, alike) {
		t.Errorf("P9.2: Read of %s: %d messages, %d; want %d, %d", seen(b), len(got), e, len(l), want)
	}
	if e != api.OK && len(got) > 0 {
		t.Errorf("P4: beside error %d there are %d messages", e, len(got))
	}
	if !bytes.Equal(in[:cap(in)], roomy(b)[:cap(in)]) {
		t.Errorf("P9.4: %s is changed", seen(b))
	}
	if e == api.OK {
		if out, e := message.Frames(got...); e != api.OK || !bytes.Equal(out, b) {
			t.Errorf("P9.3: Read takes %s, Frames makes %s, %d of it", seen(b), seen(out), e)
		}
	}
}

// TestKinds: each kind as octets, by hand.
func TestKinds(t *testing.T) {
	for _, x := range []struct {
		m    api.Msg
		want string
	}{
		{api.Msg{Kind: 1, Client: 2, Backend: 3, Nonce: 4}, "01 03 02 04"},
		{api.Msg{Kind: 2, Client: 2, Backend: 3, Incarnation: 4, Session: 5, Nonce: 6}, "02 03 02 04 05 06"},
		{api.Msg{Kind: 3, Client: 2, Backend: 3, Incarnation: 4, Session: 5, Seq: 6, Mark: 7, Left: 8, Data: []byte("ab")}, "03 03 02 04 05 06 07 08 02 61 62"},
		{api.Msg{Kind: 4, Client: 2, Backend: 3, Incarnation: 4, Session: 5, Seq: 6, Code: 7, Place: 8, Data: []byte{0, 255, 128}}, "04 03 02 04 05 06 07 08 03 00 ff 80"},
		{api.Msg{Kind: 5, Client: 2, Backend: 3, Incarnation: 4, Session: 5, Seq: 6, Mark: 7}, "05 03 02 04 05 06 07"},
		{api.Msg{Kind: 6, Client: 2, Backend: 3, Incarnation: 4, Session: 5, Seq: 6}, "06 03 02 04 05 06"},
		{api.Msg{Kind: 7, Client: 2, Backend: 3, Incarnation: 4, Session: 5, Seq: 6}, "07 03 02 04 05 06"},
		{api.Msg{Kind: 8, Client: 2, Backend: 3, Nonce: 4}, "08 03 02 04"},
		{api.Msg{Kind: 1}, "01 00 00 00"},
		{api.Msg{Kind: 2}, "02 00 00 00 00 00"},
		{api.Msg{Kind: 3}, "03 00 00 00 00 00 00 00 00"},
		{api.Msg{Kind: 4, Data: []byte{}}, "04 00 00 00 00 00 00 00 00"},
		{api.Msg{Kind: 5}, "05 00 00 00 00 00 00"},
		{api.Msg{Kind: 6}, "06 00 00 00 00 00"},
		{api.Msg{Kind: 7}, "07 00 00 00 00 00"},
		{api.Msg{Kind: 8, Data: []byte{}}, "08 00 00 00"},
		{api.Msg{Kind: 8, Client: 127, Backend: 300, Nonce: mostNumber}, "08 ac02 7f ffffffff07"},
		{api.Msg{Kind: 3, Left: 128, Data: []byte{0}}, "03 00 00 00 00 00 00 8001 01 00"},
	} {
		wantMsg(t, x.m, api.OK)
		b := octets(t, x.want)
		if got, e := message.Encode(x.m); e != api.OK || !bytes.Equal(got, b) {
			t.Errorf("P9.1: Encode of %s: %s, %d; want %s", told(x.m), seen(got), e, x.want)
		}
		wantDecode(t, b, x.m, api.OK)
	}
}

func TestNoKind(t *testing.T) {
	for _, kind := range []int{0, -1, 9, 10, 255, 256, 257, 259, 1 << 32, 1<<32 + 3, -3, math.MinInt, math.MinInt + 1, math.MaxInt} {
		wantMsg(t, api.Msg{Kind: kind}, api.ErrKind)
		wantMsg(t, api.Msg{Kind: kind, Client: 2, Backend: 3, Nonce: 4}, api.ErrKind)
		// All else that may be wrong comes behind.
		wantMsg(t, api.Msg{Kind: kind, Client: -1, Place: math.MaxInt, Data: make([]byte, mostData+1)}, api.ErrKind)
	}
	wantMsg(t, api.Msg{}, api.ErrKind)
}

// TestRange: each number of each kind, used or not.
func TestRange(t *testing.T) {
	for kind := 1; kind <= 8; kind++ {
		for _, field := range fields {
			for _, n := range []int{-1, -2, math.MinInt, math.MinInt32, mostNumber + 1, 1 << 32, 1<<32 + 1, math.MaxInt} {
				for _, m := range []api.Msg{{Kind: kind}, plain(kind)} {
					m = with(m, field, n)
					wantMsg(t, m, api.ErrRange)
					m.Data = make([]byte, mostData+1)
					wantMsg(t, m, api.ErrRange)
				}
			}
			want := api.ErrState
			if slices.Contains(usedBy(kind), field) {
				want = api.OK
			}
			for _, n := range []int{1, 2, 127, 128, 16383, 16384, 1<<30 - 64, 1 << 30, mostNumber - 1, mostNumber} {
				wantMsg(t, with(api.Msg{Kind: kind}, field, n), want)
				wantMsg(t, with(plain(kind), field, n), want)
			}
			wantMsg(t, with(plain(kind), field, 0), api.OK)
		}
	}
}

func TestData(t *testing.T) {
	for kind := 1; kind <= 8; kind++ {
		usesData := strings.Contains(uses[kind], "Data")
		for _, size := range []int{0, 1, 2, 127, 128, 129, 1000, mostData - 1, mostData, mostData + 1, mostData + 2, mostFrame, mostFrame + 1, 1 << 20} {
			want := api.OK
			switch {
			case size > mostData:
				want = api.ErrLong
			case size > 0 && !usesData:
				want = api.ErrState
			}
			for _, c := range []byte{0, 'a', 255} {
				m := plain(kind)
				m.Data = bytes.Repeat([]byte{c}, size)
				wantMsg(t, m, want)
			}
		}
		m := plain(kind)
		m.Data = []byte{}
		wantMsg(t, m, api.OK)
		m.Data = nil
		wantMsg(t, m, api.OK)
	}
}

// TestFaultsInOrder: of all wrong things together the first by name counts.
func TestFaultsInOrder(t *testing.T) {
	for kind := 1; kind <= 8; kind++ {
		for faults := range 16 {
			m, want := plain(kind), api.OK
			if faults&1 != 0 {
				for _, field := range fields {
					if !slices.Contains(usedBy(kind), field) {
						m = with(m, field, 1)
					}
				}
				want = api.ErrState
			}
			if faults&2 != 0 {
				m.Data = make([]byte, mostData+1)
				want = api.ErrLong
			}
			if faults&4 != 0 {
				m.Client = -1
				want = api.ErrRange
			}
			if faults&8 != 0 {
				m.Kind = 9
				want = api.ErrKind
			}
			wantMsg(t, m, want)
			if slow := slowCheck(m); slow != want {
				t.Fatalf("the slow Check of %s: %d, want %d", told(m), slow, want)
			}
		}
	}
}

// TestDecodeNoKind: what no kind is is told at its octets, whatever is behind.
func TestDecodeNoKind(t *testing.T) {
	for _, kind := range []uint64{0, 9, 10, 127, 128, 256, 257, 259, mostNumber, mostNumber + 1, 1 << 32, 1<<32 + 1, 1<<32 + 3, math.MaxInt, math.MaxInt + 1, math.MaxInt + 2, math.MaxUint64} {
		b := binary.AppendUvarint(nil, kind)
		wantNone(t, b, api.ErrKind)
		wantNone(t, append(b, 3, 2, 4), api.ErrKind)
		wantNone(t, append(b, 128, 0), api.ErrKind)
		wantNone(t, append(b, 128), api.ErrKind)
		wantNone(t, append(b, 255, 255, 255, 255, 255, 1), api.ErrKind)
	}
	wantNone(t, nil, api.ErrShort)
	wantNone(t, []byte{}, api.ErrShort)
	for kind := 1; kind <= 8; kind++ {
		wantNone(t, []byte{byte(kind)}, api.ErrShort)
		wantNone(t, []byte{byte(kind) + 128}, api.ErrShort)
		wantNone(t, []byte{byte(kind) + 128, 0, 3, 2, 4}, api.ErrCorrupt)
		wantNone(t, append(bytes.Repeat([]byte{255}, 9), 2, byte(kind), 1, 1, 1), api.ErrCorrupt)
	}
}

// pieces are the octets of a message, number by number; its Data's length and its Data are the last two.
func pieces(m api.Msg) [][]byte {
	l := [][]byte{{byte(m.Kind)}}
	for _, field := range usedBy(m.Kind) {
		if field == "Data" {
			l = append(l, binary.AppendUvarint(nil, uint64(len(m.Data))), m.Data)
		} else {
			l = append(l, binary.AppendUvarint(nil, uint64(*numberOf(&m, field))))
		}
	}
	return l
}

// TestDecodeNumbers: each number of each kind wrong in each way, alone and with others wrong behind it.
func TestDecodeNumbers(t *testing.T) {
	wrong := []struct {
		b string
		e api.Errno
	}{
		{"8080808008", api.ErrRange}, // 2^31
		{"8180808008", api.ErrRange},
		{"ffffffff0f", api.ErrRange},         // 2^32 - 1
		{"8080808010", api.ErrRange},         // 2^32
		{"8380808010", api.ErrRange},         // 2^32 + 3
		{"ffffffffffffffff7f", api.ErrRange}, // 2^63 - 1
		{"80808080808080808001", api.ErrRange},
		{"81808080808080808001", api.ErrRange},
		{"ffffffffffffffffff01", api.ErrRange}, // 2^64 - 1
		{"ffffffffffffffffff02", api.ErrCorrupt},
		{"8080808080808080808001", api.ErrCorrupt},
		{"8000", api.ErrCorrupt},
		{"8100", api.ErrCorrupt},
	}
	for kind := 1; kind <= 8; kind++ {
		l := pieces(plain(kind))
		for at, field := range usedBy(kind) {
			if field == "Data" {
				continue
			}
			ahead, behind := joined(l[:at+1]...), joined(l[at+2:]...)
			for _, x := range wrong {
				b := octets(t, x.b)
				wantNone(t, joined(ahead, b, behind), x.e)
				wantNone(t, joined(ahead, b), x.e)
				wantNone(t, joined(ahead, b, behind, []byte{0}), x.e)
				for _, y := range wrong {
					wantNone(t, joined(ahead, b, octets(t, y.b), behind), x.e)
				}
			}
			for _, n := range []uint64{0, 1, 127, 128, 16384, 1 << 30, mostNumber - 1, mostNumber} {
				b := binary.AppendUvarint(nil, n)
				m := with(plain(kind), field, int(n))
				wantDecode(t, joined(ahead, b, behind), m, api.OK)
				wantNone(t, joined(ahead, b, behind, []byte{0}), api.ErrTail)
				wantNone(t, joined(ahead, b[:len(b)-1]), api.ErrShort)
			}
		}
	}
}

// TestDecodeData: the length of Data, what it may be, and what is left behind it.
func TestDecodeData(t *testing.T) {
	for _, kind := range []int{3, 4} {
		l := pieces(plain(kind))
		ahead := joined(l[:len(l)-2]...)
		length := func(n uint64) []byte { return joined(ahead, binary.AppendUvarint(nil, n)) }
		wantNone(t, ahead, api.ErrShort)
		wantNone(t, joined(ahead, []byte{128}), api.ErrShort)
		wantNone(t, joined(ahead, []byte{128, 0}), api.ErrCorrupt)
		wantNone(t, joined(ahead, bytes.Repeat([]byte{255}, 11)), api.ErrCorrupt)
		for _, n := range []uint64{0, 1, 2, 127, 128, mostData - 1, mostData} {
			text := bytes.Repeat([]byte{200}, int(n))
			b := joined(length(n), text)
			m := plain(kind)
			m.Data = text
			wantDecode(t, b, m, api.OK)
			wantNone(t, joined(b, []byte{0}), api.ErrTail)
			wantNone(t, joined(b, text, []byte{128, 0}), api.ErrTail)
			if n > 0 {
				wantNone(t, length(n), api.ErrShort)
				wantNone(t, b[:len(b)-1], api.ErrShort)
			}
		}
		// A length too great is told at once, whether its octets are there or not.
		for _, n := range []uint64{mostData + 1, mostData + 2, 1 << 16, mostNumber, mostNumber + 1, 1 << 32, 1<<32 + 4, math.MaxInt, math.MaxInt + 1, math.MaxUint64 - 3, math.MaxUint64} {
			wantNone(t, length(n), api.ErrLong)
			wantNone(t, joined(length(n), []byte("data")), api.ErrLong)
			wantNone(t, joined(length(n), make([]byte, mostData+1)), api.ErrLong)
			wantNone(t, joined(length(n), make([]byte, 1<<17)), api.ErrLong)
		}
	}
}

func TestTail(t *testing.T) {
	for kind := 1; kind <= 8; kind++ {
		b := slowEncode(plain(kind))
		for _, behind := range [][]byte{{0}, {1}, {128}, {255}, {128, 0}, b, make([]byte, 5000)} {
			wantNone(t, joined(b, behind), api.ErrTail)
		}
		for size := range b {
			wantNone(t, b[:size], api.ErrShort)
		}
	}
}

func TestBack(t *testing.T) {
	want := map[int]bool{2: true, 4: true, 6: true, 7: true, 8: true}
	for kind := -300; kind <= 300; kind++ {
		for _, m := range []api.Msg{{Kind: kind}, {Kind: kind, Client: -1, Place: math.MaxInt, Data: make([]byte, 2000)}} {
			if back := message.Back(m); back != want[kind] {
				t.Errorf("P9.1: Back of kind %d: %t", kind, back)
			}
		}
	}
	for _, kind := range []int{math.MinInt, math.MinInt + 2, math.MaxInt, 1<<32 + 2, 1<<32 + 8, -1 << 32} {
		if message.Back(api.Msg{Kind: kind}) {
			t.Errorf("P9.1: Back of kind %d", kind)
		}
	}
	for kind := 1; kind <= 8; kind++ {
		if message.Back(plain(kind)) != slowBack(plain(kind)) {
			t.Errorf("P9.1: Back of %s", told(plain(kind)))
		}
	}
}

// all are messages of each kind that may be, the least and the greatest among them.
func all() []api.Msg {
	var l []api.Msg
	for kind := 1; kind <= 8; kind++ {
		l = append(l, plain(kind), api.Msg{Kind: kind})
	}
	for _, kind := range []int{3, 4} {
		m := plain(kind)
		for _, field := range usedBy(kind)[:7] {
			m = with(m, field, mostNumber)
		}
		m.Data = bytes.Repeat([]byte{7}, mostData)
		l = append(l, m)
	}
	return l
}

func encoded(l ...api.Msg) [][]byte {
	var out [][]byte
	for _, m := range l {
		out = append(out, slowEncode(m))
	}
	return out
}

func TestFrames(t *testing.T) {
	for _, l := range [][]api.Msg{nil, {}, all()[:1], all()[:2], all(), slices.Repeat(all(), 20)} {
		want := stream(encoded(l...)...)
		if b, e := message.Frames(l...); e != api.OK || !bytes.Equal(b, want) {
			t.Errorf("P9.2: Frames of %d messages: %s, %d", len(l), seen(b), e)
		}
		wantRead(t, want, l, api.OK)
	}
	b, e := message.Frames(api.Msg{Kind: 8, Client: 2, Backend: 3, Nonce: 4})
	if want := joined([]byte{4, 8, 3, 2, 4}, binary.LittleEndian.AppendUint32(nil, crc32.ChecksumIEEE([]byte{4, 8, 3, 2, 4}))); e != api.OK || !bytes.Equal(b, want) {
		t.Errorf("P9.2: Frames: %s, %d", seen(b), e)
	}
}

// TestFramesErrors: the first message that has an error tells it, whatever the others have.
func TestFramesErrors(t *testing.T) {
	wrong := map[api.Errno]api.Msg{
		api.ErrKind:  {Kind: 9},
		api.ErrRange: {Kind: 1, Nonce: -1},
		api.ErrLong:  {Kind: 3, Data: make([]byte, mostData+1)},
		api.ErrState: {Kind: 8, Seq: 1},
	}
	for e, m := range wrong {
		for _, other := range wrong {
			for at := range 4 {
				l := slices.Insert(slices.Clone(all()[:4]), at, m)
				for _, l := range [][]api.Msg{l[:at+1], l, append(l, other), append(l, other, other)} {
					if b, got := message.Frames(l...); got != e || len(b) > 0 {
						t.Errorf("P9.2: Frames with %s as message %d: %s, %d, want %d", told(m), at, seen(b), got, e)
					}
				}
			}
		}
	}
}

// badFrames are octets that no frame begins with, by Scan's error.
func badFrames() map[api.Errno][][]byte {
	turned := framed([]byte{8, 3, 2, 4})
	turned[2] ^= 1
	sum := framed([]byte{8, 3, 2, 4})
	sum[len(sum)-1] ^= 128
	long := framed(make([]byte, mostFrame+1))
	return map[api.Errno][][]byte{
		api.ErrShort:   {{0}, {0, 1}, framed(nil)},
		api.ErrLong:    {long, {0x81, 0x20}, bytes.Repeat([]byte{0x81, 0x20}, 9)},
		api.ErrCorrupt: {turned, sum, {0x84, 0, 8, 3, 2, 4}, bytes.Repeat([]byte{255}, 12)},
	}
}

// badPayloads are octets that are no message, by Decode's error.
func badPayloads() map[api.Errno][][]byte {
	return map[api.Errno][][]byte{
		api.ErrShort:   {{1}, {8, 3, 2}, {128}, {3, 0, 0, 0, 0, 0, 0, 0, 1}},
		api.ErrCorrupt: {{128, 0}, {8, 3, 129, 0, 4}},
		api.ErrKind:    {{0}, {9}, {9, 3, 2, 4}},
		api.ErrRange:   {{8, 255, 255, 255, 255, 8, 0, 0}},
		api.ErrLong:    {{3, 0, 0, 0, 0, 0, 0, 0, 129, 8}},
		api.ErrTail:    {{8, 3, 2, 4, 0}, make8(mostFrame)},
	}
}

// make8 is a full, and other octets behind it.
func make8(size int) []byte {
	b := make([]byte, size)
	b[0] = 8
	return b
}

// TestReadErrors: frames ahead of what is left, and that ahead of the messages.
func TestReadErrors(t *testing.T) {
	good := stream(encoded(all()...)...)
	for e, l := range badFrames() {
		for _, b := range l {
			wantRead(t, b, nil, e)
			wantRead(t, joined(good, b), nil, e)
			wantRead(t, joined(b, good), nil, e)
			wantRead(t, joined(good, b, []byte{1}), nil, e)
			for _, payloads := range badPayloads() {
				wantRead(t, joined(framed(payloads[0]), good, b), nil, e)
			}
		}
	}
	next := framed(slowEncode(plain(4)))
	for size := 1; size < len(next); size++ {
		wantRead(t, next[:size], nil, api.ErrShort)
		wantRead(t, joined(good, next[:size]), nil, api.ErrShort)
		for _, payloads := range badPayloads() {
			wantRead(t, joined(framed(payloads[0]), next[:size]), nil, api.ErrShort)
		}
	}
	for e, l := range badPayloads() {
		for _, payload := range l {
			b := framed(payload)
			wantRead(t, b, nil, e)
			wantRead(t, joined(good, b), nil, e)
			wantRead(t, joined(b, good), nil, e)
			wantRead(t, joined(good, b, good), nil, e)
			for _, payloads := range badPayloads() {
				wantRead(t, joined(good, b, framed(payloads[0]), good), nil, e)
			}
		}
	}
	wantRead(t, nil, nil, api.OK)
	wantRead(t, []byte{}, nil, api.OK)
}

// TestReadEachPlace: a stream that is cut off, or changed, at each place.
func TestReadEachPlace(t *testing.T) {
	b := stream(encoded(all()[:16]...)...)
	for at := range b {
		for _, x := range [][]byte{b[:at], joined(b[:at], b[at+1:]), joined(b[:at], []byte{0}, b[at:]), joined(b[:at], []byte{b[at] ^ 1}, b[at+1:]), joined(b[:at], []byte{b[at] ^ 128}, b[at+1:])} {
			l, e := slowRead(x)
			wantRead(t, x, l, e)
		}
	}
}

// TestEachPlace: octets that are cut off, and changed in every way, at each place.
func TestEachPlace(t *testing.T) {
	for kind := 1; kind <= 8; kind++ {
		b := slowEncode(with(plain(kind), "Client", mostNumber))
		for at := range b {
			wantSlow(t, b[:at])
			wantSlow(t, joined(b[:at], b[at+1:]))
			for c := range 256 {
				wantSlow(t, joined(b[:at], []byte{byte(c)}, b[at+1:]))
				wantSlow(t, joined(b[:at], []byte{byte(c)}, b[at:]))
			}
		}
	}
}

// TestShortOctets: all of up to two octets, and more of a few.
func TestShortOctets(t *testing.T) {
	for a := range 256 {
		wantSlow(t, []byte{byte(a)})
		for b := range 256 {
			wantSlow(t, []byte{byte(a), byte(b)})
		}
	}
	few := []byte{0, 1, 3, 8, 127, 128, 255}
	var each func(b []byte, left int)
	each = func(b []byte, left int) {
		wantSlow(t, b)
		if left == 0 {
			return
		}
		for _, c := range few {
			each(append(slices.Clone(b), c), left-1)
		}
	}
	each(nil, 5)
}

func randNumber(r *rand.Rand) int {
	switch r.Intn(4) {
	case 0:
		return 0
	case 1:
		return r.Intn(300)
	case 2:
		return mostNumber - r.Intn(3)
	}
	return r.Intn(mostNumber+1) >> r.Intn(31)
}

// randMsg is a message that may be.
func randMsg(r *rand.Rand) api.Msg {
	m := api.Msg{Kind: 1 + r.Intn(8)}
	for _, field := range usedBy(m.Kind) {
		if field != "Data" {
			m = with(m, field, randNumber(r))
			continue
		}
		m.Data = make([]byte, []int{0, r.Intn(5), r.Intn(140), r.Intn(mostData + 1)}[r.Intn(4)])
		r.Read(m.Data)
	}
	return m
}

// spoiltMsg is m, another at one place.
func spoiltMsg(r *rand.Rand, m api.Msg) api.Msg {
	switch r.Intn(5) {
	case 0:
		m.Kind = r.Intn(12) - 1
	case 1:
		m.Data = make([]byte, r.Intn(mostData+20))
	case 2:
		m = with(m, fields[r.Intn(len(fields))], int(r.Uint64()))
	case 3:
		m = with(m, fields[r.Intn(len(fields))], []int{-1, mostNumber, mostNumber + 1}[r.Intn(3)])
	default:
		m = with(m, fields[r.Intn(len(fields))], randNumber(r))
	}
	return m
}

// spoilt is b, changed at one place.
func spoilt(r *rand.Rand, b []byte) []byte {
	at := r.Intn(min(len(b), 40) + 1)
	c := []byte{byte(r.Intn(256))}
	switch r.Intn(6) {
	case 0:
		return joined(b[:at], c, b[at:])
	case 1:
		return b[:at]
	case 2:
		return joined(b[:at], b[min(at+1, len(b)):])
	case 3:
		return joined(b[:at], c, b[min(at+1, len(b)):])
	case 4:
		return joined(b[:at], []byte{255, 255, 255, 255, byte(6 + r.Intn(4))}, b[at:])
	}
	return joined(b, c)
}

// TestRandom: messages there and back, alone and together, and what is spoilt, by the slow ones.
func TestRandom(t *testing.T) {
	r := rand.New(rand.NewSource(91))
	met := map[api.Errno]int{}
	for range 4000 {
		m := randMsg(r)
		wantMsg(t, m, api.OK)
		b := slowEncode(m)
		for range 5 {
			b = spoilt(r, b)
			met[wantSlow(t, b)]++
			m = spoiltMsg(r, m)
			wantMsg(t, m, slowCheck(m))
		}
	}
	for _, e := range []api.Errno{api.OK, api.ErrShort, api.ErrCorrupt, api.ErrKind, api.ErrRange, api.ErrLong, api.ErrTail} {
		if met[e] < 50 {
			t.Errorf("only %d random octets of error %d", met[e], e)
		}
	}
	for range 500 {
		l := make([]api.Msg, r.Intn(20))
		for i := range l {
			l[i] = randMsg(r)
		}
		b, e := message.Frames(l...)
		if want := stream(encoded(l...)...); e != api.OK || !bytes.Equal(b, want) {
			t.Errorf("P9.2: Frames of %d messages: %s, %d", len(l), seen(b), e)
		}
		wantRead(t, b, l, api.OK)
		b = spoilt(r, b)
		l, e = slowRead(b)
		wantRead(t, b, l, e)
	}
}

// TestMany: more messages than a world ever has.
func TestMany(t *testing.T) {
	l := slices.Repeat(all(), 1000)
	b, e := message.Frames(l...)
	if e != api.OK {
		t.Fatal("P9.2: Frames:", e)
	}
	got, e := message.Read(b)
	if e != api.OK || !slices.EqualFunc(got, l, alike) {
		t.Errorf("P9.3: Read of Frames of %d messages: %d, %d", len(l), len(got), e)
	}
	if _, e := message.Frames(append(l, api.Msg{})...); e != api.ErrKind {
		t.Error("P9.2: Frames of many and a wrong one:", e)
	}
}

// span is a piece of memory.
type span struct {
	from, to uintptr
	what     string
}

// ofList is what a list keeps, the room behind it too.
func ofList[T any](what string, l []T) span {
	from := uintptr(unsafe.Pointer(unsafe.SliceData(l)))
	var one T
	return span{from, from + uintptr(cap(l))*unsafe.Sizeof(one), what}
}

func wantAlone(t *testing.T, l ...span) {
	t.Helper()
	l = slices.DeleteFunc(l, func(s span) bool { return s.from == s.to })
	slices.SortFunc(l, func(a, b span) int { return cmp.Compare(a.from, b.from) })
	for i := 1; i < len(l); i++ {
		if l[i].from < l[i-1].to {
			t.Errorf("P9.4: %s and %s share memory", l[i-1].what, l[i].what)
		}
	}
}

// TestNewMemory: no answer shares memory with another one, with what was handed in, or within itself.
func TestNewMemory(t *testing.T) {
	in := all()
	text := bytes.Repeat([]byte("abc"), 50)
	for i := range in {
		if in[i].Data != nil {
			in[i].Data = text
		}
	}
	spans := []span{ofList("messages that were handed in", in), ofList("Data that was handed in", text)}
	var kept []any
	for range 3 {
		f, _ := message.Frames(in...)
		for range 2 {
			l, e := message.Read(f)
			if e != api.OK || len(l) != len(in) {
				t.Fatal("P9.2: Read:", len(l), e)
			}
			spans = append(spans, ofList("messages of Read", l))
			for _, m := range l {
				spans = append(spans, ofList("Data of Read", m.Data))
			}
			kept = append(kept, l)
		}
		spans = append(spans, ofList("octets of Frames", f))
		kept = append(kept, f)
		for _, m := range in {
			b, _ := message.Encode(m)
			first, _ := message.Decode(b)
			second, _ := message.Decode(b)
			spans = append(spans, ofList("octets of Encode", b), ofList("Data of Decode", first.Data), ofList("Data of Decode", second.Data))
			kept = append(kept, b, first, second)
		}
	}
	wantAlone(t, spans...)
	runtime.KeepAlive(kept)
	runtime.KeepAlive(in)
}

// TestAnswersAreApart: who writes into octets or messages changes no answer.
func TestAnswersAreApart(t *testing.T) {
	spoil := func(b []byte) {
		for i := range b[:cap(b)] {
			b[:cap(b)][i] = 0xee
		}
	}
	for _, kind := range []int{3, 4} {
		m := plain(kind)
		b, _ := message.Encode(m)
		f, _ := message.Frames(m, m)
		spoil(m.Data)
		if !bytes.Equal(b, slowEncode(plain(kind))) || !bytes.Equal(f, stream(encoded(plain(kind), plain(kind))...)) {
			t.Error("P9.4: octets share memory with a message that was handed in")
		}
		one, _ := message.Decode(b)
		two, _ := message.Decode(b)
		l, _ := message.Read(f)
		spoil(b)
		spoil(f)
		spoil(two.Data)
		spoil(l[0].Data)
		if !alike(one, plain(kind)) || !alike(l[1], plain(kind)) {
			t.Error("P9.4: a message shares memory with octets or with another one")
		}
	}
}

// TestNotChanged: what is handed in stays, with the room behind it.
func TestNotChanged(t *testing.T) {
	made := func() []api.Msg {
		l := append(make([]api.Msg, 0, 30), all()...)
		l = append(l, api.Msg{Kind: 9, Data: []byte("wrong")}, api.Msg{Kind: 8, Data: []byte("wrong")}, api.Msg{Kind: 1, Nonce: -1}, api.Msg{Kind: 7, Seq: 7})
		for i := range l {
			l[i].Data = roomy(l[i].Data)
		}
		return l[:len(l)-1]
	}
	l := made()
	for range 3 {
		for _, m := range l {
			message.Check(m)
			message.Encode(m)
			message.Back(m)
			message.Frames(m)
		}
		message.Frames(l...)
		message.Frames(l[:18]...)
	}
	want := made()
	for i, m := range l[:len(l)+1] {
		x := want[:len(l)+1][i]
		if !reflect.DeepEqual(m, x) || !bytes.Equal(m.Data[:cap(m.Data)], x.Data[:cap(x.Data)]) {
			t.Errorf("P9.4: message %d is changed: %s", i, told(m))
		}
	}
}

// FuzzMessage: whatever the octets are, all calls answer as the slow ones.
func FuzzMessage(f *testing.F) {
	for _, m := range all() {
		f.Add(slowEncode(m), m.Kind, m.Client, m.Seq, m.Place)
	}
	f.Add(stream(encoded(all()[:5]...)...), 3, -1, 1, 0)
	f.Add([]byte{9}, 9, 0, 0, 0)
	f.Fuzz(func(t *testing.T, b []byte, kind, first, seq, place int) {
		wantSlow(t, b)
		l, e := slowRead(b)
		wantRead(t, b, l, e)
		wantMsg(t, api.Msg{Kind: kind, Client: first, Seq: seq, Place: place, Data: b}, slowCheck(api.Msg{Kind: kind, Client: first, Seq: seq, Place: place, Data: b}))
		wantMsg(t, api.Msg{Kind: kind, Client: first, Backend: seq, Nonce: place}, slowCheck(api.Msg{Kind: kind, Client: first, Backend: seq, Nonce: place}))
	})
}
