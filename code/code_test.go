package code_test

import (
	"bytes"
	"math"
	"math/big"
	"strings"
	"testing"

	"courant/api"
	"courant/code"
)

const nineFull = "\xff\xff\xff\xff\xff\xff\xff\xff\xff"
const nineBare = "\x80\x80\x80\x80\x80\x80\x80\x80\x80"

type numRow struct {
	v    uint64
	form string
}

type zigRow struct {
	v    int64
	form string
}

func numRows() []numRow {
	return []numRow{
		{0, "\x00"}, {1, "\x01"}, {127, "\x7f"},
		{128, "\x80\x01"}, {300, "\xac\x02"}, {1<<14 - 1, "\xff\x7f"},
		{1 << 14, "\x80\x80\x01"}, {1<<32 - 1, "\xff\xff\xff\xff\x0f"},
		{1<<63 - 1, "\xff\xff\xff\xff\xff\xff\xff\xff\x7f"},
		{1 << 63, nineBare + "\x01"},
		{1<<64 - 1, nineFull + "\x01"},
	}
}

func zigRows() []zigRow {
	return []zigRow{
		{0, "\x00"}, {-1, "\x01"}, {1, "\x02"}, {-2, "\x03"},
		{63, "\x7e"}, {-64, "\x7f"}, {64, "\x80\x01"}, {-65, "\x81\x01"},
		{math.MaxInt32, "\xfe\xff\xff\xff\x0f"}, {math.MinInt32, "\xff\xff\xff\xff\x0f"},
		{math.MaxInt64, "\xfe" + nineFull[1:] + "\x01"},
		{math.MinInt64, nineFull + "\x01"},
		{math.MinInt64 + 1, "\xfd" + nineFull[1:] + "\x01"},
	}
}

// edgeNumbers are the numbers beside each power of two.
func edgeNumbers() []uint64 {
	out := []uint64{0, math.MaxUint64}
	for bit := range 64 {
		p := uint64(1) << bit
		out = append(out, p-1, p, p+1)
	}
	return out
}

// spelled is the form of a number, told by the promise's words alone: its bits in sevens.
func spelled(v *big.Int) []byte {
	bits := v.Text(2)
	bits = strings.Repeat("0", (7-len(bits)%7)%7) + bits
	var out []byte
	for end := len(bits); end > 0; end -= 7 {
		seven, _ := new(big.Int).SetString(bits[end-7:end], 2)
		c := byte(seven.Int64())
		if end > 7 {
			c |= 0x80
		}
		out = append(out, c)
	}
	return out
}

func TestNumWritten(t *testing.T) {
	for _, x := range numRows() {
		if got := code.Num(x.v); string(got) != x.form {
			t.Errorf("P1.1: Num(%d): %x; want %x", x.v, got, x.form)
		}
	}
	for _, v := range edgeNumbers() {
		want := spelled(new(big.Int).SetUint64(v))
		if got := code.Num(v); !bytes.Equal(got, want) {
			t.Errorf("P1.1: Num(%d): %x; want %x", v, got, want)
		}
	}
}

func TestZigWritten(t *testing.T) {
	for _, x := range zigRows() {
		if got := code.Zig(x.v); string(got) != x.form {
			t.Errorf("P1.1: Zig(%d): %x; want %x", x.v, got, x.form)
		}
	}
	for _, u := range edgeNumbers() {
		v := int64(u)
		double := new(big.Int).Mul(big.NewInt(v), big.NewInt(2))
		if v < 0 {
			double.Neg(double).Sub(double, big.NewInt(1))
		}
		if got, want := code.Zig(v), spelled(double); !bytes.Equal(got, want) {
			t.Errorf("P1.1: Zig(%d): %x; want %x", v, got, want)
		}
	}
}

func TestTextWritten(t *testing.T) {
	long := strings.Repeat("z", 300)
	rows := []struct{ text, want string }{
		{"", "\x00"}, {"a", "\x02a"}, {"\x00\xff", "\x04\x00\xff"},
		{long[:63], "\x7e" + long[:63]}, {long[:64], "\x80\x01" + long[:64]},
		{long, "\xd8\x04" + long},
	}
	for _, x := range rows {
		if got := code.Text([]byte(x.text)); string(got) != x.want {
			t.Errorf("P1.1: Text of %d bytes: %x; want %x", len(x.text), got, x.want)
		}
	}
	if got := code.Text(nil); string(got) != "\x00" {
		t.Errorf("P1.1: Text(nil): %x; want 00", got)
	}
}

func TestNumbersRead(t *testing.T) {
	for _, x := range numRows() {
		r := code.New([]byte(x.form + "rest"))
		if got := r.Num(); got != x.v || r.Err() != api.OK || r.Left() != 4 {
			t.Errorf("P1.2: Num of %x: %d, fault %d, %d left; want %d", x.form, got, r.Err(), r.Left(), x.v)
		}
	}
	for _, x := range zigRows() {
		r := code.New([]byte(x.form + "rest"))
		if got := r.Zig(); got != x.v || r.Err() != api.OK || r.Left() != 4 {
			t.Errorf("P1.2: Zig of %x: %d, fault %d, %d left; want %d", x.form, got, r.Err(), r.Left(), x.v)
		}
	}
}

func TestThingsReadInARow(t *testing.T) {
	r := code.New([]byte("\xac\x02\x01\x06abcde\x00"))
	if v := r.Num(); v != 300 || r.Left() != 8 {
		t.Errorf("P1.2: the first number: %d, %d left", v, r.Left())
	}
	if v := r.Zig(); v != -1 || r.Left() != 7 {
		t.Errorf("P1.2: the second number: %d, %d left", v, r.Left())
	}
	if b := r.Text(3); string(b) != "abc" || r.Left() != 3 {
		t.Errorf("P1.2: the text: %q, %d left", b, r.Left())
	}
	if b := r.Raw(2); string(b) != "de" || r.Left() != 1 || r.End() != api.ErrForm {
		t.Errorf("P1.2: the bytes: %q, %d left, end %d", b, r.Left(), r.End())
	}
	if b := r.Text(0); len(b) != 0 || r.Left() != 0 || r.End() != api.OK {
		t.Errorf("P1.2: the empty text: %q, %d left, end %d", b, r.Left(), r.End())
	}
}

func TestNumberFaults(t *testing.T) {
	rows := []struct {
		form string
		want api.Errno
	}{
		{"", api.ErrShort}, {"\x80", api.ErrShort}, {"\xff", api.ErrShort},
		{nineBare, api.ErrShort}, {nineFull, api.ErrShort},
		{"\x80\x00", api.ErrForm}, {"\xff\x00", api.ErrForm}, {"\x80\x00\x01", api.ErrForm},
		{"\x80\x80\x00", api.ErrForm}, {nineFull[:8] + "\x00", api.ErrForm},
		{nineFull + "\x00", api.ErrForm}, {nineBare + "\x00", api.ErrForm},
		{nineFull + "\x02", api.ErrForm}, {nineBare + "\x7f", api.ErrForm},
		{nineFull + "\x80", api.ErrForm}, {nineFull + "\x81", api.ErrForm},
		{nineFull + "\xff", api.ErrForm}, {nineBare + "\x80\x01", api.ErrForm},
		{nineFull + "\x81\x00", api.ErrForm}, {nineFull + nineFull + nineFull, api.ErrForm},
	}
	for _, x := range rows {
		r := code.New([]byte(x.form))
		if v := r.Num(); v != 0 {
			t.Errorf("P1.3: Num of %x: %d; want 0", x.form, v)
		}
		stands(t, r, x.want, len(x.form))
		r = code.New([]byte(x.form))
		if v := r.Zig(); v != 0 {
			t.Errorf("P1.3: Zig of %x: %d; want 0", x.form, v)
		}
		stands(t, r, x.want, len(x.form))
		r = code.New([]byte(x.form))
		if b := r.Text(math.MaxInt); len(b) != 0 {
			t.Errorf("P1.3: Text of %x: %x; want nothing", x.form, b)
		}
		stands(t, r, x.want, len(x.form))
	}
}

// stands holds a reader's place and first fault against what is wanted, also behind whatever else is asked of it then.
func stands(t *testing.T, r *code.Reader, fault api.Errno, left int) {
	t.Helper()
	if r.Err() != fault || r.Left() != left {
		t.Errorf("P1.2: fault %d, %d left; want %d, %d", r.Err(), r.Left(), fault, left)
	}
	if fault == api.OK {
		return
	}
	if r.Num() != 0 || r.Zig() != 0 || len(r.Text(-1)) != 0 || len(r.Text(math.MaxInt)) != 0 {
		t.Error("P1.3: something is read behind a fault")
	}
	if len(r.Raw(0)) != 0 || len(r.Raw(-1)) != 0 || len(r.Raw(1)) != 0 || len(r.Raw(math.MaxInt)) != 0 {
		t.Error("P1.3: bytes are read behind a fault")
	}
	if r.Err() != fault || r.End() != fault || r.Left() != left {
		t.Errorf("P1.3: later fault %d, end %d, %d left; want %d, %d", r.Err(), r.End(), r.Left(), fault, left)
	}
}

func TestTextRead(t *testing.T) {
	huge := nineFull + "\x01"
	highest := "\xfe" + nineFull[1:] + "\x01"
	rows := []struct {
		form string
		most int
		want string
		err  api.Errno
		left int
	}{
		{"\x00", 0, "", api.OK, 0}, {"\x00a", -1, "", api.OK, 1}, {"\x00", math.MinInt, "", api.OK, 0},
		{"\x02a", 1, "a", api.OK, 0}, {"\x06abcd", 3, "abc", api.OK, 1}, {"\x06abcd", math.MaxInt, "abc", api.OK, 1},
		{"\x02a", 0, "", api.ErrLimit, 2}, {"\x02a", -1, "", api.ErrLimit, 2}, {"\x02a", math.MinInt, "", api.ErrLimit, 2},
		{"\x06abcd", 2, "", api.ErrLimit, 5}, {"\x06ab", 2, "", api.ErrLimit, 3}, {highest, 9, "", api.ErrLimit, 10},
		{"\x06ab", 3, "", api.ErrShort, 3}, {"\x06", math.MaxInt, "", api.ErrShort, 1}, {highest, math.MaxInt, "", api.ErrShort, 10},
		{"\x01abc", 9, "", api.ErrForm, 4}, {"\x01", 0, "", api.ErrForm, 1}, {"\x03abc", -9, "", api.ErrForm, 4}, {huge + "a", 9, "", api.ErrForm, 11},
		{"", 9, "", api.ErrShort, 0}, {"", -1, "", api.ErrShort, 0},
	}
	for i, x := range rows {
		r := code.New([]byte(x.form))
		if got := r.Text(x.most); string(got) != x.want {
			t.Errorf("P1.2: the row %d: %q; want %q", i, got, x.want)
		}
		stands(t, r, x.err, x.left)
	}
}

func TestRawRead(t *testing.T) {
	rows := []struct {
		form string
		n    int
		want string
		err  api.Errno
		left int
	}{
		{"abc", 0, "", api.OK, 3}, {"abc", -1, "", api.OK, 3}, {"abc", math.MinInt, "", api.OK, 3},
		{"abc", 2, "ab", api.OK, 1}, {"abc", 3, "abc", api.OK, 0},
		{"abc", 4, "", api.ErrShort, 3}, {"abc", math.MaxInt, "", api.ErrShort, 3},
		{"", 0, "", api.OK, 0}, {"", -1, "", api.OK, 0}, {"", 1, "", api.ErrShort, 0},
	}
	for i, x := range rows {
		r := code.New([]byte(x.form))
		if got := r.Raw(x.n); string(got) != x.want {
			t.Errorf("P1.2: the row %d: %q; want %q", i, got, x.want)
		}
		stands(t, r, x.err, x.left)
	}
}

func TestFaultStaysWhereTheThingBegins(t *testing.T) {
	rows := []struct {
		rest string
		ask  func(*code.Reader)
		want api.Errno
	}{
		{"\x80", func(r *code.Reader) { r.Num() }, api.ErrShort},
		{"\x80\x00x", func(r *code.Reader) { r.Zig() }, api.ErrForm},
		{"\x80\x01x", func(r *code.Reader) { r.Text(99) }, api.ErrShort},
		{"\x80\x01x", func(r *code.Reader) { r.Text(9) }, api.ErrLimit},
		{"\x81\x01x", func(r *code.Reader) { r.Text(9) }, api.ErrForm},
		{"xy", func(r *code.Reader) { r.Raw(3) }, api.ErrShort},
	}
	for _, x := range rows {
		r := code.New([]byte("\x02ab" + x.rest))
		if string(r.Text(1)) != "a" || string(r.Raw(1)) != "b" {
			t.Fatal("P1.2: what stands ahead of the fault")
		}
		x.ask(r)
		stands(t, r, x.want, len(x.rest))
	}
}

func TestEnd(t *testing.T) {
	r := code.New([]byte("\x07\x08"))
	if r.End() != api.ErrForm || r.Err() != api.OK || r.Num() != 7 {
		t.Error("P1.3: bytes that are left are no fault: the reader reads on")
	}
	if r.End() != api.ErrForm || r.Num() != 8 || r.End() != api.OK || r.Err() != api.OK {
		t.Error("P1.3: End at the end")
	}
	if r.Num() != 0 || r.End() != api.ErrShort || r.Err() != api.ErrShort {
		t.Error("P1.3: a number behind the end")
	}
}

func TestNoBytes(t *testing.T) {
	for _, r := range []*code.Reader{code.New(nil), code.New([]byte{}), new(code.Reader)} {
		if r == nil {
			t.Fatal("P1.2: a reader of no bytes is one")
		}
		if r.Left() != 0 || r.Err() != api.OK || r.End() != api.OK || len(r.Raw(0)) != 0 {
			t.Error("P1.3: a reader of no bytes")
		}
		r.Num()
		stands(t, r, api.ErrShort, 0)
	}
}

func TestNilReader(t *testing.T) {
	var r *code.Reader
	if r.Num() != 0 || r.Zig() != 0 || r.Left() != 0 {
		t.Error("P1.3: numbers of a nil reader")
	}
	for _, n := range []int{math.MinInt, -1, 0, 1, math.MaxInt} {
		if r.Text(n) != nil || r.Raw(n) != nil {
			t.Error("P1.3: bytes of a nil reader")
		}
	}
	if r.Err() != api.ErrNil || r.End() != api.ErrNil {
		t.Error("P1.3: the error of a nil reader")
	}
}

func TestWrittenIsRead(t *testing.T) {
	for _, v := range edgeNumbers() {
		r := code.New(code.Num(v))
		if got := r.Num(); got != v || r.End() != api.OK {
			t.Errorf("What follows: Num(%d) is read as %d, end %d", v, got, r.End())
		}
		r = code.New(code.Zig(int64(v)))
		if got := r.Zig(); got != int64(v) || r.End() != api.OK {
			t.Errorf("What follows: Zig(%d) is read as %d, end %d", int64(v), got, r.End())
		}
	}
	for n := range 300 {
		text := bytes.Repeat([]byte{byte(n)}, n)
		r := code.New(code.Text(text))
		if got := r.Text(n); !bytes.Equal(got, text) || r.End() != api.OK {
			t.Errorf("What follows: a text of %d bytes is read as %x, end %d", n, got, r.End())
		}
	}
}

func TestReadIsWrittenTheSame(t *testing.T) {
	for _, ahead := range []string{"", "\x80", nineBare[:7], nineFull[:8]} {
		for low := range 256 {
			for high := range 256 {
				readAndWrite(t, []byte(ahead+string([]byte{byte(low), byte(high)})))
			}
		}
	}
}

// readAndWrite reads b as each thing, and holds what it says, written again, against the bytes that were read.
func readAndWrite(t *testing.T, b []byte) {
	t.Helper()
	things := []func(*code.Reader) []byte{
		func(r *code.Reader) []byte { return code.Num(r.Num()) },
		func(r *code.Reader) []byte { return code.Zig(r.Zig()) },
		func(r *code.Reader) []byte { return code.Text(r.Text(9)) },
	}
	for i, thing := range things {
		r := code.New(b)
		again := thing(r)
		if r.Err() != api.OK {
			if r.Left() != len(b) {
				t.Errorf("P1.3: the thing %d of %x: %d left behind a fault", i, b, r.Left())
			}
		} else if taken := b[:len(b)-r.Left()]; !bytes.Equal(again, taken) {
			t.Errorf("What follows: the thing %d of %x, written again: %x", i, b, again)
		}
	}
}

func TestHandedInStays(t *testing.T) {
	room := []byte("\x06abc\x02z and the room behind")
	before := bytes.Clone(room)
	in := room[:6]
	code.Text(in)
	r := code.New(in)
	code.New(in).Raw(9)
	fill(r.Text(3))
	if !bytes.Equal(room, before) {
		t.Errorf("R3: what was handed in is %q; was %q", room, before)
	}
	fill(in)
	if got := r.Text(1); string(got) != "z" || r.End() != api.OK {
		t.Errorf("R3: a reader of bytes that were changed since: %q, end %d", got, r.End())
	}
}

func TestHandedOutIsNew(t *testing.T) {
	text := []byte("abc")
	out := code.Text(text)
	fill(text)
	if string(out) != "\x06abc" {
		t.Errorf("R3: a text that was written hangs on what it was made of: %q", out)
	}
	fill(out)
	fill(code.Num(300))
	fill(code.Zig(300))
	if string(code.Num(300)) != "\xac\x02" || string(code.Zig(300)) != "\xd8\x04" || string(code.Text(nil)) != "\x00" {
		t.Error("R3: what was written hangs on an answer of before")
	}
	r := code.New([]byte("\x04ab\x04cdefgh"))
	first := r.Text(9)
	fill(first)
	second := r.Text(9)
	fill(r.Raw(2))
	if string(second) != "cd" || string(r.Raw(2)) != "gh" || string(first) != "##" {
		t.Errorf("R3: texts share memory: %q, %q", first, second)
	}
}

// fill writes over b, and over the room behind its end.
func fill(b []byte) {
	b = b[:cap(b)]
	for i := range b {
		b[i] = '#'
	}
}

func FuzzRead(f *testing.F) {
	f.Add([]byte("\x06abc"), 3)
	f.Add([]byte(nineFull+"\x01"), -1)
	f.Fuzz(func(t *testing.T, b []byte, n int) {
		readAndWrite(t, b)
		r := code.New(b)
		whole := 0 <= n && n <= len(b)
		if got := r.Raw(n); whole && !bytes.Equal(got, b[:n]) {
			t.Errorf("P1.2: Raw(%d) of %x: %x", n, b, got)
		}
		for r.Err() == api.OK && r.Left() > 0 {
			r.Text(n)
		}
		if r.Left() < 0 || r.Left() > len(b) {
			t.Errorf("P1.3: %d left of %d bytes", r.Left(), len(b))
		}
	})
}
