package tests

import (
	"encoding/binary"
	"fmt"
	"hash/crc32"
	"math"
	"strings"
	"testing"
	"unsafe"

	"loop.example/g00633/impl"
)

// edgeNums: around each power of two, of both signs, and the ends of int64.
func edgeNums() []int64 {
	nums := []int64{0, math.MinInt64, math.MinInt64 + 1, math.MaxInt64, math.MaxInt64 - 1}
	for bit := range 63 {
		p := int64(1) << bit
		nums = append(nums, p-1, p, p+1, -p+1, -p, -p-1)
	}
	return nums
}

// mixed makes size bytes from a seed, always the same.
func mixed(seed uint64, size int) string {
	out := make([]byte, size)
	for i := range out {
		seed = seed*6364136223846793005 + 1442695040888963407
		out[i] = byte(seed >> 56)
	}
	return string(out)
}

func wantNum(t *testing.T, text string, at int64, want impl.NumOut) {
	t.Helper()
	if got := impl.GetNum(text, at); got != want {
		t.Errorf("GetNum(%.40q (%d bytes), %d): got %+v, want %+v", text, len(text), at, got, want)
	}
}

func wantText(t *testing.T, text string, at int64, want impl.TextOut) {
	t.Helper()
	if got := impl.GetText(text, at); got != want {
		t.Errorf("GetText(%.40q (%d bytes), %d): got %.80q, want %.80q", text, len(text), at, fmt.Sprint(got), fmt.Sprint(want))
	}
}

func wantUnseal(t *testing.T, text string, want impl.TextOut) {
	t.Helper()
	if got := impl.Unseal(text); got != want {
		t.Errorf("Unseal(%.40q (%d bytes)): got %.80q, want %.80q", text, len(text), fmt.Sprint(got), fmt.Sprint(want))
	}
}

func TestConstants(t *testing.T) {
	got := []int64{impl.OK, impl.ErrForm, impl.ErrSize, impl.ErrSyntax, impl.ErrShort, impl.ErrSum, impl.ErrNone,
		impl.ErrThere, impl.ErrRange, impl.ErrFull, impl.ErrState, impl.ErrHeld}
	for i, code := range got {
		if code != int64(i) {
			t.Errorf("code %d is %d", i, code)
		}
	}
	if impl.MaxBytes != 8000 || impl.MaxList != 400 || impl.MaxTime != 1000000 {
		t.Error("a limit is not the document's")
	}
}

// Promise 1.

func TestPutNumBytes(t *testing.T) {
	for _, c := range []struct {
		n    int64
		want string
	}{
		{0, "\x00"},
		{-1, "\x01"},
		{1, "\x02"},
		{63, "\x7e"},
		{-64, "\x7f"},
		{64, "\x80\x01"},
		{-65, "\x81\x01"},
		{8191, "\xfe\x7f"},
		{8192, "\x80\x80\x01"},
		{math.MaxInt64, "\xfe\xff\xff\xff\xff\xff\xff\xff\xff\x01"},
		{math.MinInt64, "\xff\xff\xff\xff\xff\xff\xff\xff\xff\x01"},
	} {
		if got := impl.PutNum(c.n); got != c.want {
			t.Errorf("PutNum(%d): got %q, want %q", c.n, got, c.want)
		}
	}
	for _, n := range edgeNums() {
		if got, want := impl.PutNum(n), string(binary.AppendVarint(nil, n)); got != want {
			t.Errorf("PutNum(%d): got %q, want %q", n, got, want)
		}
	}
}

func TestPutNumLengths(t *testing.T) {
	for size := 1; size <= 9; size++ {
		most := int64(1)<<(7*size-1) - 1
		for _, n := range []int64{most, -most - 1} {
			if got := len(impl.PutNum(n)); got != size {
				t.Errorf("PutNum(%d) has %d bytes, want %d", n, got, size)
			}
		}
		for _, n := range []int64{most + 1, -most - 2} {
			if got := len(impl.PutNum(n)); got != size+1 {
				t.Errorf("PutNum(%d) has %d bytes, want %d", n, got, size+1)
			}
		}
	}
}

func TestNumbersComeBack(t *testing.T) {
	for _, n := range edgeNums() {
		put := impl.PutNum(n)
		size := int64(len(put))
		wantNum(t, put, 0, impl.NumOut{N: n, At: size})
		wantNum(t, "\xff\xff"+put, 2, impl.NumOut{N: n, At: 2 + size})
		wantNum(t, "ab"+put+"\x80\x00", 2, impl.NumOut{N: n, At: 2 + size})
		full := strings.Repeat("\xff", impl.MaxBytes-len(put)) + put
		wantNum(t, full, impl.MaxBytes-size, impl.NumOut{N: n, At: impl.MaxBytes})
	}
}

func TestNumbersStandOneBehindTheOther(t *testing.T) {
	nums := edgeNums()
	var all strings.Builder
	for _, n := range nums {
		all.WriteString(impl.PutNum(n))
	}
	at := int64(0)
	for _, n := range nums {
		got := impl.GetNum(all.String(), at)
		if got.N != n || got.Code != impl.OK {
			t.Fatalf("at %d: got %+v, want %d", at, got, n)
		}
		at = got.At
	}
	if at != int64(all.Len()) {
		t.Errorf("the last one ends at %d of %d", at, all.Len())
	}
}

func TestGetNumTooShort(t *testing.T) {
	for _, n := range edgeNums() {
		put := impl.PutNum(n)
		for size := range len(put) {
			wantNum(t, put[:size], 0, impl.NumOut{Code: impl.ErrShort})
			wantNum(t, "\x00"+put[:size], 1, impl.NumOut{Code: impl.ErrShort})
		}
	}
	for _, at := range []int64{2, 3, 100, math.MaxInt32, math.MaxInt64} {
		wantNum(t, "\x02\x02", at, impl.NumOut{Code: impl.ErrShort})
	}
	wantNum(t, "", 0, impl.NumOut{Code: impl.ErrShort})
	// Nine bytes may still go on, whatever they are.
	wantNum(t, strings.Repeat("\x80", 9), 0, impl.NumOut{Code: impl.ErrShort})
	wantNum(t, strings.Repeat("\xff", 9), 0, impl.NumOut{Code: impl.ErrShort})
}

func TestGetNumNotWrittenSo(t *testing.T) {
	wrong := impl.NumOut{Code: impl.ErrSyntax}
	for tenth := 2; tenth < 256; tenth++ {
		for _, first := range []string{"\x80", "\xff"} {
			text := strings.Repeat(first, 9) + string([]byte{byte(tenth)})
			wantNum(t, text, 0, wrong)
			wantNum(t, text+"\x00", 0, wrong)
		}
	}
	wantNum(t, strings.Repeat("\x80", 9)+"\x01", 0, impl.NumOut{N: 1 << 62, At: 10})
	for size := 2; size <= 10; size++ {
		wantNum(t, strings.Repeat("\x80", size-1)+"\x00", 0, wrong)
		wantNum(t, strings.Repeat("\xff", size-1)+"\x00", 0, wrong)
		wantNum(t, "a"+strings.Repeat("\xff", size-1)+"\x00b", 1, wrong)
	}
}

func TestGetNumFaultsInOrder(t *testing.T) {
	long := strings.Repeat("\x00", impl.MaxBytes+1)
	for _, at := range []int64{math.MinInt64, -1, 0, impl.MaxBytes, impl.MaxBytes + 1, math.MaxInt64} {
		wantNum(t, long, at, impl.NumOut{Code: impl.ErrSize})
	}
	for _, text := range []string{"", "\x02", "\x80", "\x80\x00"} {
		for _, at := range []int64{-1, -2, math.MinInt64} {
			wantNum(t, text, at, impl.NumOut{Code: impl.ErrForm})
		}
	}
	wantNum(t, long[:impl.MaxBytes], impl.MaxBytes-1, impl.NumOut{At: impl.MaxBytes})
	wantNum(t, long[:impl.MaxBytes], impl.MaxBytes, impl.NumOut{Code: impl.ErrShort})
}

// Each text of one and two bytes, held against what the document says of it.
func TestGetNumOfAllShortTexts(t *testing.T) {
	for a := range 256 {
		one := string([]byte{byte(a)})
		if a < 128 {
			wantNum(t, one, 0, impl.NumOut{N: int64(a>>1) ^ -int64(a&1), At: 1})
			continue
		}
		wantNum(t, one, 0, impl.NumOut{Code: impl.ErrShort})
		for b := range 256 {
			two := string([]byte{byte(a), byte(b)})
			u := a&127 | b<<7
			switch {
			case b >= 128:
				wantNum(t, two, 0, impl.NumOut{Code: impl.ErrShort})
			case b == 0:
				wantNum(t, two, 0, impl.NumOut{Code: impl.ErrSyntax})
			default:
				wantNum(t, two, 0, impl.NumOut{N: int64(u>>1) ^ -int64(u&1), At: 2})
			}
		}
	}
}

// What is read is what PutNum and PutText write, and nothing else.
func TestWhatIsReadWasWrittenSo(t *testing.T) {
	for seed := range uint64(2000) {
		text := mixed(seed, int(seed%40))
		for at := range int64(len(text)) + 2 {
			n := impl.GetNum(text, at)
			if n.Code == impl.OK && impl.PutNum(n.N) != text[at:n.At] {
				t.Fatalf("GetNum(%q, %d): %+v is not written so", text, at, n)
			}
			if n.Code != impl.OK && n != (impl.NumOut{Code: n.Code}) {
				t.Fatalf("GetNum(%q, %d): %+v beside a code", text, at, n)
			}
			s := impl.GetText(text, at)
			if s.Code == impl.OK && impl.PutText(s.Text) != text[at:s.At] {
				t.Fatalf("GetText(%q, %d): %+v is not written so", text, at, s)
			}
			if s.Code != impl.OK && s != (impl.TextOut{Code: s.Code}) {
				t.Fatalf("GetText(%q, %d): %+v beside a code", text, at, s)
			}
		}
	}
}

func TestPutText(t *testing.T) {
	for _, c := range []struct{ t, want string }{
		{"", "\x00"},
		{"a", "\x02a"},
		{"\x00\xff", "\x04\x00\xff"},
		{strings.Repeat("b", 64), "\x80\x01" + strings.Repeat("b", 64)},
		{strings.Repeat("c", impl.MaxBytes), impl.PutNum(impl.MaxBytes) + strings.Repeat("c", impl.MaxBytes)},
		{strings.Repeat("d", impl.MaxBytes+1), ""},
	} {
		if got := impl.PutText(c.t); got != c.want {
			t.Errorf("PutText of %d bytes: got %.20q (%d bytes), want %d bytes", len(c.t), got, len(got), len(c.want))
		}
	}
}

func TestTextsComeBack(t *testing.T) {
	// The length of the longest that fit in takes two bytes.
	for _, size := range []int{0, 1, 2, 63, 64, 127, 128, 1000, impl.MaxBytes - 3, impl.MaxBytes - 2} {
		text := mixed(uint64(size), size)
		put := impl.PutText(text)
		wantText(t, put, 0, impl.TextOut{Text: text, At: int64(len(put))})
		if len(put)+4 <= impl.MaxBytes {
			wantText(t, "ab"+put+"cd", 2, impl.TextOut{Text: text, At: 2 + int64(len(put))})
		}
	}
	for _, size := range []int{impl.MaxBytes - 1, impl.MaxBytes} {
		wantText(t, impl.PutText(mixed(1, size)), 0, impl.TextOut{Code: impl.ErrSize})
	}
}

func TestGetTextFaults(t *testing.T) {
	long := strings.Repeat("\x00", impl.MaxBytes+1)
	for _, c := range []struct {
		text string
		at   int64
		code int64
	}{
		{long, 0, impl.ErrSize},
		{long, -1, impl.ErrSize},
		{"\x00", -1, impl.ErrForm},
		{"", math.MinInt64, impl.ErrForm},
		{"", 0, impl.ErrShort},
		{"\x00", 1, impl.ErrShort},
		{"\x00", 2, impl.ErrShort},
		{"\x00", math.MaxInt64, impl.ErrShort},
		{"\x80", 0, impl.ErrShort},
		{strings.Repeat("\xff", 9), 0, impl.ErrShort},
		{strings.Repeat("\xff", 9) + "\x02", 0, impl.ErrSyntax},
		{"\x82\x00a", 0, impl.ErrSyntax},
		{impl.PutNum(-1) + "a", 0, impl.ErrSyntax},
		{impl.PutNum(math.MinInt64), 0, impl.ErrSyntax},
		{impl.PutNum(math.MaxInt64), 0, impl.ErrSyntax},
		{impl.PutNum(impl.MaxBytes + 1), 0, impl.ErrSyntax},
		{impl.PutNum(impl.MaxBytes+1) + long[:impl.MaxBytes-2], 0, impl.ErrSyntax},
		{impl.PutNum(impl.MaxBytes), 0, impl.ErrShort},
		{impl.PutNum(impl.MaxBytes) + long[:impl.MaxBytes-2], 0, impl.ErrShort},
		{impl.PutNum(impl.MaxBytes-1) + long[:impl.MaxBytes-2], 0, impl.ErrShort},
		{"\x02", 0, impl.ErrShort},
		{"\x04a", 0, impl.ErrShort},
		{"xx\x06ab", 2, impl.ErrShort},
	} {
		wantText(t, c.text, c.at, impl.TextOut{Code: c.code})
	}
	wantText(t, "\x00", 0, impl.TextOut{At: 1})
	wantText(t, long[:impl.MaxBytes], impl.MaxBytes-1, impl.TextOut{At: impl.MaxBytes})
}

func TestGetTextTooShort(t *testing.T) {
	put := impl.PutText(mixed(7, 200))
	for size := range len(put) {
		wantText(t, put[:size], 0, impl.TextOut{Code: impl.ErrShort})
	}
}

func TestNameRight(t *testing.T) {
	twenty := "a123456789_bcdefghiz"
	for _, name := range []string{"a", "z", "a_", "a0", "z9", "a_9", "kind", twenty} {
		if !impl.NameRight(name) {
			t.Errorf("%q is a name", name)
		}
	}
	wrong := []string{"", "_", "_a", "0", "9a", "A", "aB", "a b", "a-b", "a\x00", "a\n", "ä", "aä", " a",
		twenty + "a", strings.Repeat("a", 21), strings.Repeat("a", impl.MaxBytes+1)}
	for _, name := range wrong {
		if impl.NameRight(name) {
			t.Errorf("%.30q is no name", name)
		}
	}
	for b := range 256 {
		letter := b >= 'a' && b <= 'z'
		if got := impl.NameRight(string([]byte{byte(b)})); got != letter {
			t.Errorf("a name of the byte %d: got %t", b, got)
		}
		inside := letter || b >= '0' && b <= '9' || b == '_'
		for _, ahead := range []string{"a", strings.Repeat("a", 19)} {
			name := ahead + string([]byte{byte(b)})
			if got := impl.NameRight(name); got != inside {
				t.Errorf("a name with the byte %d: got %t of %q", b, got, name)
			}
		}
		if got := impl.NameRight("a" + string([]byte{byte(b)}) + "a"); got != inside {
			t.Errorf("a name with the byte %d inside: got %t", b, got)
		}
	}
}

// Promise 2.

func TestCrc(t *testing.T) {
	for _, c := range []struct {
		text string
		want int64
	}{
		{"", 0},
		{"123456789", 3421780262},
		{"a", 3904355907},
		{"\x00", 3523407757},
		{"\x00\x00\x00\x00", 558161692},
		{"\xff\xff\xff\xff", 4294967295},
	} {
		if got := impl.Crc(c.text); got != c.want {
			t.Errorf("Crc(%q): got %d, want %d", c.text, got, c.want)
		}
	}
	for _, size := range []int{1, 2, 3, 255, 256, impl.MaxBytes - 1, impl.MaxBytes} {
		text := mixed(uint64(size), size)
		if got, want := impl.Crc(text), int64(crc32.ChecksumIEEE([]byte(text))); got != want {
			t.Errorf("Crc of %d bytes: got %d, want %d", size, got, want)
		}
	}
	if got := impl.Crc(strings.Repeat("a", impl.MaxBytes+1)); got != 0 {
		t.Errorf("Crc of too many bytes: got %d", got)
	}
}

func TestCrcGoesOn(t *testing.T) {
	text := mixed(3, 300)
	for at := range len(text) + 1 {
		if got, want := impl.CrcMore(impl.Crc(text[:at]), text[at:]), impl.Crc(text); got != want {
			t.Errorf("CRC that goes on at %d: got %d, want %d", at, got, want)
		}
	}
	whole := mixed(4, impl.MaxBytes)
	// Both together may be longer than one text may be.
	want := int64(crc32.ChecksumIEEE([]byte(whole + whole)))
	if got := impl.CrcMore(impl.Crc(whole), whole); got != want {
		t.Errorf("CRC of two whole ones: got %d, want %d", got, want)
	}
}

func TestCrcMoreEdges(t *testing.T) {
	const most = math.MaxUint32
	for _, crc := range []int64{0, 1, most - 1, most} {
		for _, text := range []string{"", "a", "abc"} {
			want := int64(crc32.Update(uint32(crc), crc32.IEEETable, []byte(text)))
			if got := impl.CrcMore(crc, text); got != want {
				t.Errorf("CrcMore(%d, %q): got %d, want %d", crc, text, got, want)
			}
		}
		if got := impl.CrcMore(crc, strings.Repeat("a", impl.MaxBytes+1)); got != 0 {
			t.Errorf("CrcMore(%d) of too many bytes: got %d", crc, got)
		}
	}
	for _, crc := range []int64{-1, math.MinInt64, most + 1, most + 2, math.MaxInt64} {
		for _, text := range []string{"", "a"} {
			if got := impl.CrcMore(crc, text); got != 0 {
				t.Errorf("CrcMore(%d, %q): got %d, want 0", crc, text, got)
			}
		}
	}
}

func TestSealBytes(t *testing.T) {
	for _, c := range []struct{ text, want string }{
		{"", "\x00\x00\x00\x00"},
		{"123456789", "123456789\x26\x39\xf4\xcb"},
	} {
		if got := impl.Seal(c.text); got != c.want {
			t.Errorf("Seal(%q): got %q, want %q", c.text, got, c.want)
		}
	}
	for _, size := range []int{impl.MaxBytes - 3, impl.MaxBytes, impl.MaxBytes + 1} {
		if got := impl.Seal(strings.Repeat("a", size)); got != "" {
			t.Errorf("Seal of %d bytes: got %d bytes", size, len(got))
		}
	}
}

func TestSealedTextsComeBack(t *testing.T) {
	for _, size := range []int{0, 1, 3, 4, 5, 100, impl.MaxBytes - 5, impl.MaxBytes - 4} {
		text := mixed(uint64(size), size)
		sealed := impl.Seal(text)
		want := text + string(binary.LittleEndian.AppendUint32(nil, crc32.ChecksumIEEE([]byte(text))))
		if sealed != want {
			t.Errorf("Seal of %d bytes: got %d bytes, or others", size, len(sealed))
		}
		wantUnseal(t, sealed, impl.TextOut{Text: text})
	}
}

func TestUnsealOfATurnedByte(t *testing.T) {
	for _, text := range []string{"", "a", "What was written"} {
		sealed := impl.Seal(text)
		for at := range len(sealed) {
			for turn := 1; turn < 256; turn++ {
				other := []byte(sealed)
				other[at] ^= byte(turn)
				wantUnseal(t, string(other), impl.TextOut{Code: impl.ErrSum})
			}
		}
	}
	sealed := impl.Seal(mixed(5, impl.MaxBytes-4))
	for at := 0; at < len(sealed); at += 97 {
		other := []byte(sealed)
		other[at] ^= 16
		wantUnseal(t, string(other), impl.TextOut{Code: impl.ErrSum})
	}
}

func TestUnsealOfWrongLengths(t *testing.T) {
	for _, text := range []string{"", "\x00", "\x00\x00", "\x00\x00\x00", "abc"} {
		wantUnseal(t, text, impl.TextOut{Code: impl.ErrShort})
	}
	wantUnseal(t, "\x00\x00\x00\x00", impl.TextOut{})
	wantUnseal(t, "\x00\x00\x00\x01", impl.TextOut{Code: impl.ErrSum})
	sealed := impl.Seal("abc")
	for size := 4; size < len(sealed); size++ {
		wantUnseal(t, sealed[:size], impl.TextOut{Code: impl.ErrSum})
	}
	wantUnseal(t, sealed+"\x00", impl.TextOut{Code: impl.ErrSum})
	wantUnseal(t, strings.Repeat("a", impl.MaxBytes), impl.TextOut{Code: impl.ErrSum})
	text := mixed(6, impl.MaxBytes-3)
	sum := binary.LittleEndian.AppendUint32(nil, crc32.ChecksumIEEE([]byte(text)))
	wantUnseal(t, text+string(sum), impl.TextOut{Code: impl.ErrSize})
}

// shares tells whether a begins inside the memory of b.
func shares(a, b string) bool {
	at := uintptr(unsafe.Pointer(unsafe.StringData(a)))
	from := uintptr(unsafe.Pointer(unsafe.StringData(b)))
	return at >= from && at < from+uintptr(len(b))
}

func TestBytesAnswersAreNewMemory(t *testing.T) {
	text := mixed(8, 100)
	put, sealed := impl.PutText(text), impl.Seal(text)
	for what, pair := range map[string][2]string{
		"PutText": {put, text},
		"GetText": {impl.GetText(put, 0).Text, put},
		"Seal":    {sealed, text},
		"Unseal":  {impl.Unseal(sealed).Text, sealed},
	} {
		if shares(pair[0], pair[1]) {
			t.Errorf("%s answers with its argument's memory", what)
		}
	}
}
