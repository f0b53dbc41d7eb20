package tests

import (
	"fmt"
	"math"
	"slices"
	"strings"
	"testing"
	"unicode/utf8"

	"loop.example/g00633/impl"
)

// A second reckoning of the chapter. tombBytes reckons of any Tomb, also of a
// wrong one.

func tombBytes(b impl.Tomb) string {
	return "t" + numsBytes(b.Row, b.Field, b.Why, b.At)
}

func isRightTomb(b impl.Tomb) bool {
	return slices.Contains(tombRows(), b.Row) && slices.Contains(tombFields, b.Field) &&
		slices.Contains(tombWhys, b.Why) && 0 <= b.At && b.At <= 1000000
}

var (
	tombFields = []int64{0, 1, 2}
	tombWhys   = []int64{1, 2}
)

func tombRows() []int64 {
	var out []int64
	for row := range int64(64) {
		out = append(out, row)
	}
	return out
}

// timeIn reads one to three bytes that stand for a time and nothing else: each
// has seven bits, and a last one of 0 has none ahead.
func timeIn(bytes string) (at int64, ok bool) {
	last := len(bytes) - 1
	for i := range bytes[:last] {
		if bytes[i] < 128 {
			return 0, false
		}
	}
	if bytes[last] >= 128 || last > 0 && bytes[last] == 0 || last > 2 {
		return 0, false
	}
	doubled := 0
	for i := last; i >= 0; i-- {
		doubled = doubled*128 + int(bytes[i]%128)
	}
	return int64(doubled / 2), doubled%2 == 0 && doubled <= 2000000
}

// tombIn goes byte by byte: all numbers of a right Tomb but its time have one.
func tombIn(text string) impl.TombOut {
	refused := impl.TombOut{Code: impl.ErrSyntax}
	if len(text) > 8000 {
		return impl.TombOut{Code: impl.ErrSize}
	}
	if len(text) < 5 || text[0] != 't' || text[1] > 126 || text[1]%2 != 0 ||
		!strings.Contains("\x00\x02\x04", text[2:3]) || !strings.Contains("\x02\x04", text[3:4]) {
		return refused
	}
	at, ok := timeIn(text[4:])
	if !ok {
		return refused
	}
	return impl.TombOut{Tomb: impl.Tomb{Row: int64(text[1] / 2), Field: int64(text[2] / 2), Why: int64(text[3] / 2), At: at}}
}

func kindIn(text string) int64 {
	if len(text) == 33 && text[0] == 101 {
		return 1
	}
	if tombIn(text).Code == impl.OK {
		return 2
	}
	return 0
}

// wantLeaf holds what is told of any text against the second reckoning.
func wantLeaf(t *testing.T, what, text string) {
	t.Helper()
	if got, want := impl.TombRead(text), tombIn(text); got != want {
		t.Errorf("%s: TombRead(%.40q) is %+v, want %+v", what, text, got, want)
	}
	if got, want := impl.LeafKind(text), kindIn(text); got != want {
		t.Errorf("%s: LeafKind(%.40q) is %d, want %d", what, text, got, want)
	}
}

// wantNoTomb is stricter: not even that of another Tomb.
func wantNoTomb(t *testing.T, what, text string) {
	t.Helper()
	if got := impl.TombRead(text); got != (impl.TombOut{Code: impl.ErrSyntax}) {
		t.Errorf("%s: TombRead(%.40q) is %+v, want ErrSyntax alone", what, text, got)
	}
	if got := impl.LeafKind(text); got != 0 {
		t.Errorf("%s: LeafKind(%.40q) is %d, want 0", what, text, got)
	}
}

func wantTomb(t *testing.T, b impl.Tomb, text string) {
	t.Helper()
	if !impl.TombRight(b) {
		t.Errorf("TombRight(%+v) is false", b)
	}
	wantBytes(t, fmt.Sprintf("%+v", b), impl.TombText(b), text)
	if got := impl.TombRead(text); got != (impl.TombOut{Tomb: b}) {
		t.Errorf("TombRead(%q) is %+v, want %+v", text, got, b)
	}
	if got := impl.LeafKind(text); got != 2 {
		t.Errorf("LeafKind(%q) is %d, want 2", text, got)
	}
}

// tombTimes: the edges of their bytes. Two bytes of 8225 and of 8226 are one
// rune, as UTF-8 (U+0080, and U+0100, whose lowest byte is 0), those of 8192 none.
func tombTimes() []int64 {
	return append(rightTimes(), 2, 5, 57, 58, 65, 127, 128, 4095, 4096, 8193, 8225, 8226, 8257, 16383, 16384, 12345, 65535, 65536, 123456, 500000, 999997)
}

// someTombs: few, of times of one, two and three bytes.
func someTombs() []impl.Tomb {
	return []impl.Tomb{
		{Row: 0, Field: 0, Why: 1, At: 0},
		{Row: 1, Field: 2, Why: 2, At: 5},
		{Row: 58, Field: 1, Why: 1, At: 58},
		{Row: 63, Field: 2, Why: 2, At: 8191},
		{Row: 50, Field: 0, Why: 2, At: 64},
		{Row: 7, Field: 1, Why: 2, At: 8225},
		{Row: 63, Field: 2, Why: 1, At: impl.MaxTime},
	}
}

func allTombs() []impl.Tomb {
	var out []impl.Tomb
	for _, row := range tombRows() {
		for _, field := range tombFields {
			for _, why := range tombWhys {
				for _, at := range tombTimes() {
					out = append(out, impl.Tomb{Row: row, Field: field, Why: why, At: at})
				}
			}
		}
	}
	return out
}

func TestLeafConstants(t *testing.T) {
	if impl.WhAsked != 1 || impl.WhRule != 2 {
		t.Errorf("WhAsked %d, WhRule %d, want 1, 2", impl.WhAsked, impl.WhRule)
	}
}

func TestKnownTombs(t *testing.T) {
	for text, b := range map[string]impl.Tomb{
		"7400000200":     {Row: 0, Field: 0, Why: impl.WhAsked, At: 0},
		"740204040a":     {Row: 1, Field: 2, Why: impl.WhRule, At: 5},
		"747e00027e":     {Row: 63, Field: 0, Why: impl.WhAsked, At: 63},
		"740e02028001":   {Row: 7, Field: 1, Why: impl.WhAsked, At: 64},
		"74740204fe3f":   {Row: 58, Field: 1, Why: impl.WhRule, At: 4095},
		"743e0204fe7f":   {Row: 31, Field: 1, Why: impl.WhRule, At: 8191},
		"74400402808001": {Row: 32, Field: 2, Why: impl.WhAsked, At: 8192},
		"74140004828001": {Row: 10, Field: 0, Why: impl.WhRule, At: 8193},
		"74000402c28001": {Row: 0, Field: 2, Why: impl.WhAsked, At: 8225},
		"74680002fe887a": {Row: 52, Field: 0, Why: impl.WhAsked, At: 999999},
		"747e040480897a": {Row: 63, Field: 2, Why: impl.WhRule, At: 1000000},
	} {
		wantTomb(t, b, unhex(t, text))
	}
}

// Each number at its edges, with right and wrong others beside it; some of the
// wrong ones are right when they are cut to fewer bits.
func TestTombRight(t *testing.T) {
	rows := []int64{-1, 0, 1, 62, 63, 64, 65, 127, 128, 256, 1 << 32, 1<<32 + 1, math.MinInt64, math.MaxInt64}
	fields := []int64{-1, 0, 1, impl.MaxFields - 1, impl.MaxFields, 4, 63, 256, 1 << 32, math.MinInt64, math.MaxInt64}
	whys := []int64{-2, -1, 0, 1, 2, 3, 4, 257, 1<<32 + 1, 1<<32 + 2, math.MinInt64, math.MinInt64 + 1, math.MaxInt64}
	for _, row := range rows {
		for _, field := range fields {
			for _, why := range whys {
				for _, at := range append(rightTimes(), wrongTimes()...) {
					wantRightOrNot(t, impl.Tomb{Row: row, Field: field, Why: why, At: at})
				}
			}
		}
	}
}

func wantRightOrNot(t *testing.T, b impl.Tomb) {
	t.Helper()
	right := isRightTomb(b)
	if got := impl.TombRight(b); got != right {
		t.Errorf("TombRight(%+v) is %v", b, got)
	}
	if right {
		wantTomb(t, b, tombBytes(b))
		return
	}
	wantBytes(t, fmt.Sprintf("%+v", b), impl.TombText(b), "")
	wantNoTomb(t, "of a wrong Tomb", tombBytes(b))
}

// What is right, number by number, as the document has it.
func TestTombRightByHand(t *testing.T) {
	for b, want := range map[impl.Tomb]bool{
		{}:                                false,
		{Row: 0, Field: 0, Why: 1, At: 0}: true,
		{Row: 63, Field: 2, Why: 2, At: impl.MaxTime}:  true,
		{Row: -1, Field: 0, Why: 1, At: 0}:             false,
		{Row: 64, Field: 0, Why: 1, At: 0}:             false,
		{Row: 0, Field: -1, Why: 1, At: 0}:             false,
		{Row: 0, Field: impl.MaxFields, Why: 1, At: 0}: false,
		{Row: 0, Field: 0, Why: 0, At: 0}:              false,
		{Row: 0, Field: 0, Why: 3, At: 0}:              false,
		{Row: 0, Field: 0, Why: -1, At: 0}:             false,
		{Row: 0, Field: 0, Why: 1, At: -1}:             false,
		{Row: 0, Field: 0, Why: 1, At: 1000001}:        false,
	} {
		if got := impl.TombRight(b); got != want {
			t.Errorf("TombRight(%+v) is %v", b, got)
		}
		if got := impl.TombText(b) != ""; got != want {
			t.Errorf("TombText(%+v) is %q", b, impl.TombText(b))
		}
	}
}

// Promise 12.

func TestTombsComeBack(t *testing.T) {
	of := make(map[string]impl.Tomb)
	for _, b := range allTombs() {
		wantTomb(t, b, tombBytes(b))
		text := impl.TombText(b)
		if other, ok := of[text]; ok && other != b {
			t.Errorf("%+v and %+v have one text %q", b, other, text)
		}
		of[text] = b
	}
	distinct := len(tombRows()) * len(tombFields) * len(tombWhys) * len(tombTimes())
	if len(of) != distinct {
		t.Errorf("%d texts of %d Tombs", len(of), distinct)
	}
}

func TestTombsOfAllTimesComeBack(t *testing.T) {
	for at := range int64(impl.MaxTime + 1) {
		b := impl.Tomb{Row: at % 64, Field: at % 3, Why: at%2 + 1, At: at}
		if got := impl.TombRead(impl.TombText(b)); got != (impl.TombOut{Tomb: b}) {
			t.Fatalf("of %+v comes back %+v", b, got)
		}
	}
}

func TestRowLeavesAreNoTombs(t *testing.T) {
	for _, r := range rightRows() {
		for _, less := range partlyGone(r) {
			leaf := impl.RowLeaf(less)
			if got := impl.LeafKind(leaf); got != 1 {
				t.Errorf("LeafKind of %s is %d, want 1", asText(less), got)
			}
			if got := impl.TombRead(leaf); got != (impl.TombOut{Code: impl.ErrSyntax}) {
				t.Errorf("TombRead of the leaf of %s is %+v", asText(less), got)
			}
		}
	}
	for _, r := range wrongRows() {
		wantNoTomb(t, "the leaf of a wrong row", impl.RowLeaf(r))
	}
}

func TestRowLeavesAndTombsAreUnlike(t *testing.T) {
	for _, b := range allTombs() {
		text := impl.TombText(b)
		if len(text) < 5 || len(text) > 7 || text[0] == impl.RowLeaf(rightRows()[0])[0] {
			t.Fatalf("of %+v there is %q", b, text)
		}
	}
}

// wantOwnOrRefused: whatever is read is what the second reckoning reads, and its
// text is the one that was read.
func wantOwnOrRefused(t *testing.T, what, text string) {
	t.Helper()
	wantLeaf(t, what, text)
	if got := impl.TombRead(text); got.Code == impl.OK {
		if !impl.TombRight(got.Tomb) || impl.TombText(got.Tomb) != text {
			t.Errorf("%s: of %q there is %+v, whose text it is not", what, text, got.Tomb)
		}
	}
}

func TestTombReadOfTurnedBytes(t *testing.T) {
	others := 0
	for _, b := range someTombs() {
		text := tombBytes(b)
		for at := range len(text) {
			for with := range 256 {
				other := text[:at] + string([]byte{byte(with)}) + text[at+1:]
				wantOwnOrRefused(t, "a byte turned", other)
				got := impl.TombRead(other)
				if other != text && got.Code == impl.OK && got.Tomb == b {
					t.Errorf("%q and %q are both of %+v", text, other, b)
				}
				if other != text && got.Code == impl.OK {
					others++
				}
			}
		}
	}
	if others == 0 {
		t.Error("no turned byte leads to another Tomb: the test looks at nothing")
	}
}

func TestTombReadOfTwoTurnedBytes(t *testing.T) {
	text := tombBytes(impl.Tomb{Row: 7, Field: 1, Why: 2, At: 8225})
	for at := range len(text) - 1 {
		for with := range 1 << 16 {
			wantOwnOrRefused(t, "two bytes turned", text[:at]+string([]byte{byte(with), byte(with >> 8)})+text[at+2:])
		}
	}
}

func TestTombReadOfFewerBytes(t *testing.T) {
	for _, b := range someTombs() {
		text := tombBytes(b)
		for size := range len(text) {
			wantNoTomb(t, "the end lacks", text[:size])
			wantNoTomb(t, "the beginning lacks", text[len(text)-size:])
		}
		for at := range len(text) {
			wantOwnOrRefused(t, "one byte lacks", text[:at]+text[at+1:])
		}
	}
}

func TestTombReadOfMoreBytes(t *testing.T) {
	for _, b := range someTombs() {
		text := tombBytes(b)
		for with := range 256 {
			one := string([]byte{byte(with)})
			wantNoTomb(t, "one more behind", text+one)
			for at := range len(text) {
				wantOwnOrRefused(t, "one more within", text[:at]+one+text[at:])
			}
		}
		for _, other := range someTombs() {
			wantNoTomb(t, "two Tombs", text+tombBytes(other))
			wantNoTomb(t, "another's numbers behind", text+tombBytes(other)[1:])
		}
		wantNoTomb(t, "two marks", "t"+text)
		wantNoTomb(t, "a mark behind", text+"t")
		wantNoTomb(t, "sealed", sealedBy(text))
		wantNoTomb(t, "with its length", textsBytes(text))
	}
}

// otherWays has bytes that stand for n in another way than PutNum's.
func otherWays(n int64) []string {
	right := numsBytes(n)
	last := len(right) - 1
	long := right[:last] + string([]byte{right[last] | 128})
	out := []string{long, right + "\x00"}
	for more := 0; len(long)+more < 13; more++ {
		out = append(out, long+strings.Repeat("\x80", more)+"\x00")
	}
	// The bits beyond 64 would be lost.
	tenth := long + strings.Repeat("\x80", 9-len(long))
	return append(out, tenth+"\x01", tenth+"\x02", tenth+"\x04", tenth+"\x7e", tenth+"\x80\x01", tenth+"\x80\x02")
}

func TestTombReadOfOtherNumbers(t *testing.T) {
	for _, b := range someTombs() {
		nums := []int64{b.Row, b.Field, b.Why, b.At}
		for which, n := range nums {
			ahead, behind := "t"+numsBytes(nums[:which]...), numsBytes(nums[which+1:]...)
			wantTomb(t, b, ahead+numsBytes(n)+behind)
			for _, way := range otherWays(n) {
				wantNoTomb(t, "a number in other bytes", ahead+way+behind)
			}
			for _, other := range edgeNums() {
				wantOwnOrRefused(t, "another number", ahead+numsBytes(other)+behind)
			}
			wantNoTomb(t, "no such number", ahead+behind)
			wantNoTomb(t, "as a text", ahead+textsBytes(numsBytes(n))+behind)
		}
		wantNoTomb(t, "five numbers", "t"+numsBytes(append(nums, 0)...))
		wantNoTomb(t, "three numbers", "t"+numsBytes(nums[:3]...))
		wantNoTomb(t, "one more ahead", "t"+numsBytes(append([]int64{0}, nums...)...))
		wantNoTomb(t, "numbers as bytes", "t"+string([]byte{byte(b.Row), byte(b.Field), byte(b.Why), 1}))
	}
}

func TestTombReadOfNumbersInAnotherOrder(t *testing.T) {
	nums := []int64{9, 0, 1, 77}
	for _, order := range orders(4) {
		text := "t"
		for _, which := range order {
			text += numsBytes(nums[which])
		}
		wantOwnOrRefused(t, "in another order", text)
	}
	wantTomb(t, impl.Tomb{Row: 9, Field: 0, Why: 1, At: 77}, "t"+numsBytes(nums...))
}

func TestTombReadOfAllShortTexts(t *testing.T) {
	wantNoTomb(t, "nothing", "")
	for n := range 1 << 16 {
		two := string([]byte{byte(n), byte(n >> 8)})
		wantNoTomb(t, "one byte", two[:1])
		wantNoTomb(t, "two bytes", two)
		wantNoTomb(t, "three bytes", "t"+two)
		wantNoTomb(t, "four bytes", "t\x02"+two)
		wantOwnOrRefused(t, "five bytes", "t\x02\x04"+two)
		wantOwnOrRefused(t, "five bytes, two of them within", "t"+two+"\x04\x0a")
		wantOwnOrRefused(t, "six bytes", "t\x02\x04\x02"+two)
		wantOwnOrRefused(t, "seven bytes", "t\x02\x04\x02"+two+"\x01")
	}
}

// noLowBytes: runes of several bytes, the one that stands for what is no UTF-8,
// some whose lowest byte is a mark's or a number's, and bytes that are no UTF-8.
func noLowBytes() []string {
	return []string{
		"\u00e4", "\u20ac", "\U0001f600", "\ufffd", "\u0080", "\u07ff", "\u0800", "\U0010ffff",
		"\u0174", "\u0165", "\u0102", "\u0202", "\u0400", "\u0104", "\U00010074",
		"\x80", "\xbf", "\xc0", "\xc1", "\xc2", "\xe4", "\xf0", "\xf4", "\xf5", "\xff", "\x80\x80", "\xff\xff", "\xc3\xc3",
		"\xc0\x80", "\xc1\xb4", "\xed\xa0\x80", "\xe2\x82", "\xf0\x9f\x98", "\xf4\x90\x80\x80",
		strings.Repeat("\x80", 9), strings.Repeat("\xff", 10), strings.Repeat("\u00e4", 5), strings.Repeat("\x80", 20),
	}
}

func TestTombReadOfBytesThatAreNoUTF8(t *testing.T) {
	for _, b := range someTombs() {
		text := tombBytes(b)
		for _, bytes := range noLowBytes() {
			for at := range len(text) {
				wantOwnOrRefused(t, "put in", text[:at]+bytes+text[at:])
				wantOwnOrRefused(t, "in place of one", text[:at]+bytes+text[at+1:])
			}
			wantNoTomb(t, "behind", text+bytes)
			wantNoTomb(t, "alone", bytes)
			wantNoTomb(t, "behind the mark", "t"+bytes)
			wantNoTomb(t, "in place of the mark", bytes+text[1:])
			wantNoTomb(t, "five of them", strings.Repeat(bytes, 5))
		}
	}
}

// All times of three bytes whose first two are, as UTF-8, one rune, two, or none.
func TestTombsWhoseTimeIsNoText(t *testing.T) {
	runes, none := 0, 0
	for first := 128; first < 256; first += 2 {
		for second := 128; second < 256; second++ {
			for last := 1; last < 123; last += 11 {
				bytes := string([]byte{byte(first), byte(second), byte(last)})
				wantOwnOrRefused(t, "a time of three bytes", "t\x02\x04\x02"+bytes)
				if utf8.ValidString(bytes) {
					runes++
				} else {
					none++
				}
			}
		}
	}
	if runes == 0 || none == 0 {
		t.Errorf("%d are texts, %d are none", runes, none)
	}
}

func wantKind(t *testing.T, what, text string, want int64) {
	t.Helper()
	if got := impl.LeafKind(text); got != want {
		t.Errorf("%s: LeafKind(%.60q) is %d, want %d", what, text, got, want)
	}
}

func TestLeafKindOfLengths(t *testing.T) {
	for size := range 100 {
		var want int64
		if size == 33 {
			want = 1
		}
		for _, fill := range []string{"\x00", "e", "t", "1", "\x80", "\xff"} {
			wantKind(t, "alike bytes behind an e", ("e" + strings.Repeat(fill, size+1))[:size], want)
		}
		wantKind(t, "mixed bytes behind an e", ("e" + mixed(3, size+1))[:size], want)
	}
}

func TestLeafKindOfFirstBytes(t *testing.T) {
	for first := range 256 {
		var want int64
		if first == 101 {
			want = 1
		}
		one := string([]byte{byte(first)})
		for seed := range uint64(10) {
			wantKind(t, "a digest behind", one+mixed(seed, 32), want)
			wantKind(t, "a digest behind, one byte lacks", one+mixed(seed, 31), 0)
			wantKind(t, "a digest behind, and one byte", one+mixed(seed, 33), 0)
		}
		wantKind(t, "alone", one, 0)
		wantKind(t, "33 times", strings.Repeat(one, 33), want)
	}
}

// Bytes are counted, not runes, and no rune's low byte stands for a mark.
func TestLeafKindCountsBytes(t *testing.T) {
	wantKind(t, "33 bytes, 17 runes", "e"+strings.Repeat("\u00e4", 16), 1)
	wantKind(t, "33 bytes, 9 runes", "e"+strings.Repeat("\U0001f600", 8), 1)
	wantKind(t, "65 bytes, 33 runes", "e"+strings.Repeat("\u00e4", 32), 0)
	wantKind(t, "34 bytes, 33 runes", "e"+strings.Repeat("a", 31)+"\u00e4", 0)
	wantKind(t, "U+0165 and 31 bytes", "\u0165"+strings.Repeat("a", 31), 0)
	wantKind(t, "U+0165 and 32 bytes", "\u0165"+strings.Repeat("a", 32), 0)
	wantKind(t, "U+0174 and numbers", "\u0174\x02\x04\x04\x0a", 0)
	for _, bytes := range noLowBytes() {
		for at := range 33 {
			text := ("e" + strings.Repeat("a", at) + bytes + strings.Repeat("a", 33))[:33]
			wantKind(t, "of 33 bytes", text, 1)
			wantKind(t, "of 34 bytes", text+"a", 0)
			wantKind(t, "of 32 bytes", text[:32], 0)
			wantKind(t, "ahead of the e", (bytes + text)[:33], 0)
		}
	}
}

func TestLeafKindOfMarksAlone(t *testing.T) {
	for _, text := range []string{"", "e", "t", "x", "E", "T", "et", "te", "tomb", "t\x00", "t\x02\x04\x04", "t12345", "T\x02\x04\x04\x0a", "e\x02\x04\x04\x0a",
		"t" + mixed(1, 32), "t" + strings.Repeat("\x02", 32), "t" + strings.Repeat("\x80", 32), "x" + mixed(1, 32), mixed(1, 32), "E" + mixed(1, 32)} {
		wantNoTomb(t, "no leaf", text)
	}
}

func TestLeafSizes(t *testing.T) {
	tomb, leaf := tombBytes(someTombs()[1]), impl.RowLeaf(rightRows()[0])
	for _, begin := range []string{"", tomb, leaf, "t", "e", strings.Repeat(tomb, 50), "\x80", "t\x80"} {
		for _, fill := range []string{"\x00", "\x02", "t", "e", "\x80", "\xff", "\u00e4", "\U0001f600"} {
			text := begin + strings.Repeat(fill, impl.MaxBytes+1)
			for _, size := range []int{1000, impl.MaxBytes - 1, impl.MaxBytes} {
				wantNoTomb(t, "a long one", text[:size])
			}
			for _, size := range []int{impl.MaxBytes + 1, len(text)} {
				if got := impl.TombRead(text[:size]); got != (impl.TombOut{Code: impl.ErrSize}) {
					t.Errorf("TombRead of %d bytes is %+v, want ErrSize alone", size, got)
				}
				wantKind(t, "one too long", text[:size], 0)
			}
		}
	}
}

func TestTombsHaveNoMemory(t *testing.T) {
	tell := func() string {
		var out []any
		for _, b := range someTombs() {
			text := impl.TombText(b)
			out = append(out, impl.TombRight(b), text, impl.TombRead(text), impl.LeafKind(text), impl.TombRead("t"))
		}
		return fmt.Sprint(out...)
	}
	before := tell()
	for _, b := range allTombs() {
		impl.TombRead(impl.TombText(b))
		impl.LeafKind(impl.TombText(impl.Tomb{Row: b.Row}))
	}
	wantBytes(t, "the same again", tell(), before)
}
