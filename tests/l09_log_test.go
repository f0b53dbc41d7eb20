package tests

import (
	"fmt"
	"maps"
	"math"
	"slices"
	"strings"
	"testing"

	"loop.example/g00633/impl"
)

// A second reckoning of the chapter, by that of the chapters ahead of it.

type fieldPlace struct {
	row, field int64
}

// isRightLog counts, for each Field, how many Tombs it lacks.
func isRightLog(l impl.Log) bool {
	right := 0 <= l.Now && l.Now <= 1000000 && len(l.Rows) < 7
	var rows, met []string
	lacks := map[fieldPlace]int{}
	for i, r := range l.Rows {
		right = right && isRightRow(r) && r.At <= l.Now
		rows = append(rows, leafIn(r))
		for j, f := range r.Fields {
			if f.Gone {
				lacks[fieldPlace{int64(i), int64(j)}]++
			}
		}
	}
	for _, leaf := range l.Leaves {
		if kindIn(leaf) == 1 {
			met = append(met, leaf)
			continue
		}
		b := tombIn(leaf)
		right = right && b.Code == impl.OK && b.Tomb.Row < int64(len(met)) && b.Tomb.At <= l.Now
		lacks[fieldPlace{b.Tomb.Row, b.Tomb.Field}]--
	}
	for _, count := range lacks {
		right = right && count == 0
	}
	return right && slices.Equal(met, rows)
}

func withRow(l impl.Log, r impl.Row) impl.Log {
	return impl.Log{Rows: append(slices.Clone(l.Rows), r), Leaves: withLeaf(l, leafIn(r)), Now: l.Now}
}

func withLeaf(l impl.Log, leaf string) []string {
	return append(slices.Clone(l.Leaves), leaf)
}

func withLeaves(l impl.Log, leaves ...string) impl.Log {
	return impl.Log{Rows: l.Rows, Leaves: leaves, Now: l.Now}
}

func withRows(l impl.Log, rows ...impl.Row) impl.Log {
	return impl.Log{Rows: rows, Leaves: l.Leaves, Now: l.Now}
}

func atTime(l impl.Log, now int64) impl.Log {
	return impl.Log{Rows: l.Rows, Leaves: l.Leaves, Now: now}
}

// withGone has a Field forgotten, and its Tomb behind all.
func withGone(l impl.Log, row, field int, why int64) impl.Log {
	rows := slices.Clone(l.Rows)
	rows[row] = forgotIn(rows[row], field)
	return impl.Log{Rows: rows, Leaves: withLeaf(l, tombOf(row, field, why, l.Now)), Now: l.Now}
}

func tombOf(row, field int, why, at int64) string {
	return tombBytes(impl.Tomb{Row: int64(row), Field: int64(field), Why: why, At: at})
}

func addIn(l impl.Log, r impl.Row) impl.LogOut {
	gone := slices.ContainsFunc(r.Fields, func(f impl.Field) bool { return f.Gone })
	if !isRightLog(l) || !isRightRow(r) || gone || r.At != l.Now {
		return impl.LogOut{Code: impl.ErrForm}
	}
	if len(l.Rows) == 6 {
		return impl.LogOut{Code: impl.ErrFull}
	}
	return impl.LogOut{Log: withRow(l, r)}
}

func forgetIn(l impl.Log, row, field, why int64) impl.LogOut {
	if !isRightLog(l) || why != 1 && why != 2 {
		return impl.LogOut{Code: impl.ErrForm}
	}
	switch statusIn(l, row, field) {
	case impl.StNone:
		return impl.LogOut{Code: impl.ErrNone}
	case impl.StErased:
		return impl.LogOut{Code: impl.ErrThere}
	}
	return impl.LogOut{Log: withGone(l, int(row), int(field), why)}
}

func laterIn(l impl.Log, now int64) impl.LogOut {
	if !isRightLog(l) || now < 0 || now > 1000000 {
		return impl.LogOut{Code: impl.ErrForm}
	}
	return impl.LogOut{Log: atTime(l, max(l.Now, now))}
}

func statusIn(l impl.Log, row, field int64) int64 {
	if !isRightLog(l) || row < 0 || row >= int64(len(l.Rows)) || field < 0 || field >= int64(len(l.Rows[row].Fields)) {
		return 0
	}
	if l.Rows[row].Fields[field].Gone {
		return 2
	}
	return 1
}

// placeIn: leaves of rows come in the order of the rows.
func placeIn(l impl.Log, row int64) int64 {
	if !isRightLog(l) {
		return -1
	}
	for place, leaf := range l.Leaves {
		if kindIn(leaf) == 1 {
			row--
		}
		if row == -1 && kindIn(leaf) == 1 {
			return int64(place)
		}
	}
	return -1
}

func tombPlaceIn(l impl.Log, row, field int64) int64 {
	if !isRightLog(l) {
		return -1
	}
	return int64(slices.IndexFunc(l.Leaves, func(leaf string) bool {
		b := tombIn(leaf)
		return b.Code == impl.OK && b.Tomb.Row == row && b.Tomb.Field == field
	}))
}

func rootIn(l impl.Log, size int64) string {
	if !isRightLog(l) || size < 0 || size > int64(len(l.Leaves)) {
		return ""
	}
	return levelsRoot(l.Leaves[:size])
}

func headIn(l impl.Log) string {
	if !isRightLog(l) {
		return ""
	}
	return numsBytes(int64(len(l.Leaves))) + textsBytes(levelsRoot(l.Leaves))
}

func proofIn(l impl.Log, index int64) impl.Proof {
	if !isRightLog(l) || index < 0 || index >= int64(len(l.Leaves)) {
		return impl.Proof{}
	}
	return impl.Proof{Leaf: l.Leaves[index], Index: index, Size: int64(len(l.Leaves)), Path: levelsPath(l.Leaves, int(index))}
}

func extendIn(l impl.Log, old int64) []string {
	if !isRightLog(l) || old < 1 || old > int64(len(l.Leaves)) {
		return nil
	}
	return proofFrom(l.Leaves, int(old), true)
}

// goodIn goes up as RFC 9162 does.
func goodIn(p impl.Proof, root string) bool {
	if len(p.Leaf) > 100 || p.Index < 0 || p.Index >= p.Size || len(p.Path) > 63 {
		return false
	}
	for _, text := range p.Path {
		if len(text) != 32 {
			return false
		}
	}
	made, ok := climbed(leafOf(p.Leaf), p.Index, p.Size, p.Path)
	return ok && made == root
}

func sameLog(a, b impl.Log) bool {
	return a.Now == b.Now && slices.Equal(a.Leaves, b.Leaves) && slices.EqualFunc(a.Rows, b.Rows, sameRow)
}

func sameProof(a, b impl.Proof) bool {
	return a.Leaf == b.Leaf && a.Index == b.Index && a.Size == b.Size && slices.Equal(a.Path, b.Path)
}

func wantLog(t *testing.T, what string, got, want impl.LogOut) {
	t.Helper()
	if got.Code != want.Code || !sameLog(got.Log, want.Log) {
		t.Errorf("%s: got code %d and %s, want %d and %s", what, got.Code, asText(got.Log), want.Code, asText(want.Log))
	}
}

func wantLogCode(t *testing.T, what string, got impl.LogOut, code int64) {
	t.Helper()
	wantLog(t, what, got, impl.LogOut{Code: code})
}

func wantNumber(t *testing.T, what string, got, want int64) {
	t.Helper()
	if got != want {
		t.Errorf("%s: got %d, want %d", what, got, want)
	}
}

func wantProof(t *testing.T, what string, got, want impl.Proof) {
	t.Helper()
	if !sameProof(got, want) {
		t.Errorf("%s: got %s, want %s", what, asText(got), asText(want))
	}
}

func wantGood(t *testing.T, what string, p impl.Proof, root string, want bool) {
	t.Helper()
	if got := impl.ProofGood(p, root); got != want {
		t.Errorf("%s: ProofGood of a Leaf of %d bytes at %d of %d by a Path of %d in a root of %d bytes: got %t",
			what, len(p.Leaf), p.Index, p.Size, len(p.Path), len(root), got)
	}
}

func wantLogRight(t *testing.T, what string, l impl.Log, want bool) {
	t.Helper()
	if got := impl.LogRight(l); got != want {
		t.Errorf("%s: LogRight is %t of %s", what, got, asText(l))
	}
}

// Numbers around how many there are; some are right ones when they are cut to
// fewer bits.
func around(count int) []int64 {
	n := int64(count)
	return []int64{-1, 0, 1, n - 1, n, n + 1, -n, n + 256, 1 << 32, 1<<32 + n, math.MinInt64, math.MinInt64 + 1, math.MaxInt64}
}

func logRows() []int64 {
	return append(around(impl.MaxRows), 2, 3, 4, 63, 64)
}

func logFields() []int64 {
	return append(around(impl.MaxFields), 63)
}

func wantToldOfFields(t *testing.T, what string, l impl.Log) {
	t.Helper()
	for _, row := range logRows() {
		wantNumber(t, fmt.Sprintf("%s: PlaceOf %d", what, row), impl.PlaceOf(l, row), placeIn(l, row))
		for _, field := range logFields() {
			wantNumber(t, fmt.Sprintf("%s: TombOf %d %d", what, row, field), impl.TombOf(l, row, field), tombPlaceIn(l, row, field))
			wantNumber(t, fmt.Sprintf("%s: StatusOf %d %d", what, row, field), impl.StatusOf(l, row, field), statusIn(l, row, field))
		}
	}
}

func wantToldOfLeaves(t *testing.T, what string, l impl.Log) {
	t.Helper()
	wantBytes(t, what+": HeadText", impl.HeadText(l), headIn(l))
	for _, n := range append(around(len(l.Leaves)), 2, 3, 4, 5, 7) {
		wantBytes(t, fmt.Sprintf("%s: RootOf %d", what, n), impl.RootOf(l, n), rootIn(l, n))
		wantProof(t, fmt.Sprintf("%s: ProofAt %d", what, n), impl.ProofAt(l, n), proofIn(l, n))
		wantTexts(t, fmt.Sprintf("%s: Extend %d", what, n), impl.Extend(l, n), extendIn(l, n))
	}
}

// wantTold holds all that is told of a log against the second reckoning.
func wantTold(t *testing.T, what string, l impl.Log) {
	t.Helper()
	wantLogRight(t, what, l, isRightLog(l))
	wantToldOfFields(t, what, l)
	wantToldOfLeaves(t, what, l)
}

// Calls that are made of a log, by the program and by the second reckoning.
type logCall struct {
	what   string
	do, in func(impl.Log) impl.LogOut
}

func adding(make func(now int64) impl.Row) logCall {
	return logCall{
		what: "LogAdd",
		do:   func(l impl.Log) impl.LogOut { return impl.LogAdd(l, make(l.Now)) },
		in:   func(l impl.Log) impl.LogOut { return addIn(l, make(l.Now)) },
	}
}

func forgetting(row, field, why int64) logCall {
	return logCall{
		what: fmt.Sprintf("LogForget %d %d %d", row, field, why),
		do:   func(l impl.Log) impl.LogOut { return impl.LogForget(l, row, field, why) },
		in:   func(l impl.Log) impl.LogOut { return forgetIn(l, row, field, why) },
	}
}

func timing(make func(now int64) int64) logCall {
	return logCall{
		what: "LogTime",
		do:   func(l impl.Log) impl.LogOut { return impl.LogTime(l, make(l.Now)) },
		in:   func(l impl.Log) impl.LogOut { return laterIn(l, make(l.Now)) },
	}
}

// loggedRow is a right row, of 1 to 3 Fields, by its seed.
func loggedRow(seed uint64, at int64) impl.Row {
	bytes := mixed(seed, 8)
	names := []string{"age", "city", "name"}[:1+int(bytes[0])%3]
	r := impl.Row{Kind: rightNames()[int(bytes[1])%len(rightNames())], At: at}
	for j, name := range names {
		r.Fields = append(r.Fields, fieldIn(name, mixed(seed+uint64(j), 1+int(bytes[2+j])%8), mixed(seed+7, int(bytes[5+j%3])%17)))
	}
	return r
}

// someCalls: most of them are right of most logs, some never are.
func someCalls(seed uint64, count int) []logCall {
	var out []logCall
	bytes := mixed(seed, 5*count)
	for i := range count {
		b := bytes[5*i : 5*i+5]
		shift := []int64{0, 0, 0, 1, -1}[int(b[1])%5]
		gone := b[2]%8 == 0
		adds := adding(func(now int64) impl.Row {
			r := loggedRow(uint64(b[3])*256+uint64(b[4]), now+shift)
			if gone {
				return forgotIn(r, 0)
			}
			return r
		})
		forgets := forgetting(int64(b[1]%8)-1, int64(b[2]%5)-1, []int64{1, 2, 1, 2, 1, 2, 0, 3}[b[3]%8])
		times := timing(func(now int64) int64 { return now + []int64{0, 1, 2, 7, 100, -1, -5, impl.MaxTime + 1}[b[1]%8] })
		out = append(out, []logCall{adds, adds, adds, forgets, forgets, forgets, forgets, times}[b[0]%8])
	}
	return out
}

// aHistory has the logs that calls made, by the second reckoning, the empty one
// first.
func aHistory(calls []logCall) []impl.Log {
	logs := []impl.Log{{}}
	for _, call := range calls {
		if out := call.in(logs[len(logs)-1]); out.Code == impl.OK {
			logs = append(logs, out.Log)
		}
	}
	return logs
}

func someHistories() [][]impl.Log {
	var out [][]impl.Log
	for seed := range uint64(8) {
		out = append(out, aHistory(someCalls(seed, 60)))
	}
	return out
}

// fullHistory fills the log, and then forgets all of it, the last row first.
func fullHistory() []impl.Log {
	var calls []logCall
	for i := range uint64(impl.MaxRows) {
		calls = append(calls, adding(func(now int64) impl.Row {
			salts := []string{mixed(i, 8), mixed(i+50, 1), mixed(i+90, 4)}
			return rowIn("user", now, fieldIn("age", salts[0], "42"), fieldIn("city", salts[1], ""), fieldIn("name", salts[2], mixed(i, 16)))
		}), timing(func(now int64) int64 { return now + 3 }))
	}
	for row := int64(impl.MaxRows - 1); row >= 0; row-- {
		for field := range int64(impl.MaxFields) {
			calls = append(calls, forgetting(row, field, 1+(row+field)%2))
		}
	}
	return aHistory(calls)
}

// baseLog has Rows of 3, 2 and 1 Fields, of which the Fields 0 of the first and 1
// of the second are there, and the Leaves A, T01, B, T02, T10, C, T20.
func baseLog() impl.Log {
	a := rowIn("user", 3, fieldIn("age", "s", "42"), fieldIn("city", "salt", "rome"), fieldIn("name", "t", "ann"))
	b := rowIn("note", 5, fieldIn("text", "saltsalt", "hi"), fieldIn("when", "u", ""))
	c := rowIn("user", 9, fieldIn("name", "w", "bob"))
	l := withGone(withRow(impl.Log{Now: 3}, a), 0, 1, 1)
	l = withGone(withGone(withRow(atTime(l, 5), b), 0, 2, 2), 1, 0, 1)
	return atTime(withGone(withRow(atTime(l, 9), c), 2, 0, 2), 12)
}

func TestLogConstants(t *testing.T) {
	if impl.MaxRows != 6 || impl.StNone != 0 || impl.StPresent != 1 || impl.StErased != 2 {
		t.Error("a constant is not the document's")
	}
}

// The digests are reckoned by another program.
func TestKnownLog(t *testing.T) {
	user := impl.RowOf("user", 3, []string{"age", "name"}, []string{"s", "t"}, []string{"42", "ann"}).Row
	note := impl.RowOf("note", 70, []string{"text"}, []string{"salt"}, []string{"hi"}).Row
	l := impl.LogAdd(impl.LogTime(impl.Log{}, 3).Log, user).Log
	l = impl.LogForget(l, 0, 1, impl.WhAsked).Log
	l = impl.LogAdd(impl.LogTime(l, 70).Log, note).Log
	l = impl.LogForget(impl.LogTime(l, 9000).Log, 0, 0, impl.WhRule).Log
	l = impl.LogForget(l, 1, 0, impl.WhAsked).Log
	var leaves []string
	for _, leaf := range []string{
		"65f92c00bc68ef247e4ec92c6b50a25d400d1f374c76341b1964dc7ef337aecdd9", "7400020206",
		"6543dff1fa11e38dca47105dfb11309bd8b475c7dce03f27ebdd95b667d25abf71", "74000004d08c01", "74020002d08c01",
	} {
		leaves = append(leaves, unhex(t, leaf))
	}
	wantLog(t, "the log", impl.LogOut{Log: l}, impl.LogOut{Log: impl.Log{
		Rows: []impl.Row{forgotIn(user, 0, 1), forgotIn(note, 0)}, Leaves: leaves, Now: 9000}})
	for size, root := range []string{
		"e3b0c44298fc1c149afbf4c8996fb92427ae41e4649b934ca495991b7852b855", "af057450a79b38bddf0b9c2dc1e671434a83ba7fc757167e6a6b00bb46a3ee6e",
		"aa6d5a8f51b892b13f3326f45009b83e8b928e6f25025637c59abf11f8ce6c6d", "8264ddd14f4d3e9c6387f5bd8776598fa4d250aa1770ddf8e197eae9d2f04be1",
		"495e2f2d5b3bb5c960cbd519db82d08bf922b45e94997cd92a2b004c133049d3", "c57e1719bb33362d4454aa406a67e84508264c56984be17c60c3aab9709921d2",
	} {
		wantBytes(t, "a root", impl.RootOf(l, int64(size)), unhex(t, root))
	}
	for index, path := range []string{
		"08f420e7ae47be2fcd6e0993e924ba2d4b43afccbddedfc0ed24586dc6d967e6", "5f8337a515312c8178c8f823183699260d6d7b734f3995cc58e7643246f27410",
		"a0783e20635d6aee1b8b579bd186d95af5aa347b83d4299ef50b89f49c7753d2", "5c0bd1c5de76544020676bcb87e1488e8be3eb0094f33f6cf00b294a63cdc182",
		"a3c93d2048ff3c61e2ef337641655942ecff9a8424dd6c8e5439564dd0a254ac",
	} {
		p := impl.ProofAt(l, int64(index))
		wantBytes(t, "a path's digest", sha(strings.Join(p.Path, "")), unhex(t, path))
		wantBytes(t, "a leaf", p.Leaf, leaves[index])
		if p.Index != int64(index) || p.Size != 5 {
			t.Errorf("the proof of %d is at %d of %d", index, p.Index, p.Size)
		}
	}
	for old, proof := range map[int64]string{
		1: "08f420e7ae47be2fcd6e0993e924ba2d4b43afccbddedfc0ed24586dc6d967e6", 2: "e2909aeacec6955cf28bbc9469a0e74e509e43f30aefdacf9941f7d8f8aee0f3",
		3: "8b2c1ab269ed6411c5bcf70aa63144eea0bacb09930c57a4572e2321c8bee4d7", 4: "fa9a9d80feb8fdae1300253621701633178a98f267f319ff0f0b95827f7f7aea",
		5: "e3b0c44298fc1c149afbf4c8996fb92427ae41e4649b934ca495991b7852b855",
	} {
		wantBytes(t, "a proof's digest", sha(strings.Join(impl.Extend(l, old), "")), unhex(t, proof))
	}
	wantBytes(t, "the head", impl.HeadText(l), unhex(t, "0a40c57e1719bb33362d4454aa406a67e84508264c56984be17c60c3aab9709921d2"))
	wantBytes(t, "an empty log's head", impl.HeadText(impl.Log{}), unhex(t, "0040e3b0c44298fc1c149afbf4c8996fb92427ae41e4649b934ca495991b7852b855"))
	s := impl.HeadSign(l, "desk", 2)
	wantNumber(t, "the key", s.Key, 2)
	wantBytes(t, "the ends' digest", sha(strings.Join(s.Ends, "")), unhex(t, "201fab5bbbfcb8160e99983f24edc17d99bc4e5b8555c10663d00f77f76a2df9"))
	wantBytes(t, "the path's digest", sha(strings.Join(s.Path, "")), unhex(t, "840d32b3ce8d9cba3861793af0a594f2ddef3aaff21ac8aa84c38e106208db8f"))
}

// What is told of the base, by hand.
func TestToldOfALogByHand(t *testing.T) {
	l := baseLog()
	wantLogRight(t, "the base", l, true)
	for row, place := range map[int64]int64{-1: -1, 0: 0, 1: 2, 2: 5, 3: -1} {
		wantNumber(t, fmt.Sprintf("PlaceOf %d", row), impl.PlaceOf(l, row), place)
	}
	for at, want := range map[fieldPlace][2]int64{
		{0, -1}: {-1, 0}, {0, 0}: {-1, 1}, {0, 1}: {1, 2}, {0, 2}: {3, 2}, {0, 3}: {-1, 0},
		{1, -1}: {-1, 0}, {1, 0}: {4, 2}, {1, 1}: {-1, 1}, {1, 2}: {-1, 0},
		{2, 0}: {6, 2}, {2, 1}: {-1, 0}, {-1, 0}: {-1, 0}, {3, 0}: {-1, 0},
	} {
		wantNumber(t, fmt.Sprintf("TombOf %v", at), impl.TombOf(l, at.row, at.field), want[0])
		wantNumber(t, fmt.Sprintf("StatusOf %v", at), impl.StatusOf(l, at.row, at.field), want[1])
	}
}

func TestToldOfManyLogs(t *testing.T) {
	wantTold(t, "the base", baseLog())
	for _, logs := range append(someHistories(), fullHistory()) {
		for i, l := range logs {
			if i%3 == 0 || i == len(logs)-1 {
				wantTold(t, fmt.Sprintf("log %d", i), l)
			}
		}
	}
}

func TestEmptyLogs(t *testing.T) {
	for _, l := range []impl.Log{{}, {Rows: []impl.Row{}, Leaves: []string{}}, {Now: 1}, {Now: impl.MaxTime}} {
		wantLogRight(t, "an empty log", l, true)
		wantTold(t, "an empty log", l)
		wantBytes(t, "its root", impl.RootOf(l, 0), sha(""))
		wantBytes(t, "its head", impl.HeadText(l), "\x00\x40"+sha(""))
		wantLogCode(t, "nothing to forget", impl.LogForget(l, 0, 0, 1), impl.ErrNone)
		wantLog(t, "the first row", impl.LogAdd(l, loggedRow(1, l.Now)), impl.LogOut{Log: withRow(l, loggedRow(1, l.Now))})
	}
}

// Right logs that the calls alone would not make: no sentence says that times
// rise from leaf to leaf, nor that two rows are unlike.
func TestRightLogsByHand(t *testing.T) {
	one, same := rowIn("user", 5, fieldIn("a", "s", "1"), fieldIn("b", "t", "2")), rowIn("user", 3, fieldIn("a", "s", "1"))
	early := atTime(withRow(withRow(impl.Log{}, one), same), 5)
	wantTold(t, "an earlier row behind a later one", early)
	wantLogRight(t, "an earlier row behind a later one", early, true)
	twice := atTime(withRow(withRow(withRow(impl.Log{}, one), one), one), 5)
	wantLogRight(t, "one row three times", twice, true)
	wantTold(t, "one row three times", twice)
	wantNumber(t, "the second of them", impl.PlaceOf(twice, 1), 1)
	gone := withGone(withGone(withGone(atTime(twice, 9), 1, 0, 1), 2, 1, 2), 0, 0, 1)
	wantLogRight(t, "one row three times, partly forgotten", gone, true)
	wantTold(t, "one row three times, partly forgotten", gone)
	rows := []impl.Row{forgotIn(one, 0, 1)}
	for _, leaves := range [][]string{
		{tombOf(0, 0, 1, 5), tombOf(0, 1, 1, 5)},
		{tombOf(0, 1, 1, 5), tombOf(0, 0, 2, 5)},
		{tombOf(0, 0, 1, 9), tombOf(0, 1, 1, 7)},
		{tombOf(0, 0, 1, 0), tombOf(0, 1, 2, 4)},
	} {
		l := impl.Log{Rows: rows, Leaves: append([]string{leafIn(one)}, leaves...), Now: 9}
		wantLogRight(t, "two Tombs", l, true)
		wantTold(t, "two Tombs", l)
	}
	unknown := rowIn("user", 5, impl.Field{Name: "a", Commit: mixed(1, 32), Gone: true})
	l := impl.Log{Rows: []impl.Row{unknown}, Leaves: []string{leafIn(unknown), tombOf(0, 0, 1, 5)}, Now: 5}
	wantLogRight(t, "a Commit of nobody knows what", l, true)
}

type namedLog struct {
	what string
	log  impl.Log
}

// wrongNows: the base is right at 9 and later.
func wrongNows() []namedLog {
	var out []namedLog
	for _, now := range append(wrongTimes(), 0, 3, 5, 8) {
		out = append(out, namedLog{fmt.Sprintf("Now %d", now), atTime(baseLog(), now)})
	}
	for _, now := range wrongTimes() {
		out = append(out, namedLog{fmt.Sprintf("empty, Now %d", now), impl.Log{Now: now}})
	}
	alone := withRow(impl.Log{}, loggedRow(1, 5))
	tomb := withGone(withRow(impl.Log{Now: 5}, loggedRow(1, 0)), 0, 0, 1)
	return append(out, namedLog{"a row later than Now", atTime(alone, 4)}, namedLog{"a Tomb later than Now", atTime(tomb, 4)},
		namedLog{"a row at MaxTime, Now one less", atTime(withRow(impl.Log{}, loggedRow(1, impl.MaxTime)), impl.MaxTime-1)})
}

// wrongRowLogs: each leaf is what it would be, if the row were right.
func wrongRowLogs() []namedLog {
	var out []namedLog
	for i, r := range wrongRows() {
		leaves := []string{"e" + sha(rowBytes(r))}
		for j, f := range r.Fields {
			if f.Gone {
				leaves = append(leaves, tombOf(0, j, 1, 5))
			}
		}
		rows := []impl.Row{r}
		out = append(out, namedLog{fmt.Sprintf("wrong row %d", i), impl.Log{Rows: rows, Leaves: leaves, Now: impl.MaxTime}},
			namedLog{fmt.Sprintf("wrong row %d, an empty leaf", i), impl.Log{Rows: rows, Leaves: []string{""}, Now: impl.MaxTime}},
			namedLog{fmt.Sprintf("wrong row %d, no leaf", i), impl.Log{Rows: rows, Now: impl.MaxTime}})
	}
	base := baseLog()
	for i, r := range base.Rows {
		wrong := []impl.Row{{}, withFields(r, nil), rowIn("No", r.At, r.Fields...), rowIn(r.Kind, -1, r.Fields...), withField(r, 0, impl.Field{})}
		for _, w := range wrong {
			out = append(out, namedLog{fmt.Sprintf("row %d is wrong", i), withRows(base, slices.Replace(slices.Clone(base.Rows), i, i+1, w)...)})
		}
	}
	return out
}

// wrongCounts: of too many rows, too few, and other ones.
func wrongCounts() []namedLog {
	var seven impl.Log
	for seed := range uint64(impl.MaxRows + 1) {
		seven = withRow(seven, loggedRow(seed, 0))
	}
	base := baseLog()
	a, b, c := base.Rows[0], base.Rows[1], base.Rows[2]
	other := forgotIn(rowIn("user", 9, fieldIn("name", "w", "eve")), 0)
	return []namedLog{
		{"seven rows", seven},
		{"seven rows, six leaves", withLeaves(seven, seven.Leaves[:6]...)},
		{"six rows, seven leaves", withRows(seven, seven.Rows[:6]...)},
		{"seven rows, nothing of the last", impl.Log{Rows: append(slices.Clone(seven.Rows[:6]), impl.Row{}), Leaves: seven.Leaves[:6]}},
		{"leaves without rows", withRows(base)},
		{"rows without leaves", withLeaves(base)},
		{"rows without leaves, none Gone", impl.Log{Rows: []impl.Row{loggedRow(1, 0)}}},
		{"a leaf without a row", impl.Log{Leaves: []string{leafIn(loggedRow(1, 0))}}},
		{"a Tomb alone", impl.Log{Leaves: []string{tombOf(0, 0, 1, 0)}}},
		{"the last row lacks", withRows(base, a, b)},
		{"the first row lacks", withRows(base, b, c)},
		{"one row too many", withRows(base, a, b, c, loggedRow(1, 0))},
		{"the last row twice", withRows(base, a, b, c, c)},
		{"rows in another order", withRows(base, b, a, c)},
		{"rows in another order, the last two", withRows(base, a, c, b)},
		{"another row", withRows(base, a, b, other)},
		{"a row of another time", withRows(base, a, b, rowIn("user", 8, c.Fields...))},
		{"a row of another kind", withRows(base, a, b, rowIn("users", 9, c.Fields...))},
		{"many rows", withRows(base, slices.Repeat(base.Rows, 200)...)},
	}
}

// wrongTombs: what one more leaf, or another row, makes wrong.
func wrongTombs() []namedLog {
	base := baseLog()
	a, b, c := base.Rows[0], base.Rows[1], base.Rows[2]
	was := rowIn("user", 9, fieldIn("name", "w", "bob"))
	out := []namedLog{
		{"Gone, and no Tomb", withRows(base, forgotIn(a, 0), b, c)},
		{"Gone, and no Tomb, of the second row", withRows(base, a, forgotIn(b, 1), c)},
		{"a Tomb of what is there", withRows(base, a, b, was)},
		{"a Tomb of the next row", withLeaves(withRows(base, a, b), base.Leaves[0], base.Leaves[1], tombOf(1, 0, 1, 5), base.Leaves[2], base.Leaves[3])},
		{"a Tomb ahead of all", withLeaves(base, append([]string{base.Leaves[1], base.Leaves[0]}, base.Leaves[2:]...)...)},
		{"the last Tomb ahead of its row", withLeaves(base, append(slices.Clone(base.Leaves[:5]), base.Leaves[6], base.Leaves[5])...)},
		{"a Tomb's At of MaxTime and one more", withLeaves(base, append(slices.Clone(base.Leaves[:6]), tombOf(2, 0, 2, impl.MaxTime+1))...)},
		{"a Tomb's At one more than Now", withLeaves(base, append(slices.Clone(base.Leaves[:6]), tombOf(2, 0, 2, 13))...)},
		{"a Tomb's Why of 0", withLeaves(base, append(slices.Clone(base.Leaves[:6]), tombOf(2, 0, 0, 9))...)},
		{"a Tomb's Why of 3", withLeaves(base, append(slices.Clone(base.Leaves[:6]), tombOf(2, 0, 3, 9))...)},
	}
	more := map[string]string{
		"of a Field that is there": tombOf(0, 0, 1, 9), "of another one that is there": tombOf(1, 1, 1, 9), "twice, the same": base.Leaves[1],
		"twice, of another Why": tombOf(0, 1, 2, 3), "twice, of another time": tombOf(0, 1, 1, 9), "twice, of the last row": tombOf(2, 0, 2, 9),
		"of no such Field": tombOf(1, 2, 1, 9), "of no such Field of the last row": tombOf(2, 1, 1, 9), "of no Field": tombOf(0, -1, 1, 9),
		"of a Field that none has": tombOf(0, 3, 1, 9), "of no such Row": tombOf(3, 0, 1, 9), "of no Row": tombOf(-1, 0, 1, 9),
		"of a Row that none has": tombOf(6, 0, 1, 9), "of the last Row that a Tomb may have": tombOf(63, 0, 1, 9), "of one more": tombOf(64, 0, 1, 9),
		"that is empty": "", "that is no leaf": "x", "that is a mark": "t", "that is another mark": "e", "of a row again": base.Leaves[5],
		"of no row": "e" + mixed(1, 32), "of another row": leafIn(loggedRow(3, 5)), "of a name": "name", "that is long": mixed(1, impl.MaxBytes),
		"that is too long": mixed(1, impl.MaxBytes+1), "that is long, and begins as a Tomb": tombOf(2, 0, 2, 9) + mixed(1, impl.MaxBytes),
	}
	for _, what := range slices.Sorted(maps.Keys(more)) {
		for place := range len(base.Leaves) + 1 {
			out = append(out, namedLog{fmt.Sprintf("a leaf %s, at %d", what, place), withLeaves(base, slices.Insert(slices.Clone(base.Leaves), place, more[what])...)})
		}
	}
	return out
}

// wrongLeaves: one lacks, one stands twice, or one is another text.
func wrongLeaves(base impl.Log) []namedLog {
	var out []namedLog
	add := func(what string, i int, leaves []string) {
		out = append(out, namedLog{fmt.Sprintf("%s: leaf %d", what, i), withLeaves(base, leaves...)})
	}
	for i, leaf := range base.Leaves {
		add("lacks", i, slices.Delete(slices.Clone(base.Leaves), i, i+1))
		add("twice", i, slices.Insert(slices.Clone(base.Leaves), i, leaf))
		add("again behind all", i, append(slices.Clone(base.Leaves), leaf))
		add("cut", i, putIn(base.Leaves, i, leaf[:len(leaf)-1]))
		add("one more byte", i, putIn(base.Leaves, i, leaf+"\x00"))
		add("the mark turned", i, putIn(base.Leaves, i, turned(leaf, 0)))
		add("empty", i, putIn(base.Leaves, i, ""))
		add("no leaf", i, putIn(base.Leaves, i, "x"))
		add("no row's leaf", i, putIn(base.Leaves, i, "e"+mixed(1, 32)))
		for j, other := range base.Leaves {
			if i != j {
				add(fmt.Sprintf("another one (%d)", j), i, putIn(base.Leaves, i, other))
			}
		}
	}
	for _, place := range []int{0, 2, 5} {
		for at := range 33 {
			add(fmt.Sprintf("byte %d turned", at), place, turnedIn(base.Leaves, place, at))
		}
	}
	add("all twice", 0, slices.Repeat(base.Leaves, 2))
	add("very many", 0, slices.Repeat(base.Leaves, 1000))
	add("very many Tombs", 1, append(slices.Clone(base.Leaves), slices.Repeat(base.Leaves[1:2], 1000)...))
	return out
}

func wrongLogs() []namedLog {
	// What is no Tomb at all must not pass for one of the first Field.
	first := withGone(baseLog(), 0, 0, 1)
	return slices.Concat(wrongNows(), wrongRowLogs(), wrongCounts(), wrongTombs(), wrongLeaves(baseLog()), wrongLeaves(first))
}

func TestWrongLogs(t *testing.T) {
	for _, wrong := range wrongLogs() {
		if isRightLog(wrong.log) {
			t.Errorf("%s: the second reckoning takes it for right", wrong.what)
		}
		wantLogRight(t, wrong.what, wrong.log, false)
	}
}

// wantToldNothing: what is told of a log that is not right, whatever else is
// handed in.
func wantToldNothing(t *testing.T, what string, l impl.Log) {
	t.Helper()
	for _, at := range []int64{l.Now, 0, 9} {
		wantLogCode(t, what+": LogAdd", impl.LogAdd(l, loggedRow(1, at)), impl.ErrForm)
	}
	for _, now := range []int64{-1, 0, 12, 13, impl.MaxTime, impl.MaxTime + 1} {
		wantLogCode(t, what+": LogTime", impl.LogTime(l, now), impl.ErrForm)
	}
	for row := int64(-1); row < 4; row++ {
		wantNumber(t, what+": PlaceOf", impl.PlaceOf(l, row), -1)
		wantNumber(t, what+": TombOf", impl.TombOf(l, row, row%3), -1)
		wantNumber(t, what+": TombOf", impl.TombOf(l, row, 1), -1)
		wantNumber(t, what+": StatusOf", impl.StatusOf(l, row, row%3), 0)
		wantNumber(t, what+": StatusOf", impl.StatusOf(l, row, 1), 0)
		wantLogCode(t, what+": LogForget", impl.LogForget(l, row, row%3, row), impl.ErrForm)
		wantLogCode(t, what+": LogForget", impl.LogForget(l, row, 0, 1), impl.ErrForm)
	}
	for _, n := range []int64{-1, 0, 1, int64(len(l.Leaves)) - 1, int64(len(l.Leaves)), int64(len(l.Leaves)) + 1} {
		wantBytes(t, what+": RootOf", impl.RootOf(l, n), "")
		wantProof(t, what+": ProofAt", impl.ProofAt(l, n), impl.Proof{})
		wantTexts(t, what+": Extend", impl.Extend(l, n), nil)
	}
	wantBytes(t, what+": HeadText", impl.HeadText(l), "")
	wantSig(t, what+": HeadSign", impl.HeadSign(l, "desk", 0), impl.Sig{})
	wantSig(t, what+": HeadSign", impl.HeadSign(l, "seed", 3), impl.Sig{})
}

func TestWrongLogsTellNothing(t *testing.T) {
	for i, wrong := range wrongLogs() {
		// Of the many wrong rows, and of the many leaves put in, some are enough.
		if i%3 == 0 || len(wrong.log.Leaves) == 0 || wrong.log.Now > impl.MaxTime {
			wantToldNothing(t, wrong.what, wrong.log)
		}
	}
	for _, wrong := range slices.Concat(wrongNows(), wrongCounts()) {
		wantToldNothing(t, wrong.what, wrong.log)
	}
}

// All orders of the base's leaves: a Tomb may stand anywhere behind its row's
// leaf, and nothing else may move.
func TestLeavesInEachOrder(t *testing.T) {
	base := baseLog()
	right := 0
	for _, order := range orders(len(base.Leaves)) {
		var leaves []string
		for _, which := range order {
			leaves = append(leaves, base.Leaves[which])
		}
		l := withLeaves(base, leaves...)
		want := isRightLog(l)
		wantLogRight(t, fmt.Sprintf("leaves %v", order), l, want)
		if want {
			right++
			wantNumber(t, fmt.Sprintf("leaves %v: TombOf", order), impl.TombOf(l, 0, 2), int64(slices.Index(order, 3)))
			wantNumber(t, fmt.Sprintf("leaves %v: PlaceOf", order), impl.PlaceOf(l, 1), int64(slices.Index(order, 2)))
		}
	}
	// A, B, C and T20 come in this order; T10 is put in at one of 3 places behind B,
	// then T02 at one of 5 behind A, and T01 at one of 6.
	if right != 3*5*6 {
		t.Errorf("%d orders are right, want 90", right)
	}
}

// Each bit of each leaf: a Tomb's may make another right Tomb, of its time.
func TestLeavesWithABitTurned(t *testing.T) {
	base := baseLog()
	right := 0
	for i, leaf := range base.Leaves {
		for bit := range 8 * len(leaf) {
			other := []byte(leaf)
			other[bit/8] ^= 1 << (bit % 8)
			l := withLeaves(base, putIn(base.Leaves, i, string(other))...)
			want := isRightLog(l)
			wantLogRight(t, fmt.Sprintf("leaf %d, bit %d", i, bit), l, want)
			if want {
				right++
			}
			if want && (kindIn(leaf) != 2 || bit/8 < 4) {
				t.Errorf("leaf %d with the bit %d turned is taken for right", i, bit)
			}
		}
	}
	if right == 0 {
		t.Error("no bit of a Tomb's time may be turned: the test looks at less than it should")
	}
}

// Each Tomb that there may be in place of one, and behind all.
func TestEachTombInALog(t *testing.T) {
	base := baseLog()
	for _, row := range []int64{0, 1, 2, 3, 5, 6, 63} {
		for field := range int64(3) {
			for why := range int64(4) {
				for _, at := range []int64{-1, 0, 8, 9, 11, 12, 13, impl.MaxTime} {
					text := tombBytes(impl.Tomb{Row: row, Field: field, Why: why, At: at})
					for place := range base.Leaves {
						l := withLeaves(base, putIn(base.Leaves, place, text)...)
						wantLogRight(t, fmt.Sprintf("the Tomb %d %d %d %d at %d", row, field, why, at, place), l, isRightLog(l))
					}
					l := withLeaves(base, withLeaf(base, text)...)
					wantLogRight(t, "one more Tomb", l, false)
					less := withLeaves(base, append(slices.Clone(base.Leaves[:6]), text)...)
					wantLogRight(t, "another Tomb behind all", less, row == 2 && field == 0 && (why == 1 || why == 2) && at >= 0 && at <= 12)
				}
			}
		}
	}
}

// Adding.

func TestLogAddOfTimes(t *testing.T) {
	for _, now := range []int64{0, 1, 5, 8192, impl.MaxTime - 1, impl.MaxTime} {
		l := impl.Log{Now: now}
		for _, at := range []int64{now, now - 1, now + 1, 0, impl.MaxTime, -1, now + 1<<32} {
			r := loggedRow(2, at)
			wantLog(t, fmt.Sprintf("a row of %d at %d", at, now), impl.LogAdd(l, r), addIn(l, r))
			if got := impl.LogAdd(l, r).Code; (got == impl.OK) != (at == now) {
				t.Errorf("a row of %d at %d: code %d", at, now, got)
			}
		}
	}
}

func TestLogAddOfWrongRows(t *testing.T) {
	for _, l := range []impl.Log{{Now: 3}, atTime(withRow(impl.Log{}, loggedRow(1, 0)), 3)} {
		for i, r := range wrongRows() {
			wantLogCode(t, fmt.Sprintf("wrong row %d", i), impl.LogAdd(l, r), impl.ErrForm)
		}
		for _, r := range rightRows() {
			for choice, less := range partlyGone(r) {
				at := atTime(l, max(3, less.At))
				less.At = at.Now
				want := impl.LogOut{Code: impl.ErrForm}
				if choice == 0 {
					want = impl.LogOut{Log: withRow(at, less)}
				}
				wantLog(t, fmt.Sprintf("a row of which Fields are Gone: %d", choice), impl.LogAdd(at, less), want)
			}
		}
	}
}

func TestLogAddUpToTheLast(t *testing.T) {
	l := impl.Log{Now: 7}
	for seed := range uint64(impl.MaxRows) {
		r := loggedRow(seed, 7)
		got := impl.LogAdd(l, r)
		wantLog(t, fmt.Sprintf("row %d", seed), got, impl.LogOut{Log: withRow(l, r)})
		l = got.Log
	}
	wantLogCode(t, "one more", impl.LogAdd(l, loggedRow(9, 7)), impl.ErrFull)
	wantLogCode(t, "the last one again", impl.LogAdd(l, l.Rows[5]), impl.ErrFull)
	gone := impl.LogForget(l, 0, 0, impl.WhRule)
	wantNumber(t, "forgetting in a full one", gone.Code, impl.OK)
	wantLogCode(t, "forgetting makes no room", impl.LogAdd(gone.Log, loggedRow(9, 7)), impl.ErrFull)
	later := impl.LogTime(l, 8).Log
	wantLogCode(t, "later", impl.LogAdd(later, loggedRow(9, 8)), impl.ErrFull)
	// Both faults at once: what is named first is told.
	for i, r := range append(wrongRows(), loggedRow(9, 6), loggedRow(9, 8), forgotIn(loggedRow(9, 7), 0), impl.Row{}) {
		wantLogCode(t, fmt.Sprintf("a full log, and the row %d", i), impl.LogAdd(l, r), impl.ErrForm)
	}
	wantLogCode(t, "a full log that is not right", impl.LogAdd(withLeaves(l, l.Leaves[:5]...), loggedRow(9, 7)), impl.ErrForm)
}

// Forgetting.

func TestLogForgetOfAllNumbers(t *testing.T) {
	for _, l := range []impl.Log{{}, baseLog(), withRow(impl.Log{}, loggedRow(1, 0)), fullHistory()[14]} {
		for _, row := range logRows() {
			for _, field := range logFields() {
				for _, why := range []int64{-1, 0, 1, 2, 3, 4, 257, 1<<32 + 1, math.MinInt64 + 1, math.MaxInt64} {
					wantLog(t, fmt.Sprintf("LogForget %d %d %d", row, field, why), impl.LogForget(l, row, field, why), forgetIn(l, row, field, why))
				}
			}
		}
	}
}

func TestLogForgetByHand(t *testing.T) {
	l := baseLog()
	for _, c := range []struct{ row, field, why, code int64 }{
		{0, 0, 1, impl.OK}, {0, 0, 2, impl.OK}, {1, 1, 1, impl.OK}, {1, 1, 2, impl.OK},
		{0, 0, 0, impl.ErrForm}, {0, 0, 3, impl.ErrForm}, {0, 0, -1, impl.ErrForm},
		{0, 1, 1, impl.ErrThere}, {0, 2, 2, impl.ErrThere}, {1, 0, 1, impl.ErrThere}, {2, 0, 1, impl.ErrThere},
		{-1, 0, 1, impl.ErrNone}, {3, 0, 1, impl.ErrNone}, {6, 0, 1, impl.ErrNone}, {0, -1, 1, impl.ErrNone}, {0, 3, 1, impl.ErrNone}, {1, 2, 1, impl.ErrNone}, {2, 1, 1, impl.ErrNone},
		// Two faults at once.
		{-1, 0, 0, impl.ErrForm}, {3, 0, 3, impl.ErrForm}, {0, 3, 0, impl.ErrForm}, {0, 1, 0, impl.ErrForm}, {0, 1, 3, impl.ErrForm}, {3, 1, 1, impl.ErrNone}, {-1, -1, 2, impl.ErrNone},
	} {
		got := impl.LogForget(l, c.row, c.field, c.why)
		what := fmt.Sprintf("LogForget %d %d %d", c.row, c.field, c.why)
		if c.code != impl.OK {
			wantLogCode(t, what, got, c.code)
			continue
		}
		want := impl.Log{Rows: slices.Clone(l.Rows), Leaves: append(slices.Clone(l.Leaves), tombOf(int(c.row), int(c.field), c.why, 12)), Now: 12}
		want.Rows[c.row] = forgotIn(l.Rows[c.row], int(c.field))
		wantLog(t, what, got, impl.LogOut{Log: want})
		wantLogCode(t, what+", again", impl.LogForget(got.Log, c.row, c.field, c.why), impl.ErrThere)
		wantLogCode(t, what+", again, for another reason", impl.LogForget(got.Log, c.row, c.field, 3-c.why), impl.ErrThere)
	}
}

// A Tomb is of Now, whatever the row's time.
func TestTombsAreOfNow(t *testing.T) {
	for _, now := range tombTimes() {
		for why := int64(1); why <= 2; why++ {
			l := atTime(withRow(impl.Log{}, loggedRow(1, 0)), now)
			got := impl.LogForget(l, 0, 0, why).Log
			wantTexts(t, fmt.Sprintf("forgotten at %d", now), got.Leaves, []string{l.Leaves[0], tombOf(0, 0, why, now)})
		}
	}
}

// Time.

func TestLogTime(t *testing.T) {
	for _, l := range []impl.Log{{}, {Now: 1}, {Now: 500}, {Now: impl.MaxTime - 1}, {Now: impl.MaxTime}, baseLog()} {
		for _, now := range append(append(rightTimes(), wrongTimes()...), l.Now-1, l.Now, l.Now+1, 11, 12, 13) {
			wantLog(t, fmt.Sprintf("LogTime %d at %d", now, l.Now), impl.LogTime(l, now), laterIn(l, now))
		}
	}
	wantLog(t, "later", impl.LogTime(impl.Log{Now: 5}, 6), impl.LogOut{Log: impl.Log{Now: 6}})
	wantLog(t, "the same", impl.LogTime(impl.Log{Now: 5}, 5), impl.LogOut{Log: impl.Log{Now: 5}})
	wantLog(t, "earlier", impl.LogTime(impl.Log{Now: 5}, 4), impl.LogOut{Log: impl.Log{Now: 5}})
	wantLog(t, "the last", impl.LogTime(impl.Log{Now: 5}, impl.MaxTime), impl.LogOut{Log: impl.Log{Now: impl.MaxTime}})
	wantLogCode(t, "one more", impl.LogTime(impl.Log{Now: 5}, impl.MaxTime+1), impl.ErrForm)
	wantLogCode(t, "below 0", impl.LogTime(impl.Log{Now: 5}, -1), impl.ErrForm)
}

// Promise 13.

// wantOnlyGrown: all that was there is there, but for the salts and values that
// were forgotten; that is told by how many Fields are newly Gone.
func wantOnlyGrown(t *testing.T, what string, before, after impl.Log) (newlyGone int) {
	t.Helper()
	if !impl.LogRight(after) {
		t.Errorf("%s: what comes of it is not right: %s", what, asText(after))
	}
	if after.Now < before.Now {
		t.Errorf("%s: Now goes back from %d to %d", what, before.Now, after.Now)
	}
	if len(after.Leaves) < len(before.Leaves) || len(after.Rows) < len(before.Rows) {
		t.Fatalf("%s: something lacks: %s", what, asText(after))
	}
	wantTexts(t, what+": the earlier Leaves", after.Leaves[:len(before.Leaves)], before.Leaves)
	for i, r := range before.Rows {
		now := after.Rows[i]
		if now.Kind != r.Kind || now.At != r.At || len(now.Fields) != len(r.Fields) {
			t.Fatalf("%s: row %d was %s and is %s", what, i, asText(r), asText(now))
		}
		for j, f := range r.Fields {
			gone := impl.Field{Name: f.Name, Commit: f.Commit, Gone: true}
			switch now.Fields[j] {
			case f:
			case gone:
				newlyGone++
			default:
				t.Errorf("%s: the Field %d %d was %s and is %s", what, i, j, asText(f), asText(now.Fields[j]))
			}
		}
	}
	return newlyGone
}

// wantNoted: each Field that is Gone has one Tomb, and no other has any.
func wantNoted(t *testing.T, what string, l impl.Log) {
	t.Helper()
	noted := map[fieldPlace][]int64{}
	for place, leaf := range l.Leaves {
		if b := impl.TombRead(leaf); b.Code == impl.OK {
			at := fieldPlace{b.Tomb.Row, b.Tomb.Field}
			noted[at] = append(noted[at], int64(place))
		}
	}
	for i, r := range l.Rows {
		place := impl.PlaceOf(l, int64(i))
		if place < 0 || l.Leaves[place] != impl.RowLeaf(r) {
			t.Fatalf("%s: row %d has the place %d", what, i, place)
		}
		for j, f := range r.Fields {
			at := fieldPlace{int64(i), int64(j)}
			tombs, told, status := noted[at], impl.TombOf(l, at.row, at.field), impl.StatusOf(l, at.row, at.field)
			switch {
			case f.Gone && (len(tombs) != 1 || told != tombs[0] || told <= place || status != impl.StErased):
				t.Errorf("%s: %v is Gone: Tombs at %v, told %d, status %d", what, at, tombs, told, status)
			case !f.Gone && (len(tombs) != 0 || told != -1 || status != impl.StPresent):
				t.Errorf("%s: %v is there: Tombs at %v, told %d, status %d", what, at, tombs, told, status)
			}
			delete(noted, at)
		}
	}
	if len(noted) != 0 {
		t.Errorf("%s: Tombs of nothing: %v", what, noted)
	}
}

// wantStep makes a call, and tells the log behind it.
func wantStep(t *testing.T, call logCall, l impl.Log) impl.Log {
	t.Helper()
	got := call.do(l)
	wantLog(t, call.what, got, call.in(l))
	if got.Code != impl.OK {
		return l
	}
	gone := wantOnlyGrown(t, call.what, l, got.Log)
	rows, leaves := len(got.Log.Rows)-len(l.Rows), len(got.Log.Leaves)-len(l.Leaves)
	var want [3]int
	switch {
	case call.what == "LogAdd":
		want = [3]int{0, 1, 1}
	case call.what != "LogTime":
		want = [3]int{1, 0, 1}
	}
	if [3]int{gone, rows, leaves} != want || call.what != "LogTime" && got.Log.Now != l.Now {
		t.Errorf("%s: %d Fields more are Gone, there are %d rows and %d leaves more, Now is %d", call.what, gone, rows, leaves, got.Log.Now)
	}
	wantNoted(t, call.what, got.Log)
	return got.Log
}

func TestLogsOnlyGrow(t *testing.T) {
	codes := map[int64]int{}
	for seed := range uint64(40) {
		logs := []impl.Log{{}}
		for _, call := range someCalls(seed+100, 50) {
			last := logs[len(logs)-1]
			codes[call.do(last).Code]++
			logs = append(logs, wantStep(t, call, last))
		}
		last := logs[len(logs)-1]
		for i, l := range logs {
			wantOnlyGrown(t, fmt.Sprintf("from log %d to the last", i), l, last)
		}
	}
	for _, code := range []int64{impl.OK, impl.ErrForm, impl.ErrNone, impl.ErrThere, impl.ErrFull} {
		if codes[code] < 20 {
			t.Errorf("the code %d came %d times: the test looks at less than it should", code, codes[code])
		}
	}
}

// A few calls in each order; those that come too early are refused.
func TestLogCallsInEachOrder(t *testing.T) {
	calls := []logCall{
		adding(func(now int64) impl.Row { return rowIn("a", now, fieldIn("x", "s", "1"), fieldIn("y", "t", "2")) }),
		adding(func(now int64) impl.Row { return rowIn("b", now, fieldIn("x", "u", "3")) }),
		forgetting(0, 0, impl.WhAsked), forgetting(0, 1, impl.WhRule), forgetting(1, 0, impl.WhAsked),
		timing(func(now int64) int64 { return now + 1 }),
	}
	for _, order := range orders(len(calls)) {
		var l impl.Log
		for _, which := range order {
			l = wantStep(t, calls[which], l)
		}
	}
}

func TestAFullLogIsForgottenWhole(t *testing.T) {
	logs := fullHistory()
	last := logs[len(logs)-1]
	if len(last.Leaves) != 24 {
		t.Fatalf("there are %d leaves", len(last.Leaves))
	}
	for i, l := range logs {
		wantOnlyGrown(t, fmt.Sprintf("from log %d to the last", i), l, last)
		wantNoted(t, fmt.Sprintf("log %d", i), l)
	}
	for row := range int64(impl.MaxRows) {
		for field := range int64(impl.MaxFields) {
			wantLogCode(t, "again", impl.LogForget(last, row, field, 1), impl.ErrThere)
		}
	}
	wantLogCode(t, "a row more", impl.LogAdd(last, loggedRow(1, last.Now)), impl.ErrFull)
}

// Nothing of what was forgotten is left in the log.
func TestForgottenSaltsAreNowhere(t *testing.T) {
	r := rowIn("user", 0, fieldIn("age", "saltone!", "value number one"), fieldIn("name", "salttwo!", "value number two"))
	l := impl.LogAdd(impl.Log{}, r).Log
	for field, f := range r.Fields {
		less := impl.LogForget(l, 0, int64(field), impl.WhAsked).Log
		text, other := fmt.Sprintf("%q", []any{less}), r.Fields[1-field]
		if strings.Contains(text, f.Salt) || strings.Contains(text, f.Value) {
			t.Errorf("the Field %d is still there: %s", field, text)
		}
		if !strings.Contains(text, other.Salt) || !strings.Contains(text, other.Value) {
			t.Errorf("with the Field %d another one is forgotten: %s", field, text)
		}
	}
}

// Promise 14.

// otherRoots: each bit turned, other lengths, nothing, and the root of nothing.
func otherRoots(root string) []string {
	out := append(sized(root), sha(""), sha(root), "e"+root[1:])
	for bit := range 256 {
		other := []byte(root)
		other[bit/8] ^= 1 << (bit % 8)
		out = append(out, string(other))
	}
	return slices.DeleteFunc(out, func(other string) bool { return other == root })
}

func rootsOf(l impl.Log) []string {
	var out []string
	for size := range int64(len(l.Leaves) + 1) {
		out = append(out, impl.RootOf(l, size))
	}
	return out
}

func wantLeavesProved(t *testing.T, what string, l impl.Log) {
	t.Helper()
	roots, size := rootsOf(l), len(l.Leaves)
	for index, leaf := range l.Leaves {
		p := impl.ProofAt(l, int64(index))
		if p.Leaf != leaf || p.Index != int64(index) || p.Size != int64(size) {
			t.Errorf("%s: the proof of %d is %s", what, index, asText(p))
		}
		for of, root := range roots {
			wantGood(t, fmt.Sprintf("%s: leaf %d in the root of %d", what, index, of), p, root, of == size)
		}
		for at := range size {
			wantGood(t, what+": another Leaf", withProof(p, func(o *impl.Proof) { o.Leaf = l.Leaves[at] }), roots[size], l.Leaves[at] == leaf)
		}
	}
}

func wantSizesProved(t *testing.T, what string, l impl.Log) {
	t.Helper()
	roots, size := rootsOf(l), int64(len(l.Leaves))
	for old := int64(1); old <= size; old++ {
		proof := impl.Extend(l, old)
		wantConsistent(t, what, old, size, proof, roots[old], roots[size], true)
		for of := int64(1); of <= size; of++ {
			wantConsistent(t, what+", another root", old, size, proof, roots[of], roots[size], of == old)
			wantConsistent(t, what+", of another size", of, size, proof, roots[old], roots[size], of == old)
		}
	}
}

// withProof is a copy that one call has changed.
func withProof(p impl.Proof, change func(*impl.Proof)) impl.Proof {
	p.Path = slices.Clone(p.Path)
	change(&p)
	return p
}

func TestLeavesAndSizesAreProved(t *testing.T) {
	for h, logs := range append(someHistories()[:4], fullHistory()) {
		for i, l := range logs {
			what := fmt.Sprintf("history %d, log %d", h, i)
			wantLeavesProved(t, what, l)
			wantSizesProved(t, what, l)
		}
	}
}

// The root of each earlier size is the same in each later log, whatever is
// forgotten of what was there.
func TestEarlierRootsStay(t *testing.T) {
	for h, logs := range append(someHistories(), fullHistory()) {
		last := rootsOf(logs[len(logs)-1])
		for i, l := range logs {
			roots := rootsOf(l)
			wantTexts(t, fmt.Sprintf("history %d, log %d: its roots", h, i), roots, last[:len(roots)])
			for row, r := range l.Rows {
				for field := range r.Fields {
					if less := impl.LogForget(l, int64(row), int64(field), 1); less.Code == impl.OK {
						wantTexts(t, "roots behind a forgetting", rootsOf(less.Log)[:len(roots)], roots)
					}
				}
			}
		}
	}
}

// What was proved at an earlier size is proved still; of a later one it is not.
func TestProofsOfEarlierLogs(t *testing.T) {
	logs := fullHistory()
	for i, l := range logs[:len(logs)-1] {
		next := logs[i+1]
		for index := range l.Leaves {
			p := impl.ProofAt(l, int64(index))
			wantGood(t, "at its own size", p, impl.RootOf(next, p.Size), true)
			wantGood(t, "in the next log", p, impl.RootOf(next, int64(len(next.Leaves))), len(next.Leaves) == len(l.Leaves))
		}
	}
}

func TestLeavesAreInNoOtherRoot(t *testing.T) {
	l := baseLog()
	root := impl.RootOf(l, 7)
	for index := range int64(7) {
		p := impl.ProofAt(l, index)
		wantGood(t, "as it is", p, root, true)
		for _, other := range otherRoots(root) {
			wantGood(t, "another root", p, other, false)
		}
	}
	for _, logs := range someHistories() {
		other := logs[len(logs)-1]
		wantGood(t, "another log's root", impl.ProofAt(l, 3), impl.RootOf(other, min(7, int64(len(other.Leaves)))), false)
	}
}

// Each part of a proof that is changed is held against the second reckoning.
func TestProofGoodOfChangedProofs(t *testing.T) {
	l := fullHistory()[17]
	size := int64(len(l.Leaves))
	root := impl.RootOf(l, size)
	for index := range size {
		good := impl.ProofAt(l, index)
		hold := func(what string, change func(*impl.Proof)) {
			t.Helper()
			p := withProof(good, change)
			wantGood(t, what, p, root, goodIn(p, root))
			if goodIn(p, root) && (p.Leaf != good.Leaf || !slices.Equal(p.Path, good.Path)) {
				t.Errorf("%s: the second reckoning takes %s for good", what, asText(p))
			}
		}
		for _, n := range append(around(int(size)), index+1, index-1, index^1) {
			hold("another index", func(o *impl.Proof) { o.Index = n })
			hold("another size", func(o *impl.Proof) { o.Size = n })
			hold("both others", func(o *impl.Proof) { o.Index, o.Size = n, n+1 })
		}
		for at := range good.Leaf {
			hold("a byte of the leaf turned", func(o *impl.Proof) { o.Leaf = turned(good.Leaf, at) })
		}
		for at := range good.Path {
			hold("one lacks", func(o *impl.Proof) { o.Path = slices.Delete(o.Path, at, at+1) })
			hold("one twice", func(o *impl.Proof) { o.Path = slices.Insert(o.Path, at, good.Path[at]) })
			hold("one turned", func(o *impl.Proof) { o.Path = turnedIn(good.Path, at, at) })
			for _, text := range sized(good.Path[at]) {
				hold("one of another length", func(o *impl.Proof) { o.Path[at] = text })
			}
		}
		hold("no path", func(o *impl.Proof) { o.Path = nil })
		hold("a path the other way round", func(o *impl.Proof) { slices.Reverse(o.Path) })
		hold("the digest for the leaf", func(o *impl.Proof) { o.Leaf = leafOf(good.Leaf) })
		hold("an empty leaf", func(o *impl.Proof) { o.Leaf = "" })
		hold("a node for the leaf", func(o *impl.Proof) { o.Leaf = "\x01" + good.Leaf })
	}
}

// Leaves of other lengths than a log's: MaxEntry bytes, and one more.
func TestProofGoodOfLeafSizes(t *testing.T) {
	for _, size := range []int{0, 1, 5, 33, impl.MaxEntry - 1, impl.MaxEntry, impl.MaxEntry + 1, 2 * impl.MaxEntry, impl.MaxBytes, impl.MaxBytes + 1} {
		leaf, want := mixed(4, size), size <= 100
		wantGood(t, "alone", impl.Proof{Leaf: leaf, Size: 1}, leafOf(leaf), want)
		entries := []string{"a", leaf, "c", "d", leaf}
		for _, index := range []int{1, 4} {
			p := impl.Proof{Leaf: leaf, Index: int64(index), Size: 5, Path: levelsPath(entries, index)}
			wantGood(t, "one of five", p, levelsRoot(entries), want)
			wantGood(t, "in an empty root", p, "", false)
		}
	}
	wantGood(t, "an empty proof in nothing", impl.Proof{}, "", false)
	wantGood(t, "an empty proof in the root of nothing", impl.Proof{}, sha(""), false)
	wantGood(t, "too long a leaf in an empty root", impl.Proof{Leaf: mixed(1, 101), Size: 1}, "", false)
	wantGood(t, "a root that is too long", impl.Proof{Leaf: "a", Size: 1}, leafOf("a")+mixed(1, impl.MaxBytes), false)
}

func TestProofGoodInGreatTrees(t *testing.T) {
	for s, size := range bigSizes() {
		for _, index := range []int64{-1, 0, 1, size / 3, size - 1, size, math.MinInt64} {
			for steps := range 66 {
				p := impl.Proof{Leaf: mixed(uint64(s), 7), Index: index, Size: size, Path: someDigests(uint64(s), steps)}
				root, ok := mixed(1, 32), false
				if index >= 0 && index < size {
					root, ok = climbed(leafOf(p.Leaf), index, size, p.Path)
				}
				if !ok {
					root = mixed(1, 32)
				}
				wantGood(t, "a great tree", p, root, ok && steps <= 63)
			}
		}
	}
}

// Promise 15.

// Only two bytes of a head's digest are signed: what has the same digits as the
// one that was signed is verified, too.
func TestHeadsAreVerified(t *testing.T) {
	var heads []impl.Log
	for _, logs := range someHistories()[:2] {
		heads = append(heads, logs[0], logs[1], logs[len(logs)/2], logs[len(logs)-1])
	}
	heads = append(heads, baseLog())
	for i, l := range heads {
		text := impl.HeadText(l)
		for s, seed := range rightSeeds() {
			root, otherRoot := impl.KeyRoot(seed), impl.KeyRoot(rightSeeds()[(s+1)%len(rightSeeds())])
			for key := range int64(impl.MaxKeys) {
				sig := impl.HeadSign(l, seed, key)
				what := fmt.Sprintf("head %d, seed %d, key %d", i, s, key)
				wantSig(t, what, sig, sigOf(seed, key, headIn(l)))
				wantVerified(t, what, root, text, sig, true)
				wantVerified(t, what+", another seed", otherRoot, text, sig, false)
				for _, other := range heads {
					wantVerified(t, what+", another head", root, impl.HeadText(other), sig, digitsIn(headIn(other)) == digitsIn(text))
				}
			}
		}
	}
}

// Each step of a log has a head of its own, and so has the same size of another.
func TestHeadsAreTheirOwn(t *testing.T) {
	seen := map[string]string{}
	unlike := 0
	for h, logs := range append(someHistories(), fullHistory()) {
		for i, l := range logs {
			head, leaves := impl.HeadText(l), fmt.Sprintf("%q", l.Leaves)
			if other, ok := seen[head]; ok && other != leaves {
				t.Errorf("history %d, log %d: its head is another log's", h, i)
			}
			if digitsIn(head) != digitsIn(impl.HeadText(baseLog())) {
				unlike++
				wantVerified(t, "the base's head by another log's", impl.KeyRoot("desk"), impl.HeadText(baseLog()), impl.HeadSign(l, "desk", 1), false)
			}
			seen[head] = leaves
		}
	}
	if unlike < 100 {
		t.Errorf("only %d heads are signed otherwise than the base's", unlike)
	}
}

func TestHeadSignOfWrongSeedsAndKeys(t *testing.T) {
	for _, l := range []impl.Log{{}, baseLog(), {Now: -1}} {
		for _, seed := range append(wrongSeeds(), "seed") {
			for _, key := range append(wrongKeys(), 0, 3) {
				want := impl.Sig{}
				if seed == "seed" && (key == 0 || key == 3) && l.Now >= 0 {
					want = sigOf(seed, key, headIn(l))
				}
				wantSig(t, fmt.Sprintf("a seed of %d bytes, key %d", len(seed), key), impl.HeadSign(l, seed, key), want)
			}
		}
	}
}

// The time is not in the head: it is of the leaves alone.
func TestHeadsAreOfLeavesAlone(t *testing.T) {
	l := baseLog()
	later := impl.LogTime(l, 500).Log
	wantBytes(t, "later", impl.HeadText(later), impl.HeadText(l))
	wantSig(t, "later", impl.HeadSign(later, "desk", 0), impl.HeadSign(l, "desk", 0))
	if impl.HeadText(impl.LogForget(l, 0, 0, 1).Log) == impl.HeadText(l) {
		t.Error("a Tomb more makes no other head")
	}
}

// What is handed in stays, and what was handed back.

func copyOfLog(l impl.Log) impl.Log {
	out := impl.Log{Leaves: slices.Clone(l.Leaves), Now: l.Now}
	for _, r := range l.Rows {
		out.Rows = append(out.Rows, withFields(r, slices.Clone(r.Fields)))
	}
	return out
}

func markedRow() impl.Row {
	return impl.Row{Kind: "mark"}
}

// roomyLog is a copy with room behind each of its lists that is marked.
func roomyLog(l impl.Log) impl.Log {
	rows := make([]impl.Row, 0, len(l.Rows)+5)
	for _, r := range l.Rows {
		rows = append(rows, roomyRow(r))
	}
	for i := len(rows); i < cap(rows); i++ {
		rows[:cap(rows)][i] = markedRow()
	}
	return impl.Log{Rows: rows, Leaves: roomy(l.Leaves), Now: l.Now}
}

func wantLogUntouched(t *testing.T, what string, l, before impl.Log) {
	t.Helper()
	wantLog(t, what, impl.LogOut{Log: l}, impl.LogOut{Log: before})
	wantUntouched(t, what+": leaves", l.Leaves, before.Leaves)
	for i, r := range l.Rows {
		wantRowUntouched(t, what+": a row", r, before.Rows[i])
	}
	for _, r := range l.Rows[len(l.Rows):cap(l.Rows)] {
		if !sameRow(r, markedRow()) {
			t.Errorf("%s: behind the rows stands %s", what, asText(r))
		}
	}
}

func spoilLog(l impl.Log) {
	spoilTexts(l.Leaves)
	for i := range l.Rows[:cap(l.Rows)] {
		spoilRow(l.Rows[:cap(l.Rows)][i])
		l.Rows[:cap(l.Rows)][i] = impl.Row{Kind: "spoiled"}
	}
}

// logsFrom has what the calls make of a log.
func logsFrom(l impl.Log, r impl.Row) []impl.Log {
	out := []impl.Log{impl.LogAdd(l, r).Log, impl.LogTime(l, l.Now+1).Log, impl.LogTime(l, l.Now).Log, impl.LogTime(l, 0).Log}
	for row := int64(-1); row < 3; row++ {
		for field := int64(-1); field < 3; field++ {
			out = append(out, impl.LogForget(l, row, field, 1).Log)
		}
	}
	return out
}

// textsFrom has the other answers' lists.
func textsFrom(l impl.Log) [][]string {
	var out [][]string
	for n := range int64(len(l.Leaves) + 2) {
		out = append(out, impl.Extend(l, n), impl.ProofAt(l, n).Path)
	}
	s := impl.HeadSign(l, "desk", 1)
	return append(out, s.Ends, s.Path)
}

func askedLogs() []impl.Log {
	out := []impl.Log{{}, baseLog(), fullHistory()[9], fullHistory()[20]}
	for i, wrong := range wrongLogs() {
		if i%40 == 0 {
			out = append(out, wrong.log)
		}
	}
	return append(out, someHistories()[3]...)
}

func TestLogsAreLeftAlone(t *testing.T) {
	for _, l := range askedLogs() {
		given, r := roomyLog(l), loggedRow(5, l.Now)
		givenRow := roomyRow(r)
		impl.LogRight(given)
		wantToldOfLeaves(t, "in a roomy log", given)
		made, texts := logsFrom(given, givenRow), textsFrom(given)
		var kept []impl.Log
		var keptTexts [][]string
		for _, log := range made {
			kept = append(kept, copyOfLog(log))
		}
		for _, list := range texts {
			keptTexts = append(keptTexts, slices.Clone(list))
		}
		for _, log := range append([]impl.Log{given}, made...) {
			for _, later := range logsFrom(log, givenRow) {
				spoilLog(later)
			}
			for _, list := range textsFrom(log) {
				spoilTexts(list)
			}
		}
		for i := range made {
			wantLog(t, "a log that was told before", impl.LogOut{Log: made[i]}, impl.LogOut{Log: kept[i]})
			spoilLog(made[i])
		}
		for i := range texts {
			wantTexts(t, "a list that was told before", texts[i], keptTexts[i])
			spoilTexts(texts[i])
		}
		wantLogUntouched(t, "a log", given, l)
		wantRowUntouched(t, "a row to be added", givenRow, r)
	}
}

// What was told stays, when what was handed in is changed behind it.
func TestLogsKeepNothingOfTheirArguments(t *testing.T) {
	for _, l := range []impl.Log{{}, baseLog(), fullHistory()[4]} {
		given, row := copyOfLog(l), loggedRow(5, l.Now)
		made, texts := logsFrom(given, row), textsFrom(given)
		proof := impl.ProofAt(given, 1)
		var kept []impl.Log
		for _, log := range made {
			kept = append(kept, copyOfLog(log))
		}
		spoilLog(given)
		spoilRow(row)
		for i := range made {
			wantLog(t, "a log behind its argument is spoiled", impl.LogOut{Log: made[i]}, impl.LogOut{Log: kept[i]})
		}
		for i, list := range textsFrom(l) {
			wantTexts(t, "a list behind its argument is spoiled", texts[i], list)
		}
		wantProof(t, "a proof behind its argument is spoiled", proof, proofIn(l, 1))
	}
}

// No list of one answer reaches into another one of it.
func TestListsOfALogShareNothing(t *testing.T) {
	for _, l := range []impl.Log{baseLog(), fullHistory()[4], withRow(withRow(impl.Log{}, loggedRow(3, 0)), loggedRow(3, 0))} {
		row := loggedRow(3, l.Now)
		for which := range logsFrom(l, row) {
			want := logsFrom(l, row)[which]
			for i := range want.Rows {
				got := logsFrom(l, row)[which]
				spoilRow(got.Rows[i])
				for j, r := range got.Rows {
					if j != i {
						wantRow(t, "a row behind another one is spoiled", impl.RowOut{Row: r}, impl.RowOut{Row: want.Rows[j]})
					}
				}
				wantTexts(t, "leaves behind a row is spoiled", got.Leaves, want.Leaves)
			}
			got := logsFrom(l, row)[which]
			spoilTexts(got.Leaves)
			if !slices.EqualFunc(got.Rows, want.Rows, sameRow) {
				t.Error("rows behind the leaves are spoiled are others")
			}
		}
	}
}

func textsOfLog(l impl.Log) []string {
	out := slices.Clone(l.Leaves)
	for _, r := range l.Rows {
		out = append(out, textsOfRow(r)...)
	}
	return longEnough(out)
}

func TestLogsAreNewMemory(t *testing.T) {
	l, r := baseLog(), rowIn("note", 12, fieldIn("text", "salt", "value"))
	given := append(textsOfLog(l), textsOfRow(r)...)
	wantNewMemory(t, "LogAdd", textsOfLog(impl.LogAdd(l, r).Log), given)
	wantNewMemory(t, "LogForget", textsOfLog(impl.LogForget(l, 0, 0, 1).Log), given)
	wantNewMemory(t, "LogForget of another row", textsOfLog(impl.LogForget(l, 1, 1, 1).Log), given)
	wantNewMemory(t, "LogTime, later", textsOfLog(impl.LogTime(l, 13).Log), given)
	wantNewMemory(t, "LogTime, the same", textsOfLog(impl.LogTime(l, 12).Log), given)
	wantNewMemory(t, "LogTime, earlier", textsOfLog(impl.LogTime(l, 1).Log), given)
	for n := range int64(8) {
		p := impl.ProofAt(l, n)
		wantNewMemory(t, "ProofAt", longEnough(append([]string{p.Leaf}, p.Path...)), given)
		wantNewMemory(t, "Extend", impl.Extend(l, n), given)
		wantNewMemory(t, "RootOf", []string{impl.RootOf(l, n), impl.RootOf(l, n), impl.HeadText(l), impl.HeadText(l)}, given)
	}
	s := impl.HeadSign(l, "seed", 2)
	wantNewMemory(t, "HeadSign", append(slices.Clone(s.Ends), s.Path...), given)
}

func TestProofGoodLeavesProofsAlone(t *testing.T) {
	l := baseLog()
	for index := range int64(7) {
		p := impl.ProofAt(l, index)
		given := p
		given.Path = roomy(p.Path)
		wantGood(t, "as it is", given, impl.RootOf(l, 7), true)
		wantGood(t, "of another root", given, impl.RootOf(l, 6), false)
		wantUntouched(t, "a path", given.Path, p.Path)
	}
}

// Nothing is kept: the same calls tell the same, whatever came between.
func TestLogsHaveNoMemory(t *testing.T) {
	l, r := baseLog(), loggedRow(4, 12)
	tell := func() string {
		return fmt.Sprintf("%q", []any{logsFrom(l, r), textsFrom(l), impl.HeadText(l), impl.ProofAt(l, 2), impl.RootOf(l, 3)})
	}
	before := tell()
	for _, other := range askedLogs() {
		logsFrom(other, r)
		textsFrom(other)
		impl.HeadText(other)
	}
	wantBytes(t, "the same again", tell(), before)
}
