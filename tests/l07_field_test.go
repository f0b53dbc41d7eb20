package tests

import (
	"fmt"
	"math"
	"regexp"
	"slices"
	"strings"
	"testing"

	"loop.example/g00633/impl"
)

// A second reckoning of the chapter, by the standard library.

var nameForm = regexp.MustCompile(`^[a-z][a-z0-9_]{0,19}$`)

func textsBytes(texts ...string) string {
	var out strings.Builder
	for _, text := range texts {
		out.WriteString(numsBytes(int64(len(text))) + text)
	}
	return out.String()
}

func commitIn(name, salt, value string) string {
	if !nameForm.MatchString(name) || len(salt) < 1 || len(salt) > 8 || len(value) > 16 {
		return ""
	}
	return sha("\x02" + textsBytes(name, salt, value))
}

func fieldIn(name, salt, value string) impl.Field {
	return impl.Field{Name: name, Commit: commitIn(name, salt, value), Salt: salt, Value: value}
}

func isRightField(f impl.Field) bool {
	if len(f.Commit) != 32 || !nameForm.MatchString(f.Name) {
		return false
	}
	if f.Gone {
		return len(f.Salt)+len(f.Value) == 0
	}
	return commitIn(f.Name, f.Salt, f.Value) == f.Commit
}

func isRightRow(r impl.Row) bool {
	right := nameForm.MatchString(r.Kind) && 0 <= r.At && r.At <= 1000000 && 0 < len(r.Fields) && len(r.Fields) < 4
	var names []string
	for _, f := range r.Fields {
		right = right && isRightField(f)
		names = append(names, f.Name)
	}
	return right && slices.IsSorted(names) && len(slices.Compact(names)) == len(r.Fields)
}

// rowBytes reckons of any row, also of a wrong one.
func rowBytes(r impl.Row) string {
	out := textsBytes(r.Kind) + numsBytes(r.At, int64(len(r.Fields)))
	for _, f := range r.Fields {
		out += textsBytes(f.Name, f.Commit)
	}
	return out
}

func leafIn(r impl.Row) string {
	if !isRightRow(r) {
		return ""
	}
	return "e" + sha(rowBytes(r))
}

func forgotIn(r impl.Row, which ...int) impl.Row {
	out := withFields(r, slices.Clone(r.Fields))
	for _, i := range which {
		out.Fields[i].Gone, out.Fields[i].Salt, out.Fields[i].Value = true, "", ""
	}
	return out
}

func shownIn(r impl.Row, index int) impl.Shown {
	s := impl.Shown{Kind: r.Kind, At: r.At, Index: int64(index), Salt: r.Fields[index].Salt, Value: r.Fields[index].Value}
	for _, f := range r.Fields {
		s.Names, s.Commits = append(s.Names, f.Name), append(s.Commits, f.Commit)
	}
	return s
}

func rowBehind(s impl.Shown) impl.Row {
	r := impl.Row{Kind: s.Kind, At: s.At}
	if len(s.Names) != len(s.Commits) || s.Index < 0 || s.Index >= int64(len(s.Names)) {
		return impl.Row{}
	}
	for i, name := range s.Names {
		f := impl.Field{Name: name, Commit: s.Commits[i], Gone: true}
		if int64(i) == s.Index {
			f = impl.Field{Name: name, Commit: s.Commits[i], Salt: s.Salt, Value: s.Value}
		}
		r.Fields = append(r.Fields, f)
	}
	return r
}

// shownTextOf reckons of any Shown, also of a wrong one; its first number says
// how many Names there are, whatever there is of Commits.
func shownTextOf(s impl.Shown) string {
	out := textsBytes(s.Kind) + numsBytes(s.At, int64(len(s.Names)))
	for i, name := range s.Names {
		out += textsBytes(name)
		if i < len(s.Commits) {
			out += textsBytes(s.Commits[i])
		}
	}
	return out + numsBytes(s.Index) + textsBytes(s.Salt, s.Value)
}

func shownBytesIn(s impl.Shown) string {
	if leafIn(rowBehind(s)) == "" {
		return ""
	}
	return shownTextOf(s)
}

func withFields(r impl.Row, fields []impl.Field) impl.Row {
	return impl.Row{Kind: r.Kind, At: r.At, Fields: fields}
}

func withField(r impl.Row, at int, f impl.Field) impl.Row {
	fields := slices.Clone(r.Fields)
	fields[at] = f
	return withFields(r, fields)
}

func copyOfShown(s impl.Shown) impl.Shown {
	s.Names, s.Commits = slices.Clone(s.Names), slices.Clone(s.Commits)
	return s
}

// withShown is a copy that one call has changed.
func withShown(s impl.Shown, change func(*impl.Shown)) impl.Shown {
	out := copyOfShown(s)
	change(&out)
	return out
}

func sameRow(a, b impl.Row) bool {
	return a.Kind == b.Kind && a.At == b.At && slices.Equal(a.Fields, b.Fields)
}

func sameShown(a, b impl.Shown) bool {
	return a.Kind == b.Kind && a.At == b.At && slices.Equal(a.Names, b.Names) && slices.Equal(a.Commits, b.Commits) &&
		a.Index == b.Index && a.Salt == b.Salt && a.Value == b.Value
}

// asText is a struct as an error can tell it.
func asText(thing any) string {
	return fmt.Sprintf("%.300q", fmt.Sprintf("%+v", thing))
}

func wantRow(t *testing.T, what string, got, want impl.RowOut) {
	t.Helper()
	if got.Code != want.Code || !sameRow(got.Row, want.Row) {
		t.Errorf("%s: got code %d and %s, want %d and %s", what, got.Code, asText(got.Row), want.Code, asText(want.Row))
	}
}

func wantRowCode(t *testing.T, what string, got impl.RowOut, code int64) {
	t.Helper()
	wantRow(t, what, got, impl.RowOut{Code: code})
}

func wantShown(t *testing.T, what string, got, want impl.ShownOut) {
	t.Helper()
	if got.Code != want.Code || !sameShown(got.Shown, want.Shown) {
		t.Errorf("%s: got code %d and %s, want %d and %s", what, got.Code, asText(got.Shown), want.Code, asText(want.Shown))
	}
}

func wantShownCode(t *testing.T, what string, got impl.ShownOut, code int64) {
	t.Helper()
	wantShown(t, what, got, impl.ShownOut{Code: code})
}

// wantNoShown: of such a one no call tells anything; its bytes, as they would
// be, are refused.
func wantNoShown(t *testing.T, what string, s impl.Shown) {
	t.Helper()
	wantBytes(t, what+", its leaf", impl.ShownLeaf(s), "")
	wantBytes(t, what+", its bytes", impl.ShownBytes(s), "")
	var code int64 = impl.ErrSyntax
	if len(shownTextOf(s)) > impl.MaxBytes {
		code = impl.ErrSize
	}
	wantShownCode(t, what+", read", impl.ShownRead(shownTextOf(s)), code)
}

// Names, salts and so on, at their edges.

func rightNames() []string {
	return []string{"a", "z", "b_", "c0", "name", "a123456789_bcdefghiz", strings.Repeat("m", 20)}
}

func wrongNames() []string {
	return []string{"", "_", "0", "9a", "_a", "A", "aB", "a b", "a-b", "a=b", "a\x00", "a\n", "\xe4", "a\xc3\xa4", " a", "a ",
		strings.Repeat("n", 21), strings.Repeat("n", 40), strings.Repeat("n", 256+5), strings.Repeat("n", impl.MaxBytes)}
}

func rightSalts() []string {
	return []string{"s", "\x00", "\xff\x00", mixed(1, 7), mixed(2, impl.MaxSalt)}
}

func wrongSalts() []string {
	return []string{"", mixed(1, impl.MaxSalt+1), mixed(1, 16), mixed(1, 256+4), mixed(1, impl.MaxBytes)}
}

func rightValues() []string {
	return []string{"", "v", "\x00", "\x80\xff", mixed(3, 15), mixed(4, impl.MaxValue)}
}

func wrongValues() []string {
	return []string{mixed(1, impl.MaxValue+1), mixed(1, 32), mixed(1, 256+8), mixed(1, impl.MaxBytes)}
}

func rightTimes() []int64 {
	return []int64{0, 1, 63, 64, 8191, 8192, impl.MaxTime - 1, impl.MaxTime}
}

// wrongTimes: some of them are right ones when they are cut to fewer bits.
func wrongTimes() []int64 {
	return []int64{-1, -2, impl.MaxTime + 1, -impl.MaxTime, 1 << 32, 1<<32 + 5, math.MinInt64, math.MinInt64 + 1, math.MaxInt64}
}

// wrongIndexes: some of them are right ones when they are cut to fewer bits.
func wrongIndexes(count int) []int64 {
	n := int64(count)
	return []int64{-1, n, n + 1, -n, impl.MaxFields, 256, 1 << 16, 1 << 32, 1<<32 + 1, math.MinInt64, math.MaxInt64}
}

func rowIn(kind string, at int64, fields ...impl.Field) impl.Row {
	return impl.Row{Kind: kind, At: at, Fields: fields}
}

// rightRows: of 1, 2 and MaxFields Fields, none of them Gone, no two of one row
// with the same Salt and Value.
func rightRows() []impl.Row {
	salts, values, times := rightSalts(), rightValues(), rightTimes()
	var out []impl.Row
	for i, names := range [][]string{
		{"x"}, {strings.Repeat("y", 20)}, {"only"}, {"a", "b"}, {"a", "aa"}, {"a", "a_"}, {"a9", "aa"}, {"age", "name"},
		{"a", "b", "c"}, {"a", "aa", "aaa"}, {"a0", "a_", "aa"}, {strings.Repeat("q", 18), strings.Repeat("q", 19), strings.Repeat("q", 20)},
	} {
		r := impl.Row{Kind: rightNames()[i%len(rightNames())], At: times[i%len(times)]}
		for j, name := range names {
			r.Fields = append(r.Fields, fieldIn(name, salts[(i+j)%len(salts)], values[(i+2*j)%len(values)]))
		}
		out = append(out, r)
	}
	return out
}

// orders has each order of the numbers below count.
func orders(count int) [][]int {
	if count == 0 {
		return [][]int{nil}
	}
	var out [][]int
	for _, order := range orders(count - 1) {
		for at := range count {
			out = append(out, slices.Insert(slices.Clone(order), at, count-1))
		}
	}
	return out
}

// partlyGone has of a row what it is with each choice of its Fields forgotten.
func partlyGone(r impl.Row) []impl.Row {
	var out []impl.Row
	for choice := range 1 << len(r.Fields) {
		var which []int
		for i := range r.Fields {
			if choice>>i&1 == 1 {
				which = append(which, i)
			}
		}
		out = append(out, forgotIn(r, which...))
	}
	return out
}

// wrongFields has what a Field is with one fault.
func wrongFields(f impl.Field) []impl.Field {
	var out []impl.Field
	add := func(change func(*impl.Field)) {
		wrong := f
		change(&wrong)
		out = append(out, wrong)
	}
	for _, name := range wrongNames() {
		add(func(w *impl.Field) { w.Name = name })
		add(func(w *impl.Field) { w.Name, w.Commit = name, sha("\x02"+textsBytes(name, f.Salt, f.Value)) })
	}
	for _, commit := range sized(f.Commit) {
		add(func(w *impl.Field) { w.Commit = commit })
	}
	if f.Gone {
		add(func(w *impl.Field) { w.Salt = "s" })
		add(func(w *impl.Field) { w.Value = "v" })
		add(func(w *impl.Field) { w.Salt, w.Value = "s", "v" })
		add(func(w *impl.Field) { w.Salt, w.Commit = "s", commitIn(f.Name, "s", "") })
		add(func(w *impl.Field) { w.Gone = false })
		return out
	}
	add(func(w *impl.Field) { w.Gone = true })
	add(func(w *impl.Field) { w.Name = f.Name[:len(f.Name)-1] + "w" })
	add(func(w *impl.Field) { w.Commit = turned(f.Commit, 31) })
	add(func(w *impl.Field) { w.Salt = turned(f.Salt, 0) })
	add(func(w *impl.Field) { w.Value = f.Value + "\x00" })
	for _, salt := range wrongSalts() {
		add(func(w *impl.Field) { w.Salt, w.Commit = salt, sha("\x02"+textsBytes(f.Name, salt, f.Value)) })
		add(func(w *impl.Field) { w.Salt, w.Commit = salt, "" })
	}
	for _, value := range wrongValues() {
		add(func(w *impl.Field) { w.Value, w.Commit = value, sha("\x02"+textsBytes(f.Name, f.Salt, value)) })
	}
	return out
}

// wrongRows: each has one fault.
func wrongRows() []impl.Row {
	one, two := rowIn("user", 3, fieldIn("a", "s", "1")), rowIn("user", 3, fieldIn("a", "s", "1"), fieldIn("b", "t", "2"))
	three := rowIn("user", 3, append(slices.Clone(two.Fields), fieldIn("c", "u", "3"))...)
	four := rowIn("user", 3, append(slices.Clone(three.Fields), fieldIn("d", "w", "4"))...)
	out := []impl.Row{{}, withFields(one, nil), withFields(one, []impl.Field{}), four, forgotIn(four, 0, 1, 2, 3),
		withFields(two, slices.Repeat(two.Fields, impl.MaxList))}
	for _, kind := range wrongNames() {
		out = append(out, rowIn(kind, 3, one.Fields...), forgotIn(rowIn(kind, 3, two.Fields...), 1))
	}
	for _, at := range wrongTimes() {
		out = append(out, rowIn("user", at, one.Fields...), forgotIn(rowIn("user", at, three.Fields...), 0, 1, 2))
	}
	for _, order := range orders(3)[1:] {
		if !slices.IsSorted(order) {
			fields := []impl.Field{three.Fields[order[0]], three.Fields[order[1]], three.Fields[order[2]]}
			out = append(out, withFields(three, fields), forgotIn(withFields(three, fields), 0, 1, 2))
		}
	}
	out = append(out, withFields(two, []impl.Field{two.Fields[1], two.Fields[0]}))
	out = append(out, withField(two, 1, two.Fields[0]), withField(two, 1, fieldIn("a", "other", "9")), forgotIn(withField(two, 1, two.Fields[0]), 1),
		withField(three, 2, three.Fields[1]), withField(three, 1, three.Fields[0]), withField(three, 1, three.Fields[2]))
	for _, r := range []impl.Row{one, two, three, forgotIn(three, 0, 1, 2)} {
		for i, f := range r.Fields {
			for _, wrong := range wrongFields(f) {
				out = append(out, withField(r, i, wrong))
			}
		}
	}
	return out
}

func TestFieldConstants(t *testing.T) {
	if impl.MaxFields != 3 || impl.MaxSalt != 8 || impl.MaxValue != 16 {
		t.Error("a limit is not the document's")
	}
}

func TestWhatTheseTestsTakeForWrongAndRight(t *testing.T) {
	for i, r := range wrongRows() {
		if isRightRow(r) {
			t.Errorf("the wrong row %d is right: %s", i, asText(r))
		}
	}
	for i, r := range rightRows() {
		if !isRightRow(r) {
			t.Errorf("the right row %d is wrong: %s", i, asText(r))
		}
	}
}

// The digests are reckoned by another program.
func TestKnownRows(t *testing.T) {
	for _, c := range []struct {
		kind                  string
		at                    int64
		names, salts, values  []string
		commits, leaf, shown0 string
	}{
		{"user", 3, []string{"age", "name"}, []string{"s", "t"}, []string{"42", "ann"},
			"81f976bdca074cace55c430e7e00dfb411723113b915824533b032dd393bec0e4b0d5760cb69ddb2c3c61291e9d6780f016edf727b69fd51c7c24120a4ff56c3",
			"65f92c00bc68ef247e4ec92c6b50a25d400d1f374c76341b1964dc7ef337aecdd9",
			"08757365720604066167654081f976bdca074cace55c430e7e00dfb411723113b915824533b032dd393bec0e086e616d65404b0d5760cb69ddb2c3c61291e9d6780f016edf727b69fd51c7c24120a4ff56c3000273043432"},
		{"k", impl.MaxTime, []string{"a", strings.Repeat("b", 20), "z_9"}, []string{"\x00", "saltsalt", "\xff"}, []string{"", "sixteen bytes ..", "\x00\x80"},
			"d847efd457fe0487fb4f532e97bca911ee44fb7691a50c5e4f7c552dbba41932e048052d7829c906f1dc1b9ca8b908be4accf0409bc01e11a88d7fa51e34ecace56203b01527caa7d68e004a6c8973a3312e7fadddcf3dc22918510e046a5300",
			"65dc9a1b5342860b8dcc4233829ba634b0235c857112619baef1344f8892797082", ""},
		{"k", 0, []string{"x"}, []string{"s"}, []string{""},
			"b9efcefa1a6a827a1e7a6067cbbf39b5c50a127b599df03b842faf97557d14ad",
			"654f958ce2bcaf6dfc8eaa4f5e13a2ca4a07713a3efe43fd5d9ebb84d1dece72e3",
			"026b0002027840b9efcefa1a6a827a1e7a6067cbbf39b5c50a127b599df03b842faf97557d14ad00027300"},
	} {
		r := impl.RowOf(c.kind, c.at, c.names, c.salts, c.values).Row
		var commits string
		for i, f := range r.Fields {
			commits += f.Commit
			wantBytes(t, "a commit", impl.CommitOf(c.names[i], c.salts[i], c.values[i]), f.Commit)
		}
		wantBytes(t, "the commits", commits, unhex(t, c.commits))
		wantBytes(t, "the leaf", impl.RowLeaf(r), unhex(t, c.leaf))
		if c.shown0 != "" {
			wantBytes(t, "what shows the first", impl.ShownBytes(impl.Show(r, 0).Shown), unhex(t, c.shown0))
		}
	}
}

// Commits.

func TestCommitOf(t *testing.T) {
	for _, name := range append(rightNames(), wrongNames()...) {
		for _, salt := range append(rightSalts(), wrongSalts()...) {
			for _, value := range append(rightValues(), wrongValues()...) {
				wantBytes(t, "the commit of "+name, impl.CommitOf(name, salt, value), commitIn(name, salt, value))
			}
		}
	}
	for size := range impl.MaxSalt + 3 {
		got := impl.CommitOf("a", mixed(1, size), "")
		if want := size >= 1 && size <= 8; (len(got) == 32) != want {
			t.Errorf("a salt of %d bytes: got %x", size, got)
		}
	}
	for size := range impl.MaxValue + 3 {
		got := impl.CommitOf("a", "s", mixed(1, size))
		if want := size <= 16; (len(got) == 32) != want {
			t.Errorf("a value of %d bytes: got %x", size, got)
		}
	}
	long := mixed(1, impl.MaxBytes+1)
	wantBytes(t, "too long a salt", impl.CommitOf("a", long, ""), "")
	wantBytes(t, "too long a value", impl.CommitOf("a", "s", long), "")
	wantBytes(t, "too long a name", impl.CommitOf(strings.Repeat("a", impl.MaxBytes+1), "s", ""), "")
}

// A byte that goes from one of the three to the next makes another commit.
func TestCommitsAreTheirOwn(t *testing.T) {
	all := "abcdefgh"
	seen := map[string]string{}
	for i := 1; i < len(all); i++ {
		for j := i + 1; j <= len(all); j++ {
			what := all[:i] + "|" + all[i:j] + "|" + all[j:]
			commit := impl.CommitOf(all[:i], all[i:j], all[j:])
			if other, ok := seen[commit]; ok || len(commit) != 32 {
				t.Errorf("%s has the commit %x, as %s", what, commit, other)
			}
			seen[commit] = what
		}
	}
}

// Right fields and rows.

func TestFieldRight(t *testing.T) {
	for _, name := range append(rightNames(), wrongNames()...) {
		for _, salt := range append(rightSalts(), wrongSalts()...) {
			for _, value := range append(rightValues(), wrongValues()...) {
				made := sha("\x02" + textsBytes(name, salt, value))
				for _, commit := range []string{made, made[:31], made + "\x00", "", sha("other")} {
					for _, gone := range []bool{false, true} {
						f := impl.Field{Name: name, Commit: commit, Salt: salt, Value: value, Gone: gone}
						if got := impl.FieldRight(f); got != isRightField(f) {
							t.Errorf("FieldRight of %s: got %t", asText(f), got)
						}
					}
				}
			}
		}
	}
}

func TestFieldRightByHand(t *testing.T) {
	f := fieldIn("name", "salt", "value")
	gone := impl.Field{Name: "name", Commit: f.Commit, Gone: true}
	any32 := impl.Field{Name: "name", Commit: mixed(1, 32), Gone: true}
	for _, right := range []impl.Field{f, gone, any32, fieldIn("name", "s", "")} {
		if !impl.FieldRight(right) {
			t.Errorf("%s is not right", asText(right))
		}
	}
	for _, right := range []impl.Field{f, gone, any32} {
		for i, wrong := range wrongFields(right) {
			if impl.FieldRight(wrong) {
				t.Errorf("the wrong field %d of %s is right: %s", i, asText(right), asText(wrong))
			}
		}
	}
	if impl.FieldRight(impl.Field{}) || impl.FieldRight(impl.Field{Gone: true}) {
		t.Error("an empty field is right")
	}
}

func TestFieldRightTakesEachByte(t *testing.T) {
	f := fieldIn("name", "saltsalt", "value of sixteen")
	for at := range 32 {
		for _, wrong := range []impl.Field{
			{Name: f.Name, Commit: turned(f.Commit, at), Salt: f.Salt, Value: f.Value},
			{Name: f.Name, Commit: f.Commit, Salt: turned(f.Salt, at), Value: f.Value},
			{Name: f.Name, Commit: f.Commit, Salt: f.Salt, Value: turned(f.Value, at)},
		} {
			if impl.FieldRight(wrong) {
				t.Errorf("%s is right", asText(wrong))
			}
		}
		gone := impl.Field{Name: f.Name, Commit: turned(f.Commit, at), Gone: true}
		if !impl.FieldRight(gone) {
			t.Error("of one that is Gone nobody knows what its Commit was made of")
		}
	}
}

func TestRowRight(t *testing.T) {
	for _, r := range rightRows() {
		for _, gone := range partlyGone(r) {
			if !impl.RowRight(gone) {
				t.Errorf("a right row is not right: %s", asText(gone))
			}
		}
	}
	for i, r := range wrongRows() {
		if impl.RowRight(r) {
			t.Errorf("the wrong row %d is right: %s", i, asText(r))
		}
	}
	for _, kind := range rightNames() {
		for _, at := range rightTimes() {
			if !impl.RowRight(rowIn(kind, at, fieldIn("a", "s", ""))) {
				t.Errorf("a row of %s at %d is not right", kind, at)
			}
		}
	}
	if impl.RowRight(rowIn(strings.Repeat("k", impl.MaxBytes+1), 0, fieldIn("a", "s", ""))) {
		t.Error("a row of a Kind that is far too long is right")
	}
}

// Rising is byte by byte, the shorter one first.
func TestRowsRiseByName(t *testing.T) {
	names := []string{"a", "a0", "a00", "a9", "a_", "a__", "aa", "ab", "b", "b0", "z"}
	for i, first := range names {
		for j, second := range names {
			r := rowIn("user", 0, fieldIn(first, "s", "1"), fieldIn(second, "t", "2"))
			if got := impl.RowRight(r); got != (i < j) {
				t.Errorf("a row of %s and %s: right is %t", first, second, got)
			}
			code := impl.RowOf("user", 0, []string{first, second}, []string{"s", "t"}, []string{"1", "2"}).Code
			if (code == impl.OK) != (i < j) {
				t.Errorf("RowOf %s and %s: code %d", first, second, code)
			}
		}
	}
}

// partsOf has the three lists that a row is made of.
func partsOf(r impl.Row) (names, salts, values []string) {
	for _, f := range r.Fields {
		names, salts, values = append(names, f.Name), append(salts, f.Salt), append(values, f.Value)
	}
	return names, salts, values
}

func TestRowOf(t *testing.T) {
	for _, r := range rightRows() {
		names, salts, values := partsOf(r)
		wantRow(t, "a row", impl.RowOf(r.Kind, r.At, names, salts, values), impl.RowOut{Row: r})
	}
	for i, name := range rightNames() {
		for _, salt := range append(rightSalts(), wrongSalts()...) {
			for _, value := range append(rightValues(), wrongValues()...) {
				at := rightTimes()[i]
				want := impl.RowOut{Row: rowIn("kind", at, fieldIn(name, salt, value))}
				if !isRightRow(want.Row) {
					want = impl.RowOut{Code: impl.ErrForm}
				}
				wantRow(t, "a row of one", impl.RowOf("kind", at, []string{name}, []string{salt}, []string{value}), want)
			}
		}
	}
}

func TestRowOfFaults(t *testing.T) {
	names, salts, values := []string{"a", "b", "c"}, []string{"s", "t", "u"}, []string{"", "v", "w"}
	for _, kind := range wrongNames() {
		wantRowCode(t, "no kind", impl.RowOf(kind, 3, names, salts, values), impl.ErrForm)
	}
	for _, at := range wrongTimes() {
		wantRowCode(t, "no time", impl.RowOf("user", at, names, salts, values), impl.ErrForm)
	}
	for at := range 3 {
		for _, name := range append(wrongNames(), strings.Repeat("a", impl.MaxBytes+1)) {
			wantRowCode(t, "no name", impl.RowOf("user", 3, putIn(names, at, name), salts, values), impl.ErrForm)
		}
		for _, salt := range append(wrongSalts(), mixed(1, impl.MaxBytes+1)) {
			wantRowCode(t, "no salt", impl.RowOf("user", 3, names, putIn(salts, at, salt), values), impl.ErrForm)
		}
		for _, value := range append(wrongValues(), mixed(1, impl.MaxBytes+1)) {
			wantRowCode(t, "no value", impl.RowOf("user", 3, names, salts, putIn(values, at, value)), impl.ErrForm)
		}
	}
	for _, order := range [][]string{{"b", "a", "c"}, {"a", "c", "b"}, {"c", "b", "a"}, {"a", "a", "b"}, {"a", "b", "b"}, {"a", "b", "a"}, {"a", "a", "a"}} {
		wantRowCode(t, "not rising", impl.RowOf("user", 3, order, salts, values), impl.ErrForm)
	}
}

// Each choice of so many names, salts and values.
func TestRowOfCounts(t *testing.T) {
	list := func(count int) []string {
		var out []string
		for i := range count {
			out = append(out, fmt.Sprintf("n%03d", i))
		}
		return out
	}
	counts := []int{0, 1, 2, 3, 4, 5, 100, impl.MaxList, impl.MaxList + 1, impl.MaxList + 100}
	for _, n := range counts {
		for _, s := range counts {
			for _, v := range counts {
				what := fmt.Sprintf("%d names, %d salts, %d values", n, s, v)
				got := impl.RowOf("user", 3, list(n), list(s), list(v))
				switch {
				case n > impl.MaxList || s > impl.MaxList || v > impl.MaxList:
					wantRowCode(t, what, got, impl.ErrSize)
				case n != s || n != v || n < 1 || n > 3:
					wantRowCode(t, what, got, impl.ErrForm)
				case got.Code != impl.OK || len(got.Row.Fields) != n || !isRightRow(got.Row):
					t.Errorf("%s: got code %d and %s", what, got.Code, asText(got.Row))
				}
			}
		}
	}
}

// What is too long or too many is told ahead of all else.
func TestRowOfSizesFirst(t *testing.T) {
	one, none, many := []string{"a"}, []string(nil), make([]string, impl.MaxList+1)
	for _, size := range []int{impl.MaxBytes + 1, 2 * impl.MaxBytes} {
		kind := strings.Repeat("k", size)
		wantRowCode(t, "too long a kind", impl.RowOf(kind, 3, one, one, one), impl.ErrSize)
		wantRowCode(t, "too long a kind, and no time", impl.RowOf(kind, -1, one, one, one), impl.ErrSize)
		wantRowCode(t, "too long a kind, and no names", impl.RowOf(kind, 3, none, one, one), impl.ErrSize)
	}
	wantRowCode(t, "a kind as long as a text may be", impl.RowOf(strings.Repeat("k", impl.MaxBytes), 3, one, one, one), impl.ErrForm)
	for _, kind := range []string{"user", "", "_"} {
		for _, at := range []int64{0, -1, impl.MaxTime + 1} {
			wantRowCode(t, "too many names", impl.RowOf(kind, at, many, one, one), impl.ErrSize)
			wantRowCode(t, "too many salts", impl.RowOf(kind, at, one, many, none), impl.ErrSize)
			wantRowCode(t, "too many values", impl.RowOf(kind, at, none, one, many), impl.ErrSize)
			wantRowCode(t, "too many of all", impl.RowOf(kind, at, many, many, many), impl.ErrSize)
		}
	}
}

// Leaves.

func TestRowLeaf(t *testing.T) {
	for _, r := range rightRows() {
		for _, gone := range partlyGone(r) {
			leaf := impl.RowLeaf(gone)
			wantBytes(t, "a leaf", leaf, "e"+sha(rowBytes(r)))
			if len(leaf) != 33 || leaf[0] != 101 {
				t.Errorf("a leaf is %x", leaf)
			}
		}
	}
	for _, r := range wrongRows() {
		wantBytes(t, "a leaf of a wrong row", impl.RowLeaf(r), "")
	}
}

// otherRows has rows that are unlike r in one thing that its leaf tells.
func otherRows(r impl.Row) []impl.Row {
	out := []impl.Row{rowIn(r.Kind[:len(r.Kind)-1]+"w", r.At, r.Fields...), rowIn(r.Kind, (r.At+1)%impl.MaxTime, r.Fields...), rowIn(r.Kind, r.At^2, r.Fields...)}
	if len(r.Fields) > 1 {
		out = append(out, withFields(r, r.Fields[1:]), withFields(r, r.Fields[:len(r.Fields)-1]))
	}
	for i, f := range r.Fields {
		salt := turned(f.Salt, 0)
		out = append(out, withField(r, i, fieldIn(f.Name, salt, f.Value)))
		out = append(out, withField(r, i, fieldIn(f.Name, f.Salt, (f.Value + "w")[len(f.Value)/16:])))
		gone := impl.Field{Name: f.Name, Commit: f.Commit, Gone: true}
		out = append(out, withField(r, i, impl.Field{Name: f.Name, Commit: turned(f.Commit, 9), Gone: true}))
		gone.Name = f.Name[:len(f.Name)-1] + "w"
		out = append(out, withField(r, i, gone))
	}
	return slices.DeleteFunc(out, func(other impl.Row) bool { return !isRightRow(other) })
}

func TestOtherRowsHaveOtherLeaves(t *testing.T) {
	for _, r := range rightRows() {
		seen := map[string]bool{impl.RowLeaf(r): true}
		others := otherRows(r)
		if len(others) < 5 {
			t.Errorf("only %d others of %s", len(others), asText(r))
		}
		for _, other := range others {
			leaf := impl.RowLeaf(other)
			wantBytes(t, "another's leaf", leaf, leafIn(other))
			if seen[leaf] {
				t.Errorf("the leaf of %s is another's, too", asText(other))
			}
			seen[leaf] = true
		}
	}
}

// Promise 10.

func TestLeafStaysWhateverIsForgotten(t *testing.T) {
	for _, r := range rightRows() {
		leaf := impl.RowLeaf(r)
		wantBytes(t, "the leaf", leaf, leafIn(r))
		for _, order := range orders(len(r.Fields)) {
			now := r
			for step, index := range order {
				got := impl.Forget(now, int64(index))
				wantRow(t, "forgotten", got, impl.RowOut{Row: forgotIn(r, order[:step+1]...)})
				wantBytes(t, "the leaf behind forgetting", impl.RowLeaf(got.Row), leaf)
				wantForgotten(t, now, got.Row, index)
				now = got.Row
			}
		}
	}
}

// wantForgotten: nothing is left of that one, and all of the others.
func wantForgotten(t *testing.T, before, behind impl.Row, index int) {
	t.Helper()
	if len(behind.Fields) != len(before.Fields) {
		t.Fatalf("of %d Fields %d are left", len(before.Fields), len(behind.Fields))
	}
	for i, f := range behind.Fields {
		if i != index && f != before.Fields[i] {
			t.Errorf("the Field %d was %s, is %s behind forgetting %d", i, asText(before.Fields[i]), asText(f), index)
		}
	}
	f := behind.Fields[index]
	if !f.Gone || f.Salt != "" || f.Value != "" || f.Commit != before.Fields[index].Commit || f.Name != before.Fields[index].Name {
		t.Errorf("what was forgotten is %s", asText(f))
	}
	if !impl.RowRight(behind) {
		t.Errorf("behind forgetting the row is not right: %s", asText(behind))
	}
	for range 2 {
		wantRowCode(t, "forgotten a second time", impl.Forget(behind, int64(index)), impl.ErrThere)
	}
}

func TestForgetFaults(t *testing.T) {
	for _, r := range rightRows() {
		for _, gone := range partlyGone(r) {
			for _, index := range wrongIndexes(len(r.Fields)) {
				wantRowCode(t, "no such field", impl.Forget(gone, index), impl.ErrNone)
			}
			for i, f := range gone.Fields {
				if f.Gone {
					wantRowCode(t, "one that is gone", impl.Forget(gone, int64(i)), impl.ErrThere)
				}
			}
		}
	}
	for _, r := range wrongRows() {
		for _, index := range append(wrongIndexes(len(r.Fields)), 0, 1, 2) {
			wantRowCode(t, "a field of a wrong row", impl.Forget(r, index), impl.ErrForm)
		}
	}
}

// Showing.

func TestShow(t *testing.T) {
	for _, r := range rightRows() {
		for _, gone := range partlyGone(r) {
			for i, f := range gone.Fields {
				if f.Gone {
					wantShownCode(t, "one that is gone", impl.Show(gone, int64(i)), impl.ErrState)
					continue
				}
				wantShown(t, "shown", impl.Show(gone, int64(i)), impl.ShownOut{Shown: shownIn(r, i)})
			}
			for _, index := range wrongIndexes(len(r.Fields)) {
				wantShownCode(t, "no such field", impl.Show(gone, index), impl.ErrNone)
			}
		}
	}
	for _, r := range wrongRows() {
		for _, index := range append(wrongIndexes(len(r.Fields)), 0, 1, 2) {
			wantShownCode(t, "a field of a wrong row", impl.Show(r, index), impl.ErrForm)
		}
	}
}

// Promise 11.

func TestWhatShowsAFieldLeadsToTheLeaf(t *testing.T) {
	for _, r := range rightRows() {
		leaf := impl.RowLeaf(r)
		for _, order := range orders(len(r.Fields)) {
			last, now := order[len(order)-1], r
			for _, index := range order {
				s := impl.Show(now, int64(last)).Shown
				wantBytes(t, "where it leads", impl.ShownLeaf(s), leaf)
				wantShownComesBack(t, s)
				if index != last {
					now = impl.Forget(now, int64(index)).Row
				}
			}
			wantShown(t, "with all others forgotten", impl.Show(now, int64(last)), impl.Show(r, int64(last)))
			wantShownCode(t, "itself forgotten", impl.Show(impl.Forget(now, int64(last)).Row, int64(last)), impl.ErrState)
		}
	}
}

func wantShownComesBack(t *testing.T, s impl.Shown) {
	t.Helper()
	text := impl.ShownBytes(s)
	wantBytes(t, "the bytes of a Shown", text, shownBytesIn(s))
	if text == "" {
		t.Errorf("a right Shown has no bytes: %s", asText(s))
	}
	wantShown(t, "read again", impl.ShownRead(text), impl.ShownOut{Shown: s})
}

// allShown has what shows each field of each right row.
func allShown() []impl.Shown {
	var out []impl.Shown
	for _, r := range rightRows() {
		for i := range r.Fields {
			out = append(out, shownIn(r, i))
		}
	}
	return out
}

// The others' Commits are any 32 bytes: of what they are made nothing is told.
func TestShownOfUnknownCommits(t *testing.T) {
	for _, s := range allShown() {
		for i := range s.Commits {
			if int64(i) != s.Index {
				other := withShown(s, func(o *impl.Shown) { o.Commits[i] = mixed(uint64(i), 32) })
				wantBytes(t, "where it leads", impl.ShownLeaf(other), leafIn(rowBehind(other)))
				wantShownComesBack(t, other)
				if impl.ShownLeaf(other) == impl.ShownLeaf(s) {
					t.Error("with another Commit it leads to the same leaf")
				}
			}
		}
	}
}

// otherTexts has many that are unlike a salt or a value, right and wrong ones.
func otherTexts(text string) []string {
	out := append(append(rightSalts(), rightValues()...), append(wrongSalts(), wrongValues()...)...)
	out = append(out, text+"\x00", "\x00"+text, text+text+"x")
	for at := range text {
		out = append(out, turned(text, at), text[:at], text[at+1:])
	}
	return slices.DeleteFunc(out, func(other string) bool { return other == text })
}

func TestAnotherSaltOrValueLeadsNowhere(t *testing.T) {
	for _, s := range allShown() {
		for _, salt := range otherTexts(s.Salt) {
			wantNoShown(t, "another salt", withShown(s, func(o *impl.Shown) { o.Salt = salt }))
		}
		for _, value := range otherTexts(s.Value) {
			wantNoShown(t, "another value", withShown(s, func(o *impl.Shown) { o.Value = value }))
		}
		wantNoShown(t, "salt and value the other way", withShown(s, func(o *impl.Shown) { o.Salt, o.Value = s.Value+"x", s.Salt }))
	}
}

// With another value it leads to the row that has that value, if its Commit is
// that of this value.
func TestAnotherValueOfItsOwnCommit(t *testing.T) {
	for _, r := range rightRows() {
		for i, f := range r.Fields {
			for _, value := range rightValues() {
				other := withField(r, i, fieldIn(f.Name, f.Salt, value))
				s := withShown(shownIn(r, i), func(o *impl.Shown) { o.Value = value })
				if same := impl.CommitOf(f.Name, f.Salt, value) == f.Commit; (impl.ShownLeaf(s) != "") != same {
					t.Errorf("%s with the value %q: one digest is %t, the leaf %x", asText(r), value, same, impl.ShownLeaf(s))
				}
				s.Commits[i] = impl.CommitOf(f.Name, f.Salt, value)
				wantBytes(t, "the other row's leaf", impl.ShownLeaf(s), impl.RowLeaf(other))
			}
		}
	}
}

func TestAnotherIndexLeadsNowhere(t *testing.T) {
	for _, s := range allShown() {
		for _, index := range append(wrongIndexes(len(s.Names)), 0, 1, 2) {
			if index != s.Index {
				wantNoShown(t, fmt.Sprintf("%d in the place of %d", index, s.Index), withShown(s, func(o *impl.Shown) { o.Index = index }))
			}
		}
	}
}

// Two fields of one Salt and Value have Commits of their own, by their Names;
// what shows one of them shows the other, too, under the other's Index.
func TestAnotherIndexOfTheSameSaltAndValue(t *testing.T) {
	r := rowIn("same", 5, fieldIn("a", "salt", "value"), fieldIn("b", "salt", "value"), fieldIn("c", "salt", "other"))
	first, second := impl.Show(r, 0).Shown, impl.Show(r, 1).Shown
	if first.Commits[0] == first.Commits[1] {
		t.Error("two names have one commit")
	}
	turnedOver := withShown(first, func(o *impl.Shown) { o.Index = 1 })
	wantShown(t, "the other one", impl.ShownOut{Shown: turnedOver}, impl.ShownOut{Shown: second})
	wantBytes(t, "where it leads", impl.ShownLeaf(turnedOver), impl.RowLeaf(r))
	wantShownComesBack(t, turnedOver)
	wantNoShown(t, "one of another value", withShown(first, func(o *impl.Shown) { o.Index = 2 }))
}

// wantElsewhere: such a one leads nowhere, or to another leaf, as the second
// reckoning has it.
func wantElsewhere(t *testing.T, what string, s impl.Shown, leaf string) {
	t.Helper()
	want := leafIn(rowBehind(s))
	if want == "" {
		wantNoShown(t, what, s)
		return
	}
	wantBytes(t, what, impl.ShownLeaf(s), want)
	wantShownComesBack(t, s)
	if impl.ShownLeaf(s) == leaf {
		t.Errorf("%s: it leads to the same leaf", what)
	}
}

func TestAnotherKindOrTimeLeadsElsewhere(t *testing.T) {
	for _, s := range allShown() {
		leaf := impl.ShownLeaf(s)
		for _, kind := range append(rightNames(), wrongNames()...) {
			if kind != s.Kind {
				wantElsewhere(t, "another kind", withShown(s, func(o *impl.Shown) { o.Kind = kind }), leaf)
			}
		}
		for _, at := range append(rightTimes(), wrongTimes()...) {
			if at != s.At {
				wantElsewhere(t, "another time", withShown(s, func(o *impl.Shown) { o.At = at }), leaf)
			}
		}
	}
}

func TestAnotherNameOrCommitLeadsElsewhere(t *testing.T) {
	for _, s := range allShown() {
		leaf := impl.ShownLeaf(s)
		for i := range s.Names {
			for _, name := range append(append(rightNames(), s.Names...), wrongNames()...) {
				if name != s.Names[i] {
					wantElsewhere(t, "another name", withShown(s, func(o *impl.Shown) { o.Names[i] = name }), leaf)
				}
			}
			for at := range 32 {
				wantElsewhere(t, "a commit turned", withShown(s, func(o *impl.Shown) { o.Commits = turnedIn(s.Commits, i, at) }), leaf)
			}
			for _, commit := range append(slices.Clone(s.Commits), sized(s.Commits[i])...) {
				if commit != s.Commits[i] && len(commit) <= impl.MaxBytes {
					wantElsewhere(t, "another commit", withShown(s, func(o *impl.Shown) { o.Commits[i] = commit }), leaf)
				}
			}
		}
	}
}

// More and fewer Names and Commits, alike and unlike.
func TestShownOfOtherCounts(t *testing.T) {
	for _, s := range allShown() {
		for _, names := range []int{0, 1, 2, 3, 4, 5, impl.MaxList + 1} {
			for _, commits := range []int{0, 1, 2, 3, 4, 5, impl.MaxList + 1} {
				other := copyOfShown(s)
				for i := len(s.Names); i < names; i++ {
					other.Names = append(other.Names, fmt.Sprintf("z%03d", i))
				}
				for i := len(s.Commits); i < commits; i++ {
					other.Commits = append(other.Commits, mixed(uint64(i), 32))
				}
				other.Names, other.Commits = other.Names[:names], other.Commits[:commits]
				if names != len(s.Names) || commits != len(s.Commits) {
					wantCount(t, other, impl.ShownLeaf(s))
				}
			}
		}
	}
}

func wantCount(t *testing.T, s impl.Shown, leaf string) {
	t.Helper()
	what := fmt.Sprintf("%d names, %d commits, index %d", len(s.Names), len(s.Commits), s.Index)
	if len(s.Names) == len(s.Commits) && len(s.Names) <= impl.MaxFields {
		wantElsewhere(t, what, s, leaf)
		return
	}
	wantBytes(t, what, impl.ShownLeaf(s), "")
	wantBytes(t, what, impl.ShownBytes(s), "")
}

func TestShownOfWrongOnes(t *testing.T) {
	wantNoShown(t, "an empty one", impl.Shown{})
	wantNoShown(t, "one without fields", impl.Shown{Kind: "user", At: 3})
	wantNoShown(t, "one without fields, but a salt", impl.Shown{Kind: "user", At: 3, Salt: "s", Value: "v"})
	good := shownIn(rightRows()[0], 0)
	for _, far := range []impl.Shown{
		withShown(good, func(o *impl.Shown) { o.Kind = strings.Repeat("k", impl.MaxBytes+1) }),
		withShown(good, func(o *impl.Shown) { o.Names[0] = strings.Repeat("k", impl.MaxBytes+1) }),
		withShown(good, func(o *impl.Shown) { o.Commits[0] = mixed(1, impl.MaxBytes+1) }),
		withShown(good, func(o *impl.Shown) { o.Salt = mixed(1, impl.MaxBytes+1) }),
		withShown(good, func(o *impl.Shown) { o.Value = mixed(1, impl.MaxBytes+1) }),
	} {
		wantBytes(t, "far too long", impl.ShownLeaf(far), "")
		wantBytes(t, "far too long", impl.ShownBytes(far), "")
	}
	for _, r := range wrongRows() {
		for i, f := range r.Fields[:min(len(r.Fields), 4)] {
			if !f.Gone {
				wantBytes(t, "of a wrong row", impl.ShownLeaf(shownIn(r, i)), leafIn(rowBehind(shownIn(r, i))))
			}
		}
	}
}

// Reading.

func TestShownComesBack(t *testing.T) {
	for _, s := range allShown() {
		wantShownComesBack(t, s)
	}
	for _, salt := range rightSalts() {
		for _, value := range rightValues() {
			for _, at := range rightTimes() {
				r := rowIn("kind", at, fieldIn("a", salt, value), fieldIn("b", salt, value))
				wantShownComesBack(t, shownIn(r, 0))
				wantShownComesBack(t, shownIn(r, 1))
			}
		}
	}
}

// wantRefused: refused, or the bytes of another right Shown; that it tells.
func wantRefused(t *testing.T, what, text string, was impl.Shown) bool {
	t.Helper()
	got := impl.ShownRead(text)
	if got.Code != impl.OK {
		wantShownCode(t, what, got, impl.ErrSyntax)
		return false
	}
	if sameShown(got.Shown, was) || shownBytesIn(got.Shown) != text || impl.ShownBytes(got.Shown) != text {
		t.Errorf("%s: %x is read as %s", what, text, asText(got.Shown))
	}
	if impl.ShownLeaf(got.Shown) == impl.ShownLeaf(was) {
		t.Errorf("%s: %x leads to the same leaf", what, text)
	}
	return true
}

func TestShownReadOfTurnedBytes(t *testing.T) {
	others := 0
	for i, s := range allShown() {
		text := impl.ShownBytes(s)
		for at := range len(text) {
			for by := 1; by < 256; by++ {
				if i%5 != 0 && by&(by-1) != 0 {
					continue // of most of them one bit at a time is enough
				}
				other := []byte(text)
				other[at] ^= byte(by)
				if wantRefused(t, "a byte turned", string(other), s) {
					others++
				}
			}
		}
	}
	if others == 0 {
		t.Error("no byte turned made another right one: of a Kind, a time or another's Commit some should")
	}
}

func TestShownReadOfOtherLengths(t *testing.T) {
	for i, s := range allShown() {
		text := impl.ShownBytes(s)
		for at := range len(text) {
			wantShownCode(t, "cut", impl.ShownRead(text[:at]), impl.ErrSyntax)
			wantRefused(t, "the beginning lacks", text[at+1:], s)
			wantRefused(t, "a byte lacks", text[:at]+text[at+1:], s)
			wantRefused(t, "a byte more", text[:at]+mixed(uint64(i+at), 1)+text[at:], s)
			wantRefused(t, "a byte twice", text[:at+1]+text[at:], s)
		}
		for b := range 256 {
			wantShownCode(t, "one more behind", impl.ShownRead(text+string([]byte{byte(b)})), impl.ErrSyntax)
		}
		for _, behind := range []string{"\x00\x00", text, strings.Repeat("\x00", impl.MaxBytes-len(text)), mixed(1, impl.MaxBytes-len(text))} {
			wantShownCode(t, "more behind", impl.ShownRead(text+behind), impl.ErrSyntax)
		}
		wantShownCode(t, "one too many behind", impl.ShownRead(text+mixed(1, impl.MaxBytes+1-len(text))), impl.ErrSize)
	}
}

// Numbers with a byte more than they need, and counts that are not the Names'.
func TestShownReadOfOtherNumbers(t *testing.T) {
	r := rowIn("user", 3, fieldIn("a", "s", "1"), fieldIn("b", "t", "2"))
	a, b := textsBytes("a", r.Fields[0].Commit), textsBytes("b", r.Fields[1].Commit)
	c := textsBytes("c", mixed(1, 32))
	d, tail := textsBytes("d", mixed(2, 32)), numsBytes(1)+textsBytes("t", "2")
	head := textsBytes("user") + numsBytes(3)
	wantShown(t, "as it should be", impl.ShownRead(head+numsBytes(2)+a+b+tail), impl.ShownOut{Shown: shownIn(r, 1)})
	wantShown(t, "of three", impl.ShownRead(head+numsBytes(3)+a+b+c+tail),
		impl.ShownOut{Shown: shownIn(withFields(r, append(slices.Clone(r.Fields), impl.Field{Name: "c", Commit: mixed(1, 32)})), 1)})
	for what, text := range map[string]string{
		"two, called one":              head + numsBytes(1) + a + b + tail,
		"two, called three":            head + numsBytes(3) + a + b + tail,
		"two, called none":             head + numsBytes(0) + a + b + tail,
		"none":                         head + numsBytes(0) + tail,
		"none, of the index 0":         head + numsBytes(0) + numsBytes(0) + textsBytes("t", "2"),
		"none, of the index -1":        head + numsBytes(0) + numsBytes(-1) + textsBytes("t", "2"),
		"fewer than none":              head + numsBytes(-1) + a + b + tail,
		"fewer than none, none there":  head + numsBytes(-1) + tail,
		"four":                         head + numsBytes(4) + a + b + c + d + tail,
		"three, called four":           head + numsBytes(4) + a + b + c + tail,
		"three, called very many":      head + numsBytes(math.MaxInt64) + a + b + c + tail,
		"the fewest":                   head + numsBytes(math.MinInt64) + a + b + tail,
		"two, called 2 and 2^32":       head + numsBytes(1<<32+2) + a + b + tail,
		"not rising":                   head + numsBytes(2) + b + a + numsBytes(0) + textsBytes("t", "2"),
		"one twice":                    head + numsBytes(2) + b + b + tail,
		"a kind's length with more":    "\x88\x00user" + numsBytes(3, 2) + a + b + tail,
		"a time with more":             textsBytes("user") + "\x86\x00" + numsBytes(2) + a + b + tail,
		"a count with more":            head + "\x84\x00" + a + b + tail,
		"an index with more":           head + numsBytes(2) + a + b + "\x82\x00" + textsBytes("t", "2"),
		"a salt's length with more":    head + numsBytes(2) + a + b + numsBytes(1) + "\x82\x00t" + textsBytes("2"),
		"a value's length with more":   head + numsBytes(2) + a + b + numsBytes(1) + textsBytes("t") + "\x82\x002",
		"a value's length below 0":     head + numsBytes(2) + a + b + numsBytes(1) + textsBytes("t") + numsBytes(-1) + "2",
		"a value's length beyond":      head + numsBytes(2) + a + b + numsBytes(1) + textsBytes("t") + numsBytes(2) + "2",
		"a value's length far beyond":  head + numsBytes(2) + a + b + numsBytes(1) + textsBytes("t") + numsBytes(math.MaxInt64) + "2",
		"a number of eleven bytes":     strings.Repeat("\xff", 11),
		"nothing":                      "",
		"x":                            "x",
		"a kind alone":                 textsBytes("user"),
		"a time that is none":          textsBytes("user") + numsBytes(impl.MaxTime+1, 2) + a + b + tail,
		"a time below 0":               textsBytes("user") + numsBytes(-1, 2) + a + b + tail,
		"the value of another":         head + numsBytes(2) + a + b + numsBytes(1) + textsBytes("t", "1"),
		"the index of another":         head + numsBytes(2) + a + b + numsBytes(0) + textsBytes("t", "2"),
		"no salt":                      head + numsBytes(2) + a + b + numsBytes(1) + textsBytes("", "2"),
		"a leaf's text, nothing shown": head + numsBytes(2) + a + b,
	} {
		wantShownCode(t, what, impl.ShownRead(text), impl.ErrSyntax)
	}
}

func TestShownReadSizes(t *testing.T) {
	for _, size := range []int{1, 33, 100, impl.MaxBytes - 1, impl.MaxBytes} {
		wantShownCode(t, "mixed bytes", impl.ShownRead(mixed(9, size)), impl.ErrSyntax)
		wantShownCode(t, "bytes 0", impl.ShownRead(strings.Repeat("\x00", size)), impl.ErrSyntax)
		wantShownCode(t, "bytes 128", impl.ShownRead(strings.Repeat("\x80", size)), impl.ErrSyntax)
	}
	for _, size := range []int{impl.MaxBytes + 1, 2 * impl.MaxBytes} {
		wantShownCode(t, "too long", impl.ShownRead(mixed(9, size)), impl.ErrSize)
		wantShownCode(t, "too long, bytes 0", impl.ShownRead(strings.Repeat("\x00", size)), impl.ErrSize)
	}
}

// What is handed in stays, and what was handed back.

func markedField() impl.Field {
	return impl.Field{Name: "mark", Gone: true}
}

// roomyRow is a copy with room behind its Fields that is marked.
func roomyRow(r impl.Row) impl.Row {
	fields := append(make([]impl.Field, 0, len(r.Fields)+5), r.Fields...)
	for i := len(fields); i < cap(fields); i++ {
		fields[:cap(fields)][i] = markedField()
	}
	return withFields(r, fields)
}

func wantRowUntouched(t *testing.T, what string, r, before impl.Row) {
	t.Helper()
	wantRow(t, what, impl.RowOut{Row: r}, impl.RowOut{Row: before})
	for _, f := range r.Fields[len(r.Fields):cap(r.Fields)] {
		if f != markedField() {
			t.Errorf("%s: behind the Fields stands %s", what, asText(f))
		}
	}
}

// rowsFrom and shownsFrom have what the calls make of a row.
func rowsFrom(r impl.Row) []impl.Row {
	names, salts, values := partsOf(r)
	out := []impl.Row{impl.RowOf(r.Kind, r.At, names, salts, values).Row}
	for index := int64(-1); index <= impl.MaxFields; index++ {
		out = append(out, impl.Forget(r, index).Row)
	}
	return out
}

func shownsFrom(r impl.Row) []impl.Shown {
	var out []impl.Shown
	for index := int64(-1); index <= impl.MaxFields; index++ {
		s := impl.Show(r, index).Shown
		impl.ShownLeaf(s)
		out = append(out, s, impl.ShownRead(impl.ShownBytes(s)).Shown)
	}
	return out
}

func spoilRow(r impl.Row) {
	for i := range r.Fields[:cap(r.Fields)] {
		r.Fields[:cap(r.Fields)][i] = impl.Field{Name: "spoiled"}
	}
}

func spoilTexts(list []string) {
	for i := range list[:cap(list)] {
		list[:cap(list)][i] = "spoiled"
	}
}

func spoilShown(s impl.Shown) {
	spoilTexts(s.Names)
	spoilTexts(s.Commits)
}

func TestRowsAreLeftAlone(t *testing.T) {
	rows := wrongRows()
	for _, r := range rightRows() {
		rows = append(rows, partlyGone(r)...)
	}
	for _, r := range rows {
		given := roomyRow(r)
		impl.RowRight(given)
		impl.RowLeaf(given)
		made, shown := rowsFrom(given), shownsFrom(given)
		var kept []impl.Row
		var keptShown []impl.Shown
		for _, row := range made {
			kept = append(kept, withFields(row, slices.Clone(row.Fields)))
		}
		for _, s := range shown {
			keptShown = append(keptShown, copyOfShown(s))
		}
		for _, row := range append([]impl.Row{given}, made...) {
			for _, later := range rowsFrom(row) {
				spoilRow(later)
			}
			for _, later := range shownsFrom(row) {
				spoilShown(later)
			}
		}
		for i := range made {
			wantRow(t, "a row that was told before", impl.RowOut{Row: made[i]}, impl.RowOut{Row: kept[i]})
			spoilRow(made[i])
		}
		for i := range shown {
			wantShown(t, "a Shown that was told before", impl.ShownOut{Shown: shown[i]}, impl.ShownOut{Shown: keptShown[i]})
			spoilShown(shown[i])
		}
		wantRowUntouched(t, "a row", given, r)
	}
}

func TestRowListsAreLeftAlone(t *testing.T) {
	for _, r := range append(wrongRows(), rightRows()...) {
		names, salts, values := partsOf(r)
		givenNames, givenSalts, givenValues := roomy(names), roomy(salts), roomy(values)
		first := impl.RowOf(r.Kind, r.At, givenNames, givenSalts, givenValues).Row
		kept := withFields(first, slices.Clone(first.Fields))
		spoilRow(impl.RowOf(r.Kind, r.At, givenNames, givenSalts, givenValues).Row)
		wantUntouched(t, "names", givenNames, names)
		wantUntouched(t, "salts", givenSalts, salts)
		wantUntouched(t, "values", givenValues, values)
		spoilTexts(givenNames)
		spoilTexts(givenSalts)
		spoilTexts(givenValues)
		wantRow(t, "a row behind its lists are spoiled", impl.RowOut{Row: first}, impl.RowOut{Row: kept})
	}
}

func TestShownsAreLeftAlone(t *testing.T) {
	wrong := withShown(allShown()[0], func(o *impl.Shown) { o.Salt = "other" })
	longer := withShown(allShown()[3], func(o *impl.Shown) { o.Names = append(o.Names, "zz") })
	for _, s := range append(allShown(), wrong, longer, impl.Shown{}) {
		given := s
		given.Names, given.Commits = roomy(s.Names), roomy(s.Commits)
		leaf, text := impl.ShownLeaf(given), impl.ShownBytes(given)
		spoilShown(impl.ShownRead(text).Shown)
		wantUntouched(t, "names", given.Names, s.Names)
		wantUntouched(t, "commits", given.Commits, s.Commits)
		spoilShown(given)
		wantBytes(t, "a leaf told before", leaf, leafIn(rowBehind(s)))
		wantBytes(t, "bytes told before", text, shownBytesIn(s))
	}
}

// The two lists of one Shown do not reach into each other.
func TestShownListsShareNothing(t *testing.T) {
	for _, want := range allShown() {
		read := func() impl.Shown { return impl.ShownRead(shownTextOf(want)).Shown }
		show := func() impl.Shown {
			r := rowBehind(want)
			return impl.Show(r, want.Index).Shown
		}
		for _, tell := range []func() impl.Shown{read, show} {
			s := tell()
			spoilTexts(s.Names)
			wantTexts(t, "commits behind spoiled names", s.Commits, want.Commits)
			s = tell()
			spoilTexts(s.Commits)
			wantTexts(t, "names behind spoiled commits", s.Names, want.Names)
		}
	}
}

// Texts of one byte are left out: the language has one memory for all that are
// alike.
func longEnough(texts []string) []string {
	return slices.DeleteFunc(slices.Clone(texts), func(text string) bool { return len(text) < 2 })
}

func textsOfRow(r impl.Row) []string {
	out := []string{r.Kind}
	for _, f := range r.Fields {
		out = append(out, f.Name, f.Commit, f.Salt, f.Value)
	}
	return longEnough(out)
}

func textsOfShown(s impl.Shown) []string {
	out := []string{s.Kind, s.Salt, s.Value}
	return longEnough(append(append(out, s.Names...), s.Commits...))
}

func wantNewMemory(t *testing.T, what string, told, given []string) {
	t.Helper()
	for i := range told {
		for _, other := range append(slices.Clone(given), told[:i]...) {
			if shares(told[i], other) || shares(other, told[i]) {
				t.Errorf("%s answers with memory that is not new: %q", what, told[i])
			}
		}
	}
}

func TestRowsAreNewMemory(t *testing.T) {
	r := rowIn("kind", 3, fieldIn("aa", "salt", "value"), fieldIn("bb", "salz", "wert"), fieldIn("cc", "sel", "valeur"))
	given := textsOfRow(r)
	names, salts, values := partsOf(r)
	wantNewMemory(t, "RowOf", textsOfRow(impl.RowOf(r.Kind, r.At, names, salts, values).Row), given)
	for index := range int64(3) {
		wantNewMemory(t, "Forget", textsOfRow(impl.Forget(r, index).Row), given)
		s := impl.Show(r, index).Shown
		wantNewMemory(t, "Show", textsOfShown(s), given)
		text := impl.ShownBytes(s)
		wantNewMemory(t, "ShownBytes", []string{text}, textsOfShown(s))
		wantNewMemory(t, "ShownRead", textsOfShown(impl.ShownRead(text).Shown), []string{text})
	}
	wantNewMemory(t, "RowLeaf", []string{impl.RowLeaf(r), impl.RowLeaf(r), impl.ShownLeaf(shownIn(r, 0))}, given)
}

// Nothing is kept: the same calls tell the same, whatever came between.
func TestRowsHaveNoMemory(t *testing.T) {
	r := rightRows()[8]
	tell := func() string {
		return fmt.Sprintf("%q", []any{rowsFrom(r), shownsFrom(r), impl.RowLeaf(r), impl.CommitOf("name", "salt", "value")})
	}
	before := tell()
	for _, other := range append(wrongRows(), rightRows()...) {
		rowsFrom(other)
		shownsFrom(other)
		impl.RowLeaf(other)
	}
	wantBytes(t, "the same again", tell(), before)
}
