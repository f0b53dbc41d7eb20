package tests

import (
	"encoding/binary"
	"fmt"
	"maps"
	"math"
	"regexp"
	"slices"
	"strconv"
	"strings"
	"testing"

	"loop.example/g00633/impl"
)

// A second reckoning of the chapter, by that of the chapters ahead of it.

func isRightHouse(h impl.House) bool {
	return isRightLog(h.Log) && isRightPolicy(h.Policy)
}

func fieldText(f impl.Field) string {
	if f.Gone {
		return textsBytes(f.Name) + numsBytes(1) + textsBytes(f.Commit)
	}
	return textsBytes(f.Name) + numsBytes(0) + textsBytes(f.Salt, f.Value)
}

// houseText reckons of any house, also of a wrong one.
func houseText(h impl.House) string {
	out := numsBytes(h.Log.Now, int64(len(h.Log.Rows)))
	for _, r := range h.Log.Rows {
		out += textsBytes(r.Kind) + numsBytes(r.At, int64(len(r.Fields)))
		for _, f := range r.Fields {
			out += fieldText(f)
		}
	}
	out += numsBytes(int64(len(h.Log.Leaves)))
	for _, leaf := range h.Log.Leaves {
		if kindIn(leaf) != 2 {
			leaf = ""
		}
		out += textsBytes(leaf)
	}
	out += numsBytes(int64(len(h.Policy.Rules)))
	for _, r := range h.Policy.Rules {
		out += textsBytes(r.Kind, r.Field) + numsBytes(r.Least, r.Most)
	}
	return out + numsBytes(int64(len(h.Policy.Held))) + numsBytes(h.Policy.Held...)
}

// parts are taken off the beginning of a text, until one is not there.
type parts struct {
	rest string
	bad  bool
}

func (p *parts) num() int64 {
	n, size := binary.Varint([]byte(p.rest))
	if p.bad || size <= 0 {
		p.bad = true
		return 0
	}
	p.rest = p.rest[size:]
	return n
}

func (p *parts) text() string {
	size := p.num()
	if p.bad || size < 0 || size > int64(len(p.rest)) {
		p.bad = true
		return ""
	}
	text := p.rest[:size]
	p.rest = p.rest[size:]
	return text
}

// each takes as many as the number says.
func (p *parts) each(take func()) {
	for range p.num() {
		if p.bad {
			return
		}
		take()
	}
}

func (p *parts) field() impl.Field {
	name := p.text()
	if p.num() != 0 {
		return impl.Field{Name: name, Commit: p.text(), Gone: true}
	}
	salt := p.text()
	return fieldIn(name, salt, p.text())
}

func (p *parts) house() impl.House {
	h := impl.House{Log: impl.Log{Now: p.num()}}
	p.each(func() {
		r := impl.Row{Kind: p.text()}
		r.At = p.num()
		p.each(func() { r.Fields = append(r.Fields, p.field()) })
		h.Log.Rows = append(h.Log.Rows, r)
	})
	rows := slices.Clone(h.Log.Rows)
	p.each(func() {
		leaf := p.text()
		if leaf == "" && len(rows) > 0 {
			leaf, rows = leafIn(rows[0]), rows[1:]
		}
		h.Log.Leaves = append(h.Log.Leaves, leaf)
	})
	p.each(func() {
		r := impl.Rule{Kind: p.text()}
		r.Field, r.Least, r.Most = p.text(), p.num(), p.num()
		h.Policy.Rules = append(h.Policy.Rules, r)
	})
	p.each(func() { h.Policy.Held = append(h.Policy.Held, p.num()) })
	return h
}

func houseIn(text string) impl.HouseOut {
	if len(text) > 8000 {
		return impl.HouseOut{Code: impl.ErrSize}
	}
	p := parts{rest: text}
	if h := p.house(); !p.bad && isRightHouse(h) && houseText(h) == text {
		return impl.HouseOut{House: h}
	}
	return impl.HouseOut{Code: impl.ErrSyntax}
}

// lineForms: # is a number, % a text without blanks.
var lineForms = map[string]*regexp.Regexp{
	"add": lineForm(`add % (.*)`), "forget": lineForm("forget # #"), "sweep": lineForm("sweep #"), "time": lineForm("time #"),
	"rule": lineForm("rule % % # #"), "norule": lineForm("norule % %"), "hold": lineForm("hold #"), "free": lineForm("free #"),
}

var addedForm = regexp.MustCompile(`(?s)\A[^ =]*=[^ =]*=[^ =]*( [^ =]*=[^ =]*=[^ =]*){0,2}\z`)

func lineForm(form string) *regexp.Regexp {
	return regexp.MustCompile(`(?s)\A` + strings.NewReplacer("#", "(0|[1-9][0-9]{0,8})", "%", "([^ ]*)").Replace(form) + `\z`)
}

// lineIn tells the word with which a line begins, its texts, and of these that
// are numbers the numbers; no word, if it is no line.
func lineIn(line string) (word string, texts []string, nums []int64) {
	word, _, _ = strings.Cut(line, " ")
	form := lineForms[word]
	if form == nil {
		return "", nil, nil
	}
	texts = form.FindStringSubmatch(line)
	if texts == nil || word == "add" && !addedForm.MatchString(texts[2]) {
		return "", nil, nil
	}
	for _, text := range texts[1:] {
		if n, err := strconv.Atoi(text); err == nil {
			nums = append(nums, int64(n))
		}
	}
	return word, texts[1:], nums
}

func addedRow(kind string, at int64, fields string) impl.Row {
	r := impl.Row{Kind: kind, At: at}
	for _, field := range strings.Split(fields, " ") {
		three := strings.Split(field, "=")
		r.Fields = append(r.Fields, fieldIn(three[0], three[1], three[2]))
	}
	return r
}

func ofLog(h impl.House, out impl.LogOut, told string) impl.HouseOut {
	if out.Code != impl.OK {
		return impl.HouseOut{Code: out.Code}
	}
	return impl.HouseOut{House: impl.House{Log: out.Log, Policy: h.Policy}, Told: told}
}

func ofSweep(h impl.House, out impl.SweepOut, told string) impl.HouseOut {
	return ofLog(h, impl.LogOut{Log: out.Log, Code: out.Code}, told)
}

func ofPolicy(h impl.House, out impl.PolicyOut) impl.HouseOut {
	if out.Code != impl.OK {
		return impl.HouseOut{Code: out.Code}
	}
	return impl.HouseOut{House: impl.House{Log: h.Log, Policy: out.Policy}, Told: "ok"}
}

func actIn(h impl.House, line string) impl.HouseOut {
	if len(line) > 8000 {
		return impl.HouseOut{Code: impl.ErrSize}
	}
	if !isRightHouse(h) {
		return impl.HouseOut{Code: impl.ErrForm}
	}
	word, texts, nums := lineIn(line)
	switch word {
	case "add":
		return ofLog(h, addIn(h.Log, addedRow(texts[0], h.Log.Now, texts[1])), fmt.Sprint(len(h.Log.Rows)))
	case "forget":
		return ofSweep(h, askIn(h.Log, h.Policy, nums[0], nums[1]), "ok")
	case "sweep":
		out := sweepIn(h.Log, h.Policy, nums[0])
		return ofSweep(h, out, fmt.Sprint(out.Count))
	case "time":
		return ofLog(h, laterIn(h.Log, nums[0]), "ok")
	case "rule":
		last := nums[len(nums)-2:] // a Kind or a Field may be a number, too
		return ofPolicy(h, rulePutIn(h.Policy, ruleOf(texts[0], texts[1], last[0], last[1])))
	case "norule":
		return ofPolicy(h, ruleDropIn(h.Policy, texts[0], texts[1]))
	case "hold":
		return ofPolicy(h, holdIn(h.Policy, nums[0]))
	case "free":
		return ofPolicy(h, freeIn(h.Policy, nums[0]))
	}
	return impl.HouseOut{Code: impl.ErrSyntax}
}

func isRightDisk(d impl.Disk) bool {
	right := 0 < len(d.Sectors) && len(d.Sectors) < 65 && len(d.Pending) < 201
	for _, sector := range d.Sectors {
		right = right && len(sector) < 65
	}
	for _, p := range d.Pending {
		right = right && 0 <= p.At && p.At < int64(len(d.Sectors)) && len(p.Data) < 65
	}
	return right
}

// areaWith reckons of wrong disks, too.
func areaWith(d impl.Disk) impl.AreaOut {
	if !isRightDisk(d) {
		return impl.AreaOut{Code: impl.ErrForm}
	}
	return areaIn(d)
}

func bootIn(d impl.Disk) impl.HouseOut {
	area := areaWith(d)
	switch {
	case area.Code != impl.OK:
		return impl.HouseOut{Code: area.Code}
	case area.Text == "":
		return impl.HouseOut{}
	}
	return houseIn(area.Text)
}

// tracesIn is asked of disks that are read: all Sectors in which there is
// something, but those of the head and of its text.
func tracesIn(d impl.Disk) []int {
	var out []int
	text := areaIn(d).Text
	first := 1 + sideIn(d)*half(d)
	for at := 1; at < len(d.Sectors); at++ {
		if (at < first || at >= first+needed(text)) && readIn(d, int64(at)) != "" {
			out = append(out, at)
		}
	}
	return out
}

func countIn(d impl.Disk) int64 {
	if areaWith(d).Code != impl.OK {
		return -1
	}
	return int64(len(tracesIn(d)))
}

func scrubIn(d impl.Disk) impl.AreaOut {
	if area := areaWith(d); area.Code != impl.OK {
		return impl.AreaOut{Code: area.Code}
	}
	traces := tracesIn(d)
	if len(d.Pending)+len(traces) > 200 {
		return impl.AreaOut{Code: impl.ErrFull}
	}
	out := impl.Disk{Sectors: make([]string, len(d.Sectors))}
	for at := range d.Sectors {
		if !slices.Contains(traces, at) {
			out.Sectors[at] = readIn(d, int64(at))
		}
	}
	return impl.AreaOut{Disk: out}
}

func houseDoIn(d impl.Disk, line string, steps int64) impl.DiskTold {
	if len(line) > 8000 {
		return impl.DiskTold{Code: impl.ErrSize}
	}
	was := bootIn(d)
	if was.Code != impl.OK {
		return impl.DiskTold{Code: was.Code}
	}
	acted := actIn(was.House, line)
	if acted.Code != impl.OK {
		return impl.DiskTold{Code: acted.Code}
	}
	out := putInto(d, houseText(acted.House), steps)
	if out.Code == impl.OK && steps >= 99 {
		out = scrubIn(out.Disk)
	}
	if out.Code != impl.OK {
		return impl.DiskTold{Code: out.Code}
	}
	return impl.DiskTold{Disk: out.Disk, Told: acted.Told}
}

func sameHouse(a, b impl.House) bool {
	return sameLog(a.Log, b.Log) && samePolicy(a.Policy, b.Policy)
}

func wantHouse(t *testing.T, what string, got, want impl.HouseOut) {
	t.Helper()
	if got.Code != want.Code || got.Told != want.Told || !sameHouse(got.House, want.House) {
		t.Errorf("%s: got code %d, %q and %s, want %d, %q and %s",
			what, got.Code, got.Told, asText(got.House), want.Code, want.Told, asText(want.House))
	}
}

func wantHouseCode(t *testing.T, what string, got impl.HouseOut, code int64) {
	t.Helper()
	wantHouse(t, what, got, impl.HouseOut{Code: code})
}

func wantHouseRight(t *testing.T, what string, h impl.House, want bool) {
	t.Helper()
	if got := impl.HouseRight(h); got != want {
		t.Errorf("%s: HouseRight is %t of %s", what, got, asText(h))
	}
}

func wantDone(t *testing.T, what string, got, want impl.DiskTold) {
	t.Helper()
	if got.Code != want.Code || got.Told != want.Told {
		t.Errorf("%s: got code %d and %q, want %d and %q", what, got.Code, got.Told, want.Code, want.Told)
	}
	wantDisk(t, what, got.Disk, want.Disk)
}

func wantDoneCode(t *testing.T, what string, got impl.DiskTold, code int64) {
	t.Helper()
	wantDone(t, what, got, impl.DiskTold{Code: code})
}

// wantComesBack: a right house has bytes, and comes back from them.
func wantComesBack(t *testing.T, what string, h impl.House) {
	t.Helper()
	wantHouseRight(t, what, h, true)
	wantBytes(t, what+": its bytes", impl.HouseBytes(h), houseText(h))
	wantHouse(t, what+": read", impl.HouseRead(houseText(h)), impl.HouseOut{House: h})
}

// Houses.

type namedHouse struct {
	what  string
	house impl.House
}

// greatestHouse has the most bytes that a house may have: all that may be forgotten
// is, and all numbers and names are as long as they may be.
func greatestHouse() impl.House {
	l := impl.Log{Now: impl.MaxTime}
	name := func(i int) string { return strings.Repeat("m", 19) + strconv.Itoa(i) }
	for i := range impl.MaxRows {
		l = withRow(l, rowIn(name(i), impl.MaxTime, fieldIn(name(0), "s", "v"), fieldIn(name(1), "s", "v"), fieldIn(name(2), "s", "v")))
	}
	for i := range impl.MaxRows * impl.MaxFields {
		l = withGone(l, i/impl.MaxFields, i%impl.MaxFields, 1)
	}
	p := impl.Policy{Held: []int64{0, 1, 2, 3, 4, 5}}
	for i := range impl.MaxRules {
		p.Rules = append(p.Rules, ruleOf(name(i), name(0), impl.MaxTime, impl.MaxTime))
	}
	return impl.House{Log: l, Policy: p}
}

func rightHouses() []namedHouse {
	out := []namedHouse{
		{"nothing", impl.House{}},
		{"nothing, but time", impl.House{Log: impl.Log{Now: impl.MaxTime}}},
		{"the base of logs", impl.House{Log: baseLog()}},
		{"the greatest", greatestHouse()},
	}
	for _, kept := range allKept() {
		out = append(out, namedHouse{kept.what, impl.House{Log: kept.log, Policy: kept.policy}})
	}
	policies := rightPolicies()
	for i, l := range append(fullHistory(), someHistories()[5]...) {
		out = append(out, namedHouse{fmt.Sprintf("log %d", i), impl.House{Log: l, Policy: policies[(7*i)%len(policies)]}})
	}
	for i, r := range rightRows() {
		l := withRow(impl.Log{Now: impl.MaxTime}, r)
		out = append(out, namedHouse{fmt.Sprintf("row %d", i), impl.House{Log: l, Policy: policies[(3*i)%len(policies)]}},
			namedHouse{fmt.Sprintf("row %d, forgotten", i), impl.House{Log: withGone(l, 0, len(r.Fields)-1, 2)}})
	}
	return out
}

// baseHouse has rows of which some Fields are due, some to be kept, one is Gone,
// and one row is held.
func baseHouse() impl.House {
	kept := baseKept()
	return impl.House{Log: kept.log, Policy: kept.policy}
}

func wrongHouses() []namedHouse {
	var out []namedHouse
	base := baseHouse()
	for i, wrong := range wrongLogs() {
		if i%4 == 0 {
			out = append(out, namedHouse{wrong.what, impl.House{Log: wrong.log, Policy: base.Policy}}, namedHouse{wrong.what + ", no rules", impl.House{Log: wrong.log}})
		}
	}
	for i, wrong := range wrongPolicies() {
		if i%4 == 0 {
			out = append(out, namedHouse{wrong.what, impl.House{Log: base.Log, Policy: wrong.policy}}, namedHouse{wrong.what + ", no rows", impl.House{Policy: wrong.policy}})
		}
	}
	return append(out, namedHouse{"both are wrong", impl.House{Log: impl.Log{Now: -1}, Policy: impl.Policy{Held: []int64{6}}}})
}

func TestHouseRight(t *testing.T) {
	for _, right := range rightHouses() {
		if !isRightHouse(right.house) {
			t.Errorf("%s: the second reckoning takes it for wrong", right.what)
		}
		wantHouseRight(t, right.what, right.house, true)
	}
	for _, wrong := range wrongHouses() {
		if isRightHouse(wrong.house) {
			t.Errorf("%s: the second reckoning takes it for right", wrong.what)
		}
		wantHouseRight(t, wrong.what, wrong.house, false)
	}
	empty := impl.House{Log: impl.Log{Rows: []impl.Row{}, Leaves: []string{}}, Policy: impl.Policy{Rules: []impl.Rule{}, Held: []int64{}}}
	wantHouseRight(t, "empty lists", empty, true)
	wantBytes(t, "empty lists", impl.HouseBytes(empty), "\x00\x00\x00\x00\x00")
}

// Bytes, written out by hand.
func TestHouseBytesByHand(t *testing.T) {
	wantBytes(t, "nothing", impl.HouseBytes(impl.House{}), "\x00\x00\x00\x00\x00")
	r := rowIn("user", 64, fieldIn("age", "s", "42"), fieldIn("name", "tt", ""))
	commit := r.Fields[0].Commit
	h := impl.House{Log: atTime(withRow(impl.Log{}, r), 65), Policy: holding(policyOf(ruleOf("a", "bc", 0, 5), ruleOf("user", "x", 3, 64)), 1, 5)}
	policy := "\x04" + "\x02a\x04bc\x00\x0a" + "\x08user\x02x\x06\x80\x01" + "\x04\x02\x0a"
	wantBytes(t, "a row", impl.HouseBytes(h), "\x82\x01\x02"+"\x08user\x80\x01\x04"+"\x06age\x00\x02s\x0442"+"\x08name\x00\x04tt\x00"+"\x02\x00"+policy)
	h.Log = withGone(h.Log, 0, 0, 1)
	wantBytes(t, "less of it", impl.HouseBytes(h), "\x82\x01\x02"+"\x08user\x80\x01\x04"+"\x06age\x02\x40"+commit+"\x08name\x00\x04tt\x00"+"\x04\x00"+"\x0ct\x00\x00\x02\x82\x01"+policy)
	h.Policy = impl.Policy{}
	wantBytes(t, "no rules", impl.HouseBytes(h), "\x82\x01\x02"+"\x08user\x80\x01\x04"+"\x06age\x02\x40"+commit+"\x08name\x00\x04tt\x00"+"\x04\x00"+"\x0ct\x00\x00\x02\x82\x01"+"\x00\x00")
	wantHouse(t, "read", impl.HouseRead(impl.HouseBytes(h)), impl.HouseOut{House: h})
}

func TestHousesComeBack(t *testing.T) {
	met := map[string]string{}
	for _, right := range rightHouses() {
		wantComesBack(t, right.what, right.house)
		text := houseText(right.house)
		as := fmt.Sprintf("%+v", right.house)
		if was, ok := met[text]; ok && was != as {
			t.Errorf("%s: another house has these bytes, too", right.what)
		}
		met[text] = as
	}
	if len(met) < 120 {
		t.Errorf("there are %d houses: the test looks at less than it should", len(met))
	}
}

// A house that is not right has no bytes; what would be its bytes is refused, or
// is that of a right one.
func TestWrongHousesHaveNoBytes(t *testing.T) {
	for _, wrong := range wrongHouses() {
		wantBytes(t, wrong.what, impl.HouseBytes(wrong.house), "")
		text := houseText(wrong.house)
		wantHouse(t, wrong.what+": read", impl.HouseRead(text), houseIn(text))
	}
}

// wantReadOrRefused holds what is read of any text against the second reckoning.
func wantReadOrRefused(t *testing.T, what, text string) {
	t.Helper()
	got := impl.HouseRead(text)
	wantHouse(t, what, got, houseIn(text))
	if got.Code == impl.OK {
		wantBytes(t, what+": its bytes", impl.HouseBytes(got.House), text)
	}
}

func TestHouseReadOfOtherBytes(t *testing.T) {
	all := rightHouses()
	for _, right := range append(all[:6], all[40], all[len(all)-1]) {
		text := houseText(right.house)
		for at := range len(text) {
			wantReadOrRefused(t, right.what+", cut", text[:at])
			wantReadOrRefused(t, right.what+", behind a cut", text[at:])
			wantReadOrRefused(t, right.what+", a byte less", text[:at]+text[at+1:])
			wantReadOrRefused(t, right.what+", a byte more", text[:at]+"\x00"+text[at:])
			for bit := range 8 {
				wantReadOrRefused(t, right.what+", a bit turned", text[:at]+string([]byte{text[at] ^ 1<<bit})+text[at+1:])
			}
			// A number that would be written in more bytes than it needs.
			if text[at] < 128 {
				wantReadOrRefused(t, right.what+", a byte too long", text[:at]+string([]byte{text[at] | 128, 0})+text[at+1:])
			}
		}
		for _, more := range []string{"\x00", "x", text, "\x80"} {
			wantHouseCode(t, right.what+", more behind", impl.HouseRead(text+more), impl.ErrSyntax)
		}
	}
}

// rowAndTomb is a house's bytes with other parts: how its Field is marked, what
// stands behind the mark, and what its leaves are.
func rowAndTomb(count, mark int64, behind string, leaves ...string) string {
	return numsBytes(5, 1) + textsBytes("user") + numsBytes(3, count) + textsBytes("age") + numsBytes(mark) + behind +
		numsBytes(int64(len(leaves))) + textsBytes(leaves...) + numsBytes(0, 0)
}

// noRowTexts: bytes as of a house with one row, each with one fault.
func noRowTexts(commit, leaf, tomb string) map[string]string {
	return map[string]string{
		"no Salt":                     rowAndTomb(1, 0, textsBytes("", "42"), ""),
		"a Salt too long":             rowAndTomb(1, 0, textsBytes("123456789", "42"), ""),
		"a Value too long":            rowAndTomb(1, 0, textsBytes("s", strings.Repeat("v", 17)), ""),
		"a Salt too many":             rowAndTomb(1, 0, textsBytes("s", "42", ""), ""),
		"a Commit where it is there":  rowAndTomb(1, 0, textsBytes(commit), ""),
		"a Commit, too":               rowAndTomb(1, 0, textsBytes(commit, "s", "42"), ""),
		"a mark of 2":                 rowAndTomb(1, 2, textsBytes(commit), "", tomb),
		"a mark of -1":                rowAndTomb(1, -1, textsBytes(commit), "", tomb),
		"a mark of 2, there":          rowAndTomb(1, 2, textsBytes("s", "42"), ""),
		"a mark of 1, there":          rowAndTomb(1, 1, textsBytes("s", "42"), ""),
		"a Commit too short":          rowAndTomb(1, 1, textsBytes(commit[1:]), "", tomb),
		"a Commit too long":           rowAndTomb(1, 1, textsBytes(commit+"x"), "", tomb),
		"Gone, without a Tomb":        rowAndTomb(1, 1, textsBytes(commit), ""),
		"there, with a Tomb":          rowAndTomb(1, 0, textsBytes("s", "42"), "", tomb),
		"the Tomb first":              rowAndTomb(1, 1, textsBytes(commit), tomb, ""),
		"a Tomb alone":                rowAndTomb(1, 1, textsBytes(commit), tomb),
		"two Tombs":                   rowAndTomb(1, 1, textsBytes(commit), "", tomb, tomb),
		"two leaves of one row":       rowAndTomb(1, 0, textsBytes("s", "42"), "", ""),
		"no leaf":                     rowAndTomb(1, 0, textsBytes("s", "42")),
		"the row's leaf, written out": rowAndTomb(1, 0, textsBytes("s", "42"), leaf),
		"another row's leaf":          rowAndTomb(1, 0, textsBytes("s", "42"), "e"+mixed(1, 32)),
		"a leaf that is none":         rowAndTomb(1, 0, textsBytes("s", "42"), "x"),
		"a Tomb of another row":       rowAndTomb(1, 1, textsBytes(commit), "", tombOf(1, 0, 2, 5)),
		"a Tomb of later":             rowAndTomb(1, 1, textsBytes(commit), "", tombOf(0, 0, 2, 6)),
		"fewer Fields than it says":   rowAndTomb(2, 0, textsBytes("s", "42"), ""),
		"fewer Fields than none":      rowAndTomb(-1, 0, textsBytes("s", "42"), ""),
		"a great many Fields":         rowAndTomb(math.MaxInt64, 0, textsBytes("s", "42"), ""),
	}
}

// noHouseTexts: bytes as of a house without a row, or with parts of one, and none.
func noHouseTexts(h impl.House, tomb string) map[string]string {
	return map[string]string{
		"an empty text":                 "",
		"no Fields":                     numsBytes(5, 1) + textsBytes("user") + numsBytes(3, 0, 1) + textsBytes("") + numsBytes(0, 0),
		"fewer Rows than none":          numsBytes(5, -1, 0, 0, 0),
		"a great many Rows":             numsBytes(5, math.MaxInt64, 0, 0, 0),
		"fewer Leaves than none":        numsBytes(5, 0, -1, 0, 0),
		"a great many Leaves":           numsBytes(5, 0, math.MaxInt64, 0, 0),
		"fewer Rules than none":         numsBytes(5, 0, 0, -1, 0),
		"a great many Rules":            numsBytes(5, 0, 0, math.MaxInt64, 0),
		"fewer Held than none":          numsBytes(5, 0, 0, 0, -1),
		"a great many Held":             numsBytes(5, 0, 0, 0, math.MaxInt64),
		"a time below 0":                numsBytes(-1, 0, 0, 0, 0),
		"a time too late":               numsBytes(impl.MaxTime+1, 0, 0, 0, 0),
		"one number less":               numsBytes(5, 0, 0, 0),
		"one number more":               numsBytes(5, 0, 0, 0, 0, 0),
		"one that is held, twice":       numsBytes(5, 0, 0, 0, 2, 1, 1),
		"one held that is no row":       numsBytes(5, 0, 0, 0, 1, 6),
		"held, not rising":              numsBytes(5, 0, 0, 0, 2, 4, 1),
		"a rule, Least above Most":      numsBytes(5, 0, 0, 1) + textsBytes("a", "b") + numsBytes(2, 1, 0),
		"a rule of no name":             numsBytes(5, 0, 0, 1) + textsBytes("a", "") + numsBytes(1, 2, 0),
		"rules, not rising":             numsBytes(5, 0, 0, 2) + textsBytes("b", "b") + numsBytes(1, 2) + textsBytes("a", "b") + numsBytes(1, 2, 0),
		"a leaf of a row that is not":   numsBytes(5, 0, 1) + textsBytes("") + numsBytes(0, 0),
		"a Tomb of a row that is not":   numsBytes(5, 0, 1) + textsBytes(tomb) + numsBytes(0, 0),
		"a text, as long as may be":     mixed(1, impl.MaxBytes),
		"nothing, and much behind":      numsBytes(0, 0, 0, 0, 0) + mixed(1, impl.MaxBytes-5),
		"bytes 0, as many as may be":    strings.Repeat("\x00", impl.MaxBytes),
		"bytes 128, as many as may be":  strings.Repeat("\x80", impl.MaxBytes),
		"bytes 2, as many as may be":    strings.Repeat("\x02", impl.MaxBytes),
		"a house's bytes, sealed":       impl.Seal(houseText(h)),
		"a house's bytes, as a text":    impl.PutText(houseText(h)),
		"a row later than the house is": numsBytes(2, 1) + textsBytes("user") + numsBytes(3, 1) + fieldText(h.Log.Rows[0].Fields[0]) + numsBytes(1) + textsBytes("") + numsBytes(0, 0),
	}
}

func TestHouseReadByHand(t *testing.T) {
	was := rowIn("user", 3, fieldIn("age", "s", "42"))
	commit, tomb := was.Fields[0].Commit, tombOf(0, 0, 2, 5)
	there, gone := impl.House{Log: atTime(withRow(impl.Log{}, was), 5)}, impl.House{Log: withGone(atTime(withRow(impl.Log{}, was), 5), 0, 0, 2)}
	wantHouse(t, "there", impl.HouseRead(rowAndTomb(1, 0, textsBytes("s", "42"), "")), impl.HouseOut{House: there})
	wantHouse(t, "forgotten", impl.HouseRead(rowAndTomb(1, 1, textsBytes(commit), "", tomb)), impl.HouseOut{House: gone})
	none := noRowTexts(commit, leafIn(was), tomb)
	maps.Copy(none, noHouseTexts(there, tomb))
	for what, text := range none {
		wantHouseCode(t, what, impl.HouseRead(text), impl.ErrSyntax)
		if houseIn(text).Code != impl.ErrSyntax {
			t.Errorf("%s: the second reckoning reads it", what)
		}
	}
	for _, size := range []int{impl.MaxBytes + 1, impl.MaxBytes + 5, 3 * impl.MaxBytes} {
		wantHouseCode(t, "too long", impl.HouseRead(strings.Repeat("\x00", size)), impl.ErrSize)
		wantHouseCode(t, "too long", impl.HouseRead(houseText(there)+mixed(1, size)), impl.ErrSize)
	}
}

// Rows, rules and held ones, one more than there may be.
func TestHouseReadOfTooMany(t *testing.T) {
	var seven impl.Log
	for seed := range uint64(impl.MaxRows + 1) {
		seven = withRow(seven, loggedRow(seed, 0))
	}
	four := rowIn("user", 0, fieldIn("a", "s", ""), fieldIn("b", "s", ""), fieldIn("c", "s", ""), fieldIn("d", "s", ""))
	for what, h := range map[string]impl.House{
		"seven rows":  {Log: seven},
		"four Fields": {Log: impl.Log{Rows: []impl.Row{four}, Leaves: []string{"e" + sha(rowBytes(four))}}},
		"seven rules": {Policy: policyOf(risingRules()[:7]...)},
		"seven held":  {Policy: impl.Policy{Held: []int64{0, 1, 2, 3, 4, 5, 6}}},
		"many held":   {Policy: impl.Policy{Held: make([]int64, 1000)}},
		"many leaves": {Log: impl.Log{Leaves: make([]string, 1000)}},
	} {
		wantHouseCode(t, what, impl.HouseRead(houseText(h)), impl.ErrSyntax)
	}
}

// Lines.

func wantActed(t *testing.T, what string, h impl.House, line string) impl.HouseOut {
	t.Helper()
	got := impl.Act(h, line)
	wantHouse(t, fmt.Sprintf("%s: Act %.60q", what, line), got, actIn(h, line))
	return got
}

// Each line by hand: what it tells of the base, or its code.
func TestActByHand(t *testing.T) {
	h := baseHouse()
	for line, told := range map[string]string{
		"add user age=s=42": "4", "add a b=c=": "4", "add note age=s=1 city=t=2 name=u=3": "4", "add user a=s=1 b=s=1": "4",
		"add user age=12345678=1234567890123456": "4", "add user age=s=\n": "4", "add user age=\x00=\xff\x80": "4", "add m a=\t=\t": "4",
		"forget 0 0": "ok", "forget 0 1": "ok", "forget 1 0": "ok", "forget 2 1": "ok",
		"sweep 0": "0", "sweep 1": "1", "sweep 4": "4", "sweep 5": "5", "sweep 6": "5", "sweep 100": "5",
		"time 0": "ok", "time 7": "ok", "time 8": "ok", "time 1000000": "ok",
		"rule user age 5 6": "ok", "rule user b 0 0": "ok", "rule a b 0 1000000": "ok",
		"norule user age": "ok", "norule note name": "ok", "hold 0": "ok", "hold 5": "ok", "free 3": "ok",
	} {
		got := wantActed(t, "the base", h, line)
		wantNumber(t, line, got.Code, impl.OK)
		wantBytes(t, line, got.Told, told)
		wantHouseRight(t, line, got.House, true)
	}
	for line, code := range map[string]int64{
		"add User age=s=42": impl.ErrForm, "add u=r age=s=42": impl.ErrForm, "add user Age=s=42": impl.ErrForm, "add user age==42": impl.ErrForm,
		"add user ==": impl.ErrForm, "add user =s=42": impl.ErrForm, "add user age=123456789=42": impl.ErrForm, "add user age=s=12345678901234567": impl.ErrForm,
		"add user age=s=1 age=s=1": impl.ErrForm, "add user b=s=1 a=s=1": impl.ErrForm, "add user a=s=1 c=s=1 b=s=1": impl.ErrForm,
		"forget 4 0": impl.ErrNone, "forget 0 3": impl.ErrNone, "forget 999999999 0": impl.ErrNone, "forget 0 999999999": impl.ErrNone,
		"forget 2 2": impl.ErrThere, "forget 3 0": impl.ErrHeld, "forget 1 1": impl.ErrRange,
		"sweep 101": impl.ErrForm, "sweep 999999999": impl.ErrForm, "time 1000001": impl.ErrForm, "time 999999999": impl.ErrForm,
		"rule user age 7 6": impl.ErrForm, "rule user age 0 1000001": impl.ErrForm, "rule No age 0 1": impl.ErrForm, "rule user 9 0 1": impl.ErrForm,
		"norule user city": impl.ErrNone, "norule age user": impl.ErrNone, "norule No 9": impl.ErrNone,
		"hold 3": impl.ErrThere, "hold 6": impl.ErrForm, "hold 999999999": impl.ErrForm, "free 0": impl.ErrNone, "free 6": impl.ErrForm,
	} {
		wantHouseCode(t, line, impl.Act(h, line), code)
		wantActed(t, "the base", h, line)
	}
	full := greatestHouse()
	wantHouseCode(t, "a full log", impl.Act(full, "add user a=s=1"), impl.ErrFull)
	wantHouseCode(t, "a full log, and a wrong row", impl.Act(full, "add user a==1"), impl.ErrForm)
	wantHouseCode(t, "as many rules as may be", impl.Act(full, "rule user age 0 1"), impl.ErrFull)
	wantHouseCode(t, "as many rules, and a wrong one", impl.Act(full, "rule user age 2 1"), impl.ErrForm)
}

// What a line makes, by hand.
func TestActMakesByHand(t *testing.T) {
	h := impl.House{Log: impl.Log{Now: 3}}
	row := rowIn("user", 3, fieldIn("age", "s", "42"), fieldIn("name", "t", ""))
	added := impl.House{Log: withRow(h.Log, row)}
	wantHouse(t, "add", impl.Act(h, "add user age=s=42 name=t="), impl.HouseOut{House: added, Told: "0"})
	wantHouse(t, "forget", impl.Act(added, "forget 0 1"), impl.HouseOut{House: impl.House{Log: withGone(added.Log, 0, 1, 1)}, Told: "ok"})
	wantHouse(t, "time", impl.Act(added, "time 9"), impl.HouseOut{House: impl.House{Log: atTime(added.Log, 9)}, Told: "ok"})
	wantHouse(t, "an earlier time", impl.Act(added, "time 2"), impl.HouseOut{House: added, Told: "ok"})
	ruled := impl.House{Log: added.Log, Policy: policyOf(ruleOf("user", "age", 1, 2))}
	wantHouse(t, "rule", impl.Act(added, "rule user age 1 2"), impl.HouseOut{House: ruled, Told: "ok"})
	wantHouse(t, "norule", impl.Act(ruled, "norule user age"), impl.HouseOut{House: added, Told: "ok"})
	later := impl.House{Log: atTime(added.Log, 5), Policy: ruled.Policy}
	swept := impl.House{Log: withGone(later.Log, 0, 0, 2), Policy: ruled.Policy}
	wantHouse(t, "sweep", impl.Act(later, "sweep 9"), impl.HouseOut{House: swept, Told: "1"})
	wantHouse(t, "sweep again", impl.Act(swept, "sweep 9"), impl.HouseOut{House: swept, Told: "0"})
	held := impl.House{Log: later.Log, Policy: holding(ruled.Policy, 0)}
	wantHouse(t, "hold", impl.Act(later, "hold 0"), impl.HouseOut{House: held, Told: "ok"})
	wantHouse(t, "sweep of what is held", impl.Act(held, "sweep 9"), impl.HouseOut{House: held, Told: "0"})
	wantHouse(t, "free", impl.Act(held, "free 0"), impl.HouseOut{House: later, Told: "ok"})
	for row := range impl.MaxRows {
		got := impl.Act(h, "add user age=s=42")
		wantBytes(t, "the number of the row", got.Told, strconv.Itoa(row))
		h = got.House
	}
	wantHouseCode(t, "one too many", impl.Act(h, "add user age=s=42"), impl.ErrFull)
}

// wrongWords stand in the place of a number.
func wrongWords() []string {
	return []string{"", "00", "01", "000000000", "0000000001", "1000000000", "1234567890", "99999999999999999999", "18446744073709551616", "-1", "-0", "+0", "+1", "1.", "1.0",
		"0x1", "0b1", "0o1", "1_0", "1e1", "a", "1a", "a1", "\t1", "1\n", "\n1", "1\x00", "\xd9\xa1", "\xef\xbc\x91", "1=", "=", "'1'", "1,", "\xff", "N"}
}

// noLines: none of them is a line.
func noLines() []string {
	out := []string{"", " ", "  ", "what", "add", "add ", "add user", "add user ", "add user age", "add user age=", "add user age=s", "add user age=s=1=", "add user age=s=1=2",
		"add user age==s=1", "add user =age=s=1", "add user ===", "add user age=s=1 b", "add user age=s=1 b=s", "add user age=s=1 b=s=1=", "add user age=s=1 ", "add user  age=s=1",
		"add user age=s=1  b=s=1", " add user age=s=1", "add  user age=s=1", "add user age =s=1", "add user a=s=1 b=s=1 c=s=1 d=s=1", "add user a=s=1 b=s=1 c=s=1 ", "add age=s=1",
		"add age=s=1 user", "addx user age=s=1", "Add user age=s=1", "ADD user age=s=1", "add\tuser age=s=1", "add\nuser age=s=1", "ad user age=s=1", "\x00add user age=s=1",
		"rule user age", "rule user 1 2", "rule 1 2", "rule", "rule user age city 1 2", "rule 1 2 user age", "norule", "norule user", "norule user age 1", "norule user age ",
		"norule user age city", "forget", "sweep", "time", "hold", "free", "rows 1", "size", "head", "traces", "ask 0 0", "do hold 0", "off 1 hold 0", "hold 0\x00 ", "hold0", "nohold 0"}
	for _, form := range []string{"forget # 0", "forget 0 #", "sweep #", "time #", "hold #", "free #", "rule user age # 5", "rule user age 0 #"} {
		good := strings.ReplaceAll(form, "#", "1")
		out = append(out, good+" ", " "+good, good+" 1", strings.ReplaceAll(good, " ", "  "), strings.ReplaceAll(good, " ", "\t"), strings.ToUpper(good), good+"\n", good[1:], good+".")
		for _, word := range wrongWords() {
			out = append(out, strings.ReplaceAll(form, "#", word))
		}
	}
	return out
}

func TestNoLines(t *testing.T) {
	houses := []impl.House{{}, baseHouse(), greatestHouse()}
	for _, line := range noLines() {
		for _, h := range houses {
			wantHouseCode(t, fmt.Sprintf("Act %q", line), impl.Act(h, line), impl.ErrSyntax)
		}
		if word, _, _ := lineIn(line); word != "" {
			t.Errorf("%q: the second reckoning takes it for a line", line)
		}
	}
}

// An empty text is a text without blanks, too: such a line is one, but nothing of
// that name may be.
func TestLinesOfEmptyTexts(t *testing.T) {
	h := baseHouse()
	for line, code := range map[string]int64{
		"add  age=s=1": impl.ErrForm, "rule  age 1 2": impl.ErrForm, "rule user  1 2": impl.ErrForm, "rule   1 2": impl.ErrForm,
		"norule  age": impl.ErrNone, "norule user ": impl.ErrNone, "norule  ": impl.ErrNone,
	} {
		wantHouseCode(t, fmt.Sprintf("Act %q", line), impl.Act(h, line), code)
		wantActed(t, "empty texts", h, line)
	}
}

// Numbers of one digit up to nine, and what is a line only just.
func TestNumbersOfLines(t *testing.T) {
	var h impl.House
	for _, n := range []int64{0, 1, 9, 10, 99, 100, 101, 999, 99999, 999999, impl.MaxTime, impl.MaxTime + 1, 9999999, 10000000, 99999999, 100000000, 999999999} {
		got := wantActed(t, "time", h, fmt.Sprintf("time %d", n))
		if n <= impl.MaxTime {
			wantNumber(t, "time", got.House.Log.Now, n)
		} else {
			wantHouseCode(t, fmt.Sprintf("time %d", n), got, impl.ErrForm)
		}
		for _, form := range []string{"sweep %d", "hold %d", "free %d", "forget %d 0", "forget 0 %d", "rule a b 0 %d", "rule a b %d 1000000"} {
			for _, house := range []impl.House{h, baseHouse()} {
				got := wantActed(t, "numbers", house, fmt.Sprintf(form, n))
				if got.Code == impl.ErrSyntax {
					t.Errorf("%s of %d is no line", form, n)
				}
			}
		}
	}
}

// Texts of all bytes but the blank and `=` may be salts and values.
func TestAnyBytesInLines(t *testing.T) {
	for b := range 256 {
		text := string([]byte{byte(b)})
		got := wantActed(t, "one byte", impl.House{}, "add user age="+text+"="+text)
		if isText := b != ' ' && b != '='; isText != (got.Code == impl.OK) || !isText && got.Code != impl.ErrSyntax {
			t.Errorf("the byte %d: code %d", b, got.Code)
		}
		for _, line := range []string{"add us" + text + "er age=s=1", "add user a" + text + "ge=s=1", "rule a" + text + "b c 1 2", "norule a" + text + " b", "hold " + text, "hold 1" + text, text + "hold 1"} {
			wantActed(t, "a byte between", baseHouse(), line)
		}
	}
}

// A line too long is told ahead of a wrong house, and that ahead of no line.
func TestActFaultsInOrder(t *testing.T) {
	long := []string{mixed(1, impl.MaxBytes+1), "hold " + strings.Repeat("1", impl.MaxBytes-4), "add user age=s=" + strings.Repeat("v", impl.MaxBytes), strings.Repeat(" ", 3*impl.MaxBytes)}
	lines := append(noLines()[:9], "hold 0", "add user age=s=1", "add user age==1", "time 5", "sweep 0", "forget 9 9", "norule a b", "rule a b 2 1", mixed(2, impl.MaxBytes))
	for _, wrong := range wrongHouses() {
		for _, line := range lines {
			wantHouseCode(t, fmt.Sprintf("%s: Act %.60q", wrong.what, line), impl.Act(wrong.house, line), impl.ErrForm)
		}
		for _, line := range long {
			wantHouseCode(t, wrong.what+": a line too long", impl.Act(wrong.house, line), impl.ErrSize)
		}
	}
	for _, h := range []impl.House{{}, baseHouse(), greatestHouse()} {
		for _, line := range long {
			wantHouseCode(t, "a line too long", impl.Act(h, line), impl.ErrSize)
		}
		wantHouseCode(t, "as long as may be", impl.Act(h, "hold "+strings.Repeat("1", impl.MaxBytes-5)), impl.ErrSyntax)
		wantHouseCode(t, "as long as may be", impl.Act(h, "norule "+strings.Repeat("a", impl.MaxBytes-9)+" b"), impl.ErrNone)
		wantHouseCode(t, "as long as may be", impl.Act(h, "add user age=s="+strings.Repeat("v", impl.MaxBytes-15)), impl.ErrForm)
	}
}

// Promise 19.

// someLines: most of them are lines, and right of most houses.
func someLines(seed uint64, count int) []string {
	var out []string
	kinds, names := []string{"user", "user", "note", "ab", "No"}, []string{"age", "city", "name"}
	bytes := mixed(seed, 8*count)
	for i := range count {
		b := bytes[8*i : 8*i+8]
		added := "add " + kinds[int(b[1])%5]
		for j, name := range names {
			if b[2]>>j&1 == 1 || j == int(b[3])%3 {
				added += fmt.Sprintf(" %s=%.*s=%.*s", name, int(b[4])%9, "saltsalt", int(b[5])%18, "valuevaluevalueva")
			}
		}
		forgotten, swept := fmt.Sprintf("forget %d %d", b[1]%7, b[2]%4), fmt.Sprintf("sweep %d", b[1]%8)
		timed := fmt.Sprintf("time %d", (i/3)+int(b[1]%5))
		ruled := fmt.Sprintf("rule %s %s %d %d", kinds[int(b[1])%5], names[b[2]%3], b[3]%6, b[3]%6+b[4]%9)
		unruled := fmt.Sprintf("norule %s %s", kinds[int(b[1])%5], names[b[2]%3])
		held, freed := fmt.Sprintf("hold %d", b[1]%7), fmt.Sprintf("free %d", b[1]%7)
		wrong := noLines()[(int(b[1])*256+int(b[2]))%len(noLines())]
		out = append(out, []string{added, added, added, forgotten, forgotten, forgotten, swept, timed, timed, ruled, ruled, unruled, held, freed, freed, wrong}[b[0]%16])
	}
	return out
}

// wantActedStep has a line act, and tells the house behind it.
func wantActedStep(t *testing.T, what string, h impl.House, line string, codes map[int64]int) impl.House {
	t.Helper()
	got := wantActed(t, what, h, line)
	codes[got.Code]++
	if got.Code != impl.OK {
		return h
	}
	wantComesBack(t, what+" "+line, got.House)
	wantOnlyGrown(t, what+" "+line, h.Log, got.House.Log)
	return got.House
}

func TestHousesStayRight(t *testing.T) {
	codes := map[int64]int{}
	for seed := range uint64(120) {
		var h impl.House
		for _, line := range someLines(seed, 70) {
			h = wantActedStep(t, fmt.Sprintf("seed %d", seed), h, line, codes)
		}
	}
	for _, code := range []int64{impl.OK, impl.ErrForm, impl.ErrSyntax, impl.ErrNone, impl.ErrThere, impl.ErrRange, impl.ErrFull, impl.ErrHeld} {
		if codes[code] < 15 {
			t.Errorf("the code %d came %d times: the test looks at less than it should", code, codes[code])
		}
	}
}

func TestLinesInEachOrder(t *testing.T) {
	lines := []string{"add user age=s=42 name=t=ann", "time 4", "rule user age 1 4", "hold 0", "free 0", "forget 0 1", "sweep 2"}
	codes := map[int64]int{}
	for i, order := range orders(len(lines)) {
		var h impl.House
		for _, which := range order {
			h = wantActedStep(t, "in each order", h, lines[which], codes)
		}
		if i%40 == 0 {
			for _, line := range noLines() {
				wantHouseCode(t, fmt.Sprintf("Act %q", line), impl.Act(h, line), impl.ErrSyntax)
			}
		}
	}
}

// Each line of each house that there is here.
func TestLinesOfManyHouses(t *testing.T) {
	lines := []string{"add user age=s=42", "time 12", "rule user age 1 4", "norule user age", "hold 2", "free 2", "sweep 3"}
	for row := range 7 {
		for field := range 4 {
			lines = append(lines, fmt.Sprintf("forget %d %d", row, field))
		}
	}
	codes := map[int64]int{}
	for i, right := range rightHouses() {
		for j, line := range lines {
			if i%3 == 0 || j < 7 {
				wantActedStep(t, right.what, right.house, line, codes)
			}
		}
	}
}

// Disks.

func deskDisk() impl.Disk {
	return impl.AreaFormat(impl.DiskNew(impl.MaxSectors)).Disk
}

func TestDeskDisk(t *testing.T) {
	wantDisk(t, "the desk's disk", impl.DeskDisk(), impl.Disk{Sectors: append([]string{headBytes(0, 0, 0)}, make([]string, impl.MaxSectors-1)...)})
}

// houseDisks: of both sides, even and odd, with much and with nothing in the other
// Sectors, and with some pending; all of them boot.
func houseDisks() []impl.Disk {
	base, great := houseText(baseHouse()), houseText(greatestHouse())
	clean := areaOf(21, 4, 0, base)
	for at := range clean.Sectors {
		if at > needed(base) {
			clean.Sectors[at] = ""
		}
	}
	out := []impl.Disk{
		deskDisk(), impl.AreaFormat(impl.DiskNew(5)).Disk, impl.AreaPut(deskDisk(), houseText(impl.House{}), allSteps).Disk,
		areaOf(64, 7, 0, base), areaOf(64, 8, 1, great), areaOf(63, 0, 1, base), areaOf(22, 4, 1, base), areaOf(20, 5, 0, ""), clean,
		areaOf(21, impl.MaxTime-1, 0, base), areaOf(9, 2, 0, houseText(impl.House{Log: impl.Log{Now: 63}})),
	}
	for i, d := range slices.Clone(out) {
		if i%2 == 0 || len(d.Sectors) < 20 {
			continue
		}
		from := 1 + sideIn(d)*half(d)
		behind, over := int64(from+needed(areaIn(d).Text)), int64(len(d.Sectors)-1)
		busy := withPending(d, impl.Pending{At: behind, Data: "saltsalt"}, impl.Pending{At: over, Data: "x"}, impl.Pending{At: behind}, impl.Pending{At: over, Data: "more"})
		out = append(out, busy, withPending(busy, impl.Pending{At: over}), withPending(d, impl.Pending{At: 0, Data: d.Sectors[0]}, impl.Pending{At: int64(from), Data: d.Sectors[from]}))
	}
	return out
}

// noHouses: AreaRead reads them, but what is read is no house's.
func noHouses() []impl.Disk {
	base := houseText(baseHouse())
	var out []impl.Disk
	for i, text := range []string{"x", "\x00", "\x00\x00\x00\x00", base + "\x00", base[:len(base)-1], turned(base, 0), mixed(3, 300), numsBytes(5, -1, 0, 0, 0)} {
		out = append(out, areaOf(30+i, 3, i%2, text))
	}
	return out
}

type badArea struct {
	disk impl.Disk
	code int64
}

// badAreas: none of them is read, and what AreaRead tells of each.
func badAreas() map[string]badArea {
	bad := map[string]badArea{
		"new":                 {impl.DiskNew(9), impl.ErrShort},
		"of one Sector":       {impl.DiskNew(1), impl.ErrShort},
		"the head is turned":  {withSector(deskDisk(), 0, turned(headBytes(0, 0, 0), 1)), impl.ErrSum},
		"no head":             {withSector(deskDisk(), 0, sealedBy("head")), impl.ErrSyntax},
		"a side that is none": {withSector(deskDisk(), 0, headBytes(0, 2, 0)), impl.ErrSyntax},
		"more than the room":  {withSector(deskDisk(), 0, headBytes(0, 0, 1985)), impl.ErrSyntax},
		"a side that lacks":   {withSector(deskDisk(), 0, headBytes(0, 0, 5)), impl.ErrSum},
	}
	for i, d := range wrongDisks() {
		bad[fmt.Sprintf("wrong disk %d", i)] = badArea{d, impl.ErrForm}
	}
	return bad
}

func TestBoot(t *testing.T) {
	for _, right := range rightHouses() {
		text := houseText(right.house)
		for side := range 2 {
			wantHouse(t, right.what, impl.Boot(areaOf(64-side, 5, side, text)), impl.HouseOut{House: right.house})
		}
	}
	for _, d := range houseDisks() {
		wantHouse(t, "a disk", impl.Boot(d), bootIn(d))
		wantNumber(t, "a disk", impl.Boot(d).Code, impl.OK)
	}
	wantHouse(t, "an empty text", impl.Boot(areaOf(64, 9, 1, "")), impl.HouseOut{})
	wantHouse(t, "an empty house", impl.Boot(areaOf(64, 9, 1, "\x00\x00\x00\x00\x00")), impl.HouseOut{})
	for i, d := range noHouses() {
		wantHouseCode(t, fmt.Sprintf("no house %d", i), impl.Boot(d), impl.ErrSyntax)
	}
	for what, bad := range badAreas() {
		wantHouseCode(t, what, impl.Boot(bad.disk), bad.code)
	}
}

// A pending text is the one that boots.
func TestBootOfWhatIsPending(t *testing.T) {
	text := houseText(impl.House{Log: impl.Log{Now: 63}})
	d := impl.AreaPut(impl.AreaFormat(impl.DiskNew(5)).Disk, text, allSteps).Disk
	d = withPending(d, impl.Pending{At: 3, Data: "\x02" + text[1:]}, impl.Pending{At: 3, Data: "\x04" + text[1:]})
	wantHouse(t, "pending", impl.Boot(d), impl.HouseOut{House: impl.House{Log: impl.Log{Now: 2}}})
	wantHouse(t, "lost", impl.Boot(impl.DiskCrash(d, nil)), impl.HouseOut{House: impl.House{Log: impl.Log{Now: 63}}})
	wantHouseCode(t, "no house", impl.Boot(withPending(d, impl.Pending{At: 3, Data: "xxxxxx"})), impl.ErrSyntax)
}

// Scrubs.

func wantScrubbed(t *testing.T, what string, d impl.Disk) {
	t.Helper()
	wantNumber(t, what+": Traces", impl.Traces(d), countIn(d))
	got, was := impl.Scrub(d), areaWith(d)
	wantArea(t, what+": Scrub", got, scrubIn(d))
	if got.Code != impl.OK {
		return
	}
	wantNumber(t, what+": Traces behind it", impl.Traces(got.Disk), 0)
	wantRead(t, what+": read behind it", got.Disk, was.Text, was.Gen)
	wantArea(t, what+": Scrub again", impl.Scrub(got.Disk), got)
	first := 1 + sideIn(d)*half(d)
	for at, sector := range got.Disk.Sectors {
		if isText := at >= first && at < first+needed(was.Text); at > 0 && !isText && sector != "" {
			t.Errorf("%s: in the Sector %d is %q", what, at, sector)
		}
	}
	if len(got.Disk.Pending) > 0 {
		t.Errorf("%s: %s is pending", what, asText(got.Disk.Pending))
	}
}

func TestScrubsOfManyDisks(t *testing.T) {
	disks := slices.Concat(houseDisks(), noHouses(), formatted(t), areasWithoutPending(), someAreas(t), wrongDisks(), rightDisks())
	for what, bad := range badAreas() {
		wantNumber(t, what+": Traces", impl.Traces(bad.disk), -1)
		wantAreaCode(t, what+": Scrub", impl.Scrub(bad.disk), bad.code)
	}
	for i, d := range disks {
		wantScrubbed(t, fmt.Sprintf("disk %d", i), d)
	}
	for _, sectors := range []int{3, 4, 5, 8, 33, 34, impl.MaxSectors} {
		for side := range 2 {
			for _, text := range putTexts(impl.DiskNew(int64(sectors))) {
				d := areaOf(sectors, 6, side, text)
				wantScrubbed(t, fmt.Sprintf("%d sectors, side %d, %d bytes", sectors, side, len(text)), d)
				wantScrubbed(t, "of what was put", impl.AreaPut(d, mixed(7, len(text)/2), allSteps).Disk)
				wantScrubbed(t, "of what was put in part", impl.AreaPut(d, mixed(7, len(text)), 2).Disk)
			}
		}
	}
}

// By hand: the traces of a disk of which the second side has a text of two Sectors.
func TestScrubByHand(t *testing.T) {
	text := mixed(4, 100)
	head := headBytes(9, 1, 100)
	d := impl.Disk{Sectors: []string{head, "a", "", "c", text[:64], text[64:], "f", "over"}}
	wantNumber(t, "traces", impl.Traces(d), 4)
	wantArea(t, "scrubbed", impl.Scrub(d), impl.AreaOut{Disk: impl.Disk{Sectors: []string{head, "", "", "", text[:64], text[64:], "", ""}}})
	d.Pending = []impl.Pending{{At: 2, Data: "b"}, {At: 3}, {At: 5, Data: text[64:]}, {At: 7, Data: "x"}, {At: 0, Data: head}, {At: 7}}
	wantNumber(t, "traces, some pending", impl.Traces(d), 3)
	wantArea(t, "scrubbed, some pending", impl.Scrub(d), impl.AreaOut{Disk: impl.Disk{Sectors: []string{head, "", "", "", text[:64], text[64:], "", ""}}})
	longer := withSector(d, 5, text[64:]+"more")
	longer.Pending = nil
	wantArea(t, "more bytes than the text has", impl.Scrub(longer), impl.AreaOut{Disk: impl.Disk{Sectors: []string{head, "", "", "", text[:64], text[64:] + "more", "", ""}}})
	none := withSector(longer, 0, headBytes(9, 1, 0))
	wantNumber(t, "no text", impl.Traces(none), 6)
	wantArea(t, "no text", impl.Scrub(none), impl.AreaOut{Disk: impl.Disk{Sectors: append([]string{headBytes(9, 1, 0)}, make([]string, 7)...)}})
	first := withSector(longer, 0, headBytes(9, 0, 1))
	wantNumber(t, "the first side", impl.Traces(first), 5)
	for sectors := 1; sectors <= 2; sectors++ {
		few := withSector(impl.DiskNew(int64(sectors)), 0, headBytes(3, 1, 0))
		wantNumber(t, "no sides", impl.Traces(few), 0)
		wantArea(t, "no sides", impl.Scrub(few), impl.AreaOut{Disk: few})
	}
	wantNumber(t, "no sides, but a trace", impl.Traces(impl.Disk{Sectors: []string{headBytes(3, 1, 0), "x"}}), 1)
	wantArea(t, "no sides, but a trace", impl.Scrub(impl.Disk{Sectors: []string{headBytes(3, 1, 0), "x"}}), impl.AreaOut{Disk: impl.Disk{Sectors: []string{headBytes(3, 1, 0), ""}}})
}

// Each trace is one more that is pending: where there is no room for all of them,
// that is told; what is not written takes no room.
func TestScrubWithManyPending(t *testing.T) {
	base := areaOf(9, 5, 0, mixed(1, 200))
	for traces := range 5 {
		d := copyOf(base)
		for at := 5; at < 9; at++ {
			d.Sectors[at] = strings.Repeat("x", max(0, 5+traces-at))
		}
		for count := mostPending - 6; count <= mostPending; count++ {
			full := withPending(d, slices.Repeat([]impl.Pending{{At: 1, Data: d.Sectors[1]}}, count)...)
			wantNumber(t, "traces", impl.Traces(full), int64(traces))
			wantScrubbed(t, "many pending", full)
			if fits := count+traces <= mostPending; fits != (impl.Scrub(full).Code == impl.OK) {
				t.Errorf("%d pending, %d traces: code %d", count, traces, impl.Scrub(full).Code)
			}
		}
	}
	wantAreaCode(t, "no room for one", impl.Scrub(withPending(base, slices.Repeat([]impl.Pending{{At: 8, Data: "x"}}, mostPending)...)), impl.ErrFull)
}

// Wherever the power goes while the traces are written over: the text stays.
func TestPowerGoesInAScrub(t *testing.T) {
	for _, d := range houseDisks() {
		if len(d.Pending) > 0 {
			continue
		}
		was, torn := areaIn(d), copyOf(d)
		for at, sector := range impl.Scrub(d).Disk.Sectors {
			if sector != d.Sectors[at] {
				torn.Pending = append(torn.Pending, impl.Pending{At: int64(at), Data: sector})
			}
		}
		for _, keep := range manyKeeps(len(torn.Pending)) {
			behind := impl.DiskCrash(torn, keep)
			wantRead(t, "behind a crash", behind, was.Text, was.Gen)
			wantArea(t, "scrubbed behind a crash", impl.Scrub(behind), impl.Scrub(d))
		}
	}
}

// A line on a disk.

func manySteps(text string) []int64 {
	var out []int64
	for steps := int64(-1); steps <= int64(needed(text)+4); steps++ {
		out = append(out, steps)
	}
	return append(out, 97, 98, 99, 100, 1000, math.MaxInt64, math.MinInt64)
}

func diskLines() []string {
	return []string{"add user age=newsalt=42", "forget 0 0", "forget 2 0", "sweep 3", "time 99", "rule user age 0 7", "norule user age", "hold 2", "free 3",
		"forget 9 9", "hold 3", "forget 3 0", "forget 1 1", "sweep 101", "hold", "", "what"}
}

func TestHouseDoOfManyDisks(t *testing.T) {
	for i, d := range houseDisks() {
		for j, line := range diskLines() {
			for _, steps := range manySteps(houseText(actIn(bootIn(d).House, line).House)) {
				if (i+j)%3 == 0 || steps >= 98 || steps == 3 {
					wantDone(t, fmt.Sprintf("disk %d, %s, %d steps", i, line, steps), impl.HouseDo(d, line, steps), houseDoIn(d, line, steps))
				}
			}
		}
	}
}

func TestHouseDoByHand(t *testing.T) {
	d := impl.AreaFormat(impl.DiskNew(5)).Disk
	row := rowIn("user", 0, fieldIn("age", "s", "42"))
	text := houseText(impl.House{Log: withRow(impl.Log{}, row)})
	head := headBytes(1, 1, int64(len(text)))
	done := impl.Disk{Sectors: []string{head, "", "", text, ""}}
	wantDone(t, "all steps", impl.HouseDo(d, "add user age=s=42", 99), impl.DiskTold{Disk: done, Told: "0"})
	wantDone(t, "none", impl.HouseDo(d, "add user age=s=42", 0), impl.DiskTold{Disk: d, Told: "0"})
	wantDone(t, "one", impl.HouseDo(d, "add user age=s=42", 1), impl.DiskTold{Disk: withPending(d, impl.Pending{At: 3, Data: text}), Told: "0"})
	wantDone(t, "two", impl.HouseDo(d, "add user age=s=42", 2), impl.DiskTold{Disk: withSector(d, 3, text), Told: "0"})
	wantDone(t, "three", impl.HouseDo(d, "add user age=s=42", 3), impl.DiskTold{Disk: withPending(withSector(d, 3, text), impl.Pending{Data: head}), Told: "0"})
	wantDone(t, "four", impl.HouseDo(d, "add user age=s=42", 4), impl.DiskTold{Disk: done, Told: "0"})
	next := houseText(impl.House{Log: atTime(withRow(impl.Log{}, row), 5)})
	second := headBytes(2, 0, int64(len(next)))
	wantDone(t, "a second line, no scrub", impl.HouseDo(done, "time 5", 98), impl.DiskTold{Disk: impl.Disk{Sectors: []string{second, next, "", text, ""}}, Told: "ok"})
	wantDone(t, "a second line", impl.HouseDo(done, "time 5", 99), impl.DiskTold{Disk: impl.Disk{Sectors: []string{second, next, "", "", ""}}, Told: "ok"})
	wantDone(t, "a line that changes nothing", impl.HouseDo(done, "sweep 9", 99), impl.DiskTold{Disk: impl.Disk{Sectors: []string{headBytes(2, 0, int64(len(text))), text, "", "", ""}}, Told: "0"})
}

// The faults in the order in which they are named, whatever the steps.
func TestHouseDoFaultsInOrder(t *testing.T) {
	long := "hold " + strings.Repeat("1", impl.MaxBytes)
	last, small := areaOf(21, impl.MaxTime, 0, houseText(baseHouse())), impl.AreaFormat(impl.DiskNew(3)).Disk
	big := "add user age=12345678=1234567890123456 city=12345678=1234567890123456"
	for _, steps := range []int64{math.MinInt64, -1, 0, 1, 98, 99, math.MaxInt64} {
		for what, bad := range badAreas() {
			wantDoneCode(t, what, impl.HouseDo(bad.disk, "time 5", steps), bad.code)
			wantDoneCode(t, what+", and no line", impl.HouseDo(bad.disk, "what", steps), bad.code)
			wantDoneCode(t, what+", and a line too long", impl.HouseDo(bad.disk, long, steps), impl.ErrSize)
		}
		for _, d := range noHouses() {
			wantDoneCode(t, "no house", impl.HouseDo(d, "hold 9", steps), impl.ErrSyntax)
			wantDoneCode(t, "no house, and a line too long", impl.HouseDo(d, long, steps), impl.ErrSize)
		}
		for line, code := range map[string]int64{"what": impl.ErrSyntax, "hold 3": impl.ErrThere, "hold 9": impl.ErrForm, "forget 9 9": impl.ErrNone, "forget 3 0": impl.ErrHeld, "forget 1 1": impl.ErrRange, long: impl.ErrSize} {
			wantDoneCode(t, "no next number, and a fault of the line", impl.HouseDo(last, line, steps), code)
		}
		wantDoneCode(t, "no next number", impl.HouseDo(last, "time 99", steps), impl.ErrFull)
		wantDoneCode(t, "no room", impl.HouseDo(small, big, steps), impl.ErrFull)
		wantDoneCode(t, "no room, and no such row", impl.HouseDo(small, "forget 0 0", steps), impl.ErrNone)
	}
	wantNumber(t, "just room", impl.HouseDo(impl.AreaFormat(impl.DiskNew(5)).Disk, big, 99).Code, impl.OK)
}

// The steps may tell a code of their own; what is pending at first is flushed.
func TestHouseDoWithManyPending(t *testing.T) {
	base := areaOf(40, 5, 0, houseText(baseHouse()))
	for count := mostPending - 12; count <= mostPending; count++ {
		d := withPending(base, slices.Repeat([]impl.Pending{{At: 39, Data: "x"}}, count)...)
		for _, steps := range []int64{0, 1, 4, 6, 98, 99} {
			wantDone(t, fmt.Sprintf("%d pending", count), impl.HouseDo(d, "hold 1", steps), houseDoIn(d, "hold 1", steps))
		}
	}
	full := withPending(base, slices.Repeat([]impl.Pending{{At: 39, Data: "x"}}, mostPending)...)
	wantDoneCode(t, "no room for one", impl.HouseDo(full, "hold 1", 99), impl.ErrFull)
}

// All that a house may have is kept on the desk's disk.
func TestTheGreatestHouseHasRoom(t *testing.T) {
	great := houseText(greatestHouse())
	if len(great) > room(deskDisk()) {
		t.Fatalf("the greatest house has %d bytes", len(great))
	}
	d := areaOf(impl.MaxSectors, 4, 0, great)
	got := impl.HouseDo(d, "free 5", 99)
	wantDone(t, "the greatest", got, houseDoIn(d, "free 5", 99))
	wantHouse(t, "the greatest, read", impl.Boot(got.Disk), impl.HouseOut{House: actIn(greatestHouse(), "free 5").House})
}

// Promise 20.

// wantOldOrNew: what boots is what was there, or all of what the line makes of it.
func wantOldOrNew(t *testing.T, what string, d impl.Disk, was, is impl.House, steps, all int64) {
	t.Helper()
	got := impl.Boot(d)
	isOld, isNew := sameHouse(got.House, was), sameHouse(got.House, is)
	if got.Code != impl.OK || !isOld && !isNew {
		t.Fatalf("%s: code %d and %s", what, got.Code, asText(got.House))
	}
	if steps >= all && !isNew || steps < all-1 && !isOld {
		t.Fatalf("%s: behind %d of %d steps there is the other one", what, steps, all)
	}
}

func TestPowerGoesWhileALineIsDone(t *testing.T) {
	for i, d := range houseDisks() {
		was := bootIn(d).House
		if len(d.Pending) > 0 {
			continue
		}
		for _, line := range diskLines()[:9] {
			is := actIn(was, line)
			if is.Code != impl.OK || len(houseText(is.House)) > room(d) {
				continue
			}
			all := int64(needed(houseText(is.House)) + 3)
			for _, steps := range manySteps(houseText(is.House)) {
				what, got := fmt.Sprintf("disk %d, %s, %d steps", i, line, steps), impl.HouseDo(d, line, steps)
				wantNumber(t, what, got.Code, impl.OK)
				for _, keep := range manyKeeps(len(got.Disk.Pending)) {
					wantOldOrNew(t, fmt.Sprintf("%s, keep %d", what, keep), impl.DiskCrash(got.Disk, keep), was, is.House, steps, all)
				}
				if steps >= 99 {
					wantNumber(t, what+": Traces", impl.Traces(got.Disk), 0)
					wantDisk(t, what+": all of it is flushed", impl.DiskCrash(got.Disk, nil), got.Disk)
				}
			}
		}
	}
}

// Power goes many times; what was last there is there again and again, and the
// next line that is done wholly leaves no trace of it all.
func TestPowerGoesAgainAndAgainInAHouse(t *testing.T) {
	turns, traces := 0, 0
	for seed := range uint64(12) {
		d, h := deskDisk(), impl.House{}
		for i, line := range someLines(seed+300, 40) {
			is := actIn(h, line)
			dice := []byte(mixed(seed*100+uint64(i), 6))
			steps := int64(dice[0]) % int64(needed(houseText(is.House))+5)
			got := impl.HouseDo(d, line, steps)
			wantNumber(t, line, got.Code, is.Code)
			if got.Code != impl.OK {
				continue
			}
			var keep []int64
			for j := range got.Disk.Pending {
				keep = append(keep, int64(dice[1+j%5]>>(j/5))&1)
			}
			d = impl.DiskCrash(got.Disk, keep)
			wantOldOrNew(t, line, d, h, is.House, steps, int64(needed(houseText(is.House))+3))
			if now := impl.Boot(d).House; !sameHouse(now, h) {
				h = now
				turns++
			}
			traces += int(impl.Traces(d))
			whole := impl.HouseDo(d, "sweep 0", 99)
			wantNumber(t, "Traces", impl.Traces(whole.Disk), 0)
			wantHouse(t, "done wholly", impl.Boot(whole.Disk), impl.HouseOut{House: h})
		}
	}
	if turns < 50 || traces < 200 {
		t.Errorf("%d lines came to be there, %d traces were left: the test looks at less than it should", turns, traces)
	}
}

// Promise 21.

// tellingSalt is a salt that stands nowhere else.
func tellingSalt(i int) string {
	return fmt.Sprintf("%.8x", sha(fmt.Sprint("salt ", i)))[:8]
}

// bytesOf is all that stands on a disk, Sector by Sector, and what is pending.
func bytesOf(d impl.Disk) string {
	out := strings.Join(d.Sectors, "")
	for _, p := range d.Pending {
		out += "\x00" + p.Data
	}
	return out
}

// wantSalts: the salt of a Field that is there stands on the disk once, and that
// of one that was forgotten nowhere, nor a part of it, nor its value.
func wantSalts(t *testing.T, what string, d impl.Disk, salts map[fieldPlace]string) (gone int) {
	t.Helper()
	all := bytesOf(d)
	for i, r := range impl.Boot(d).House.Log.Rows {
		for j, f := range r.Fields {
			salt := salts[fieldPlace{int64(i), int64(j)}]
			value := strings.ToUpper(salt)
			if !f.Gone {
				wantNumber(t, what+": a salt", int64(strings.Count(all, salt)), 1)
				wantNumber(t, what+": a value", int64(strings.Count(all, value)), 1)
				continue
			}
			gone++
			for _, text := range []string{salt, value, salt[:6], salt[2:], value[:6], value[2:]} {
				if strings.Contains(all, text) {
					t.Errorf("%s: %q of the Field %d %d, which was forgotten, stands on the disk", what, text, i, j)
				}
			}
		}
	}
	return gone
}

// saltedLines have rows with three Fields each, of telling salts and values; the
// salts are told by their places.
func saltedLines(rows int) ([]string, map[fieldPlace]string) {
	var lines []string
	salts := map[fieldPlace]string{}
	for i := range rows {
		line := "add user"
		for j, name := range []string{"age", "city", "name"} {
			salt := tellingSalt(3*i + j)
			salts[fieldPlace{int64(i), int64(j)}] = salt
			line += " " + name + "=" + salt + "=" + strings.ToUpper(salt)
		}
		lines = append(lines, line)
	}
	return lines, salts
}

func doneOn(t *testing.T, d impl.Disk, line string, steps int64) impl.Disk {
	t.Helper()
	got := impl.HouseDo(d, line, steps)
	if got.Code != impl.OK {
		t.Fatalf("%s: code %d", line, got.Code)
	}
	return got.Disk
}

// Who asks, and what is due, in some orders.
func TestSaltsOfWhatWasForgottenAreNowhere(t *testing.T) {
	lines, salts := saltedLines(impl.MaxRows)
	lines = append(lines, "rule user city 0 5", "time 4")
	for _, start := range []impl.Disk{deskDisk(), impl.DiskFlush(houseDisks()[0]).Disk, areaOf(63, 9, 1, "")} {
		for turn := range 3 {
			d := start
			for _, line := range lines {
				d = doneOn(t, d, line, 99)
				wantSalts(t, line, d, salts)
			}
			gone := 0
			for k := range impl.MaxRows * 2 {
				row, field := (k*5+turn)%impl.MaxRows, 2*(k/impl.MaxRows)
				line := fmt.Sprintf("forget %d %d", row, field)
				unscrubbed := doneOn(t, d, line, 98)
				if salt := salts[fieldPlace{int64(row), int64(field)}]; !strings.Contains(bytesOf(unscrubbed), salt) {
					t.Errorf("%s: %q is gone without a scrub: the test looks at less than it should", line, salt)
				}
				d = doneOn(t, d, line, 99)
				gone = wantSalts(t, line, d, salts)
				wantNumber(t, line+": how many are gone", int64(gone), int64(k+1))
			}
			for _, line := range []string{"time 5", "sweep 1", "sweep 2", "sweep 100"} {
				d = doneOn(t, d, line, 99)
				gone = wantSalts(t, line, d, salts)
			}
			wantNumber(t, "how many are gone", int64(gone), impl.MaxRows*impl.MaxFields)
		}
	}
}

// What was torn before, or is pending, is no place for a salt either.
func TestSaltsAreNowhereBehindTornLines(t *testing.T) {
	lines, salts := saltedLines(4)
	d := deskDisk()
	for _, line := range lines {
		d = doneOn(t, d, line, 98)
	}
	gone := 0
	for steps := range int64(14) {
		for _, keep := range [][]int64{nil, {1, 0, 1, 0, 1, 0, 1, 0}, {0, 1, 0, 1, 0, 1, 0, 1}, slices.Repeat([]int64{1}, 20)} {
			what, torn := fmt.Sprintf("%d steps, keep %d", steps, keep), d
			for row := range lines {
				pending := doneOn(t, torn, fmt.Sprintf("forget %d 1", row), steps)
				gone += wantSalts(t, what+", pending", doneOn(t, pending, fmt.Sprintf("forget %d 2", row), 99), salts)
				torn = impl.DiskCrash(pending, keep)
				gone += wantSalts(t, what+", scrubbed", impl.Scrub(torn).Disk, salts)
				gone += wantSalts(t, what+", a line behind it", doneOn(t, torn, "sweep 0", 99), salts)
			}
		}
	}
	if gone < 700 {
		t.Errorf("%d were gone: the test looks at less than it should", gone)
	}
}

// What is handed in stays, and what was handed back.

func copyOfHouse(h impl.House) impl.House {
	return impl.House{Log: copyOfLog(h.Log), Policy: copyOfPolicy(h.Policy)}
}

func roomyHouse(h impl.House) impl.House {
	return impl.House{Log: roomyLog(h.Log), Policy: roomyPolicy(h.Policy)}
}

func spoilHouse(h impl.House) {
	spoilLog(h.Log)
	spoilPolicy(h.Policy)
}

func wantHouseUntouched(t *testing.T, what string, h, before impl.House) {
	t.Helper()
	wantLogUntouched(t, what, h.Log, before.Log)
	wantPolicyUntouched(t, what, h.Policy, before.Policy)
}

func textsOfHouse(h impl.House) []string {
	return append(textsOfLog(h.Log), textsOfPolicy(h.Policy)...)
}

func askedLines() []string {
	return []string{"add user age=newsalt=42 name=othersalt=ann", "add user age=salt1=42 name=salt2=ann", "forget 0 0", "forget 1 2", "sweep 0", "sweep 2", "time 0", "time 99",
		"rule user age 0 7", "rule user city 0 7", "norule user age", "norule note name", "hold 0", "hold 2", "free 3", "free 1", "what", "forget 9 9"}
}

// housesFrom has what the calls make of a house.
func housesFrom(h impl.House) []impl.House {
	out := []impl.House{impl.HouseRead(impl.HouseBytes(h)).House}
	for _, line := range askedLines() {
		out = append(out, impl.Act(h, line).House)
	}
	return out
}

// houseDisksFrom has what the calls make of a disk.
func houseDisksFrom(d impl.Disk) []impl.Disk {
	impl.Traces(d)
	out := []impl.Disk{impl.Scrub(d).Disk}
	for _, line := range askedLines()[1:8] {
		for _, steps := range []int64{-1, 0, 1, 5, 98, 99} {
			out = append(out, impl.HouseDo(d, line, steps).Disk)
		}
	}
	return out
}

func askedHouses() []impl.House {
	out := []impl.House{{}, baseHouse(), greatestHouse(), {Log: baseLog(), Policy: fullPolicy()}}
	for i, right := range rightHouses() {
		if i%9 == 0 {
			out = append(out, right.house)
		}
	}
	for i, wrong := range wrongHouses() {
		if i%60 == 0 {
			out = append(out, wrong.house)
		}
	}
	return out
}

func TestHousesAreLeftAlone(t *testing.T) {
	for i, h := range askedHouses() {
		what, given := fmt.Sprintf("house %d", i), roomyHouse(h)
		impl.HouseRight(given)
		made := housesFrom(given)
		var kept []impl.House
		for _, one := range made {
			kept = append(kept, copyOfHouse(one))
		}
		for _, from := range append([]impl.House{given}, made...) {
			for _, later := range housesFrom(from) {
				spoilHouse(later)
			}
		}
		for j := range made {
			wantHouse(t, what+": one that was told before", impl.HouseOut{House: made[j]}, impl.HouseOut{House: kept[j]})
			spoilHouse(made[j])
		}
		wantHouseUntouched(t, what, given, h)
	}
}

// What was told stays, when what was handed in is changed behind it.
func TestHousesKeepNothingOfTheirArguments(t *testing.T) {
	for i, h := range askedHouses() {
		given := copyOfHouse(h)
		made := housesFrom(given)
		spoilHouse(given)
		for j, want := range housesFrom(h) {
			wantHouse(t, fmt.Sprintf("house %d behind its argument is spoiled", i), impl.HouseOut{House: made[j]}, impl.HouseOut{House: want})
		}
	}
}

// No list of one answer reaches into another one of it.
func TestListsOfAHouseShareNothing(t *testing.T) {
	for _, h := range []impl.House{baseHouse(), greatestHouse()} {
		for which, want := range housesFrom(h) {
			got := housesFrom(h)[which]
			spoilLog(got.Log)
			wantPolicy(t, "rules and held ones behind the log is spoiled", impl.PolicyOut{Policy: got.Policy}, impl.PolicyOut{Policy: want.Policy})
			got = housesFrom(h)[which]
			spoilPolicy(got.Policy)
			wantLog(t, "a log behind the policy is spoiled", impl.LogOut{Log: got.Log}, impl.LogOut{Log: want.Log})
			for i := range want.Log.Rows {
				got := housesFrom(h)[which]
				spoilRow(got.Log.Rows[i])
				wantTexts(t, "leaves behind a row is spoiled", got.Log.Leaves, want.Log.Leaves)
				for j, r := range got.Log.Rows {
					if j != i {
						wantRow(t, "a row behind another one is spoiled", impl.RowOut{Row: r}, impl.RowOut{Row: want.Log.Rows[j]})
					}
				}
			}
		}
	}
}

func TestHousesAreNewMemory(t *testing.T) {
	h := baseHouse()
	text := impl.HouseBytes(h)
	given := textsOfHouse(h)
	wantNewMemory(t, "HouseBytes", []string{text, impl.HouseBytes(h)}, given)
	wantNewMemory(t, "HouseRead", textsOfHouse(impl.HouseRead(text).House), []string{text})
	for _, line := range askedLines() {
		wantNewMemory(t, "Act "+line, textsOfHouse(impl.Act(h, line).House), append(slices.Clone(given), line))
	}
	for _, d := range houseDisks() {
		wantNewMemory(t, "Boot", textsOfHouse(impl.Boot(d).House), textsOf(d))
		for _, made := range houseDisksFrom(d) {
			wantNewMemory(t, "a disk", textsOf(made), textsOf(d))
		}
	}
}

func TestHouseDisksAreLeftAlone(t *testing.T) {
	for _, d := range slices.Concat(houseDisks(), noHouses(), wrongDisks()) {
		given := roomyDisk(d)
		booted := impl.Boot(given).House
		made := houseDisksFrom(given)
		var kept []impl.Disk
		for _, disk := range made {
			kept = append(kept, copyOf(disk))
		}
		for _, disk := range made[:9] {
			for _, later := range houseDisksFrom(disk) {
				spoil(later)
			}
		}
		spoilHouse(impl.Boot(given).House)
		wantHouse(t, "what booted before", impl.HouseOut{House: booted}, impl.HouseOut{House: impl.Boot(d).House})
		for i := range made {
			wantDisk(t, "what was told before", made[i], kept[i])
			spoil(made[i])
		}
		wantDiskUntouched(t, "a disk", given, d)
	}
}

// Nothing is kept: the same calls tell the same, whatever came between.
func TestHousesHaveNoMemory(t *testing.T) {
	h, d := baseHouse(), houseDisks()[3]
	tell := func() string {
		return fmt.Sprintf("%+v %+v %+v %d", housesFrom(h), houseDisksFrom(d), impl.Boot(d), impl.Traces(d))
	}
	before := tell()
	for _, other := range askedHouses() {
		housesFrom(other)
	}
	for _, other := range slices.Concat(houseDisks(), noHouses(), wrongDisks()) {
		houseDisksFrom(other)
		impl.Boot(other)
	}
	wantBytes(t, "the same again", tell(), before)
}
