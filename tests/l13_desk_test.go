package tests

import (
	"fmt"
	"regexp"
	"slices"
	"strconv"
	"strings"
	"testing"

	"loop.example/g00633/impl"
)

// A second reckoning of the chapter, by that of the chapters ahead of it.

// deskForms: # is a number, $ is words.
var deskForms = map[string]*regexp.Regexp{
	"ask": deskForm("ask # #"), "do": deskForm("do $"), "head": deskForm("head"), "off": deskForm("off # $"), "size": deskForm("size"), "traces": deskForm("traces"),
}

func deskForm(form string) *regexp.Regexp {
	return regexp.MustCompile(`(?s)\A` + strings.NewReplacer("#", "(0|[1-9][0-9]{0,8})", "$", "([^ ]+(?: [^ ]+)*)").Replace(form) + `\z`)
}

// deskArgsIn tells the word of a line, and what stands behind it as a text and,
// where it is one, as a number; no word, if it is no line.
func deskArgsIn(line string) (word string, args []string, nums []int64) {
	word, _, _ = strings.Cut(line, " ")
	if form := deskForms[word]; form != nil {
		args = form.FindStringSubmatch(line)
	}
	if args == nil {
		return "", nil, nil
	}
	for _, arg := range args[1:] {
		n, _ := strconv.Atoi(arg)
		nums = append(nums, int64(n))
	}
	return word, args[1:], nums
}

type deskAt struct {
	disk    impl.Disk
	auditor impl.Auditor
}

func errorTold(code int64) string {
	return fmt.Sprint("error ", code)
}

// done does a line; isOff says that the power goes behind it.
func (d *deskAt) done(line string, steps int64, isOff bool) string {
	out := houseDoIn(d.disk, line, steps)
	if out.Code != impl.OK {
		return errorTold(out.Code)
	}
	d.disk = out.Disk
	if isOff {
		d.disk = crashed(out.Disk, nil)
		return "off"
	}
	return out.Told
}

func (d *deskAt) heard(l impl.Log) string {
	if len(l.Leaves) == 0 {
		return "error 10"
	}
	var proof []string
	if old := int(d.auditor.Size); old > 0 {
		proof = proofFrom(l.Leaves, old, true)
	}
	head, s := signedHead(auditorOf(l.Leaves), 0)
	out := hearIn(d.auditor, head, s, proof)
	if out.Code != impl.OK {
		return errorTold(out.Code)
	}
	d.auditor = out.Auditor
	return fmt.Sprint("size ", len(l.Leaves))
}

func (d *deskAt) asked(l impl.Log, row, field int64) string {
	w := answerIn(l, row, field)
	return []string{"unknown", "present " + w.Shown.Value, "erased", "missing", "bad"}[judgeIn(d.auditor, row, field, w)]
}

// tell is asked of right lines.
func (d *deskAt) tell(line string) string {
	log := bootIn(d.disk).House.Log
	word, args, nums := deskArgsIn(line)
	switch word {
	case "do":
		return d.done(args[0], 99, false)
	case "off":
		return d.done(args[1], nums[0], true)
	case "head":
		return d.heard(log)
	case "ask":
		return d.asked(log, nums[0], nums[1])
	case "traces":
		return fmt.Sprint(countIn(d.disk))
	}
	return fmt.Sprintf("%d %d", len(log.Rows), len(log.Leaves))
}

// deskIn is what DeskRun tells; without is what DeskFault tells.
func deskIn(text string) (run, without impl.DeskOut) {
	if len(text) > 8000 {
		return impl.DeskOut{Code: impl.ErrSize}, impl.DeskOut{Code: impl.ErrSize}
	}
	lines := strings.SplitAfter(text, "\n")
	if last := len(lines) - 1; lines[last] == "" {
		lines = lines[:last]
	}
	for i, line := range lines {
		bare, ended := strings.CutSuffix(line, "\n")
		if word, _, _ := deskArgsIn(bare); word == "" || !ended || i >= 40 {
			fault := impl.DeskOut{Line: int64(i), Code: impl.ErrSyntax}
			return fault, fault
		}
	}
	d := deskAt{disk: deskDisk(), auditor: newAuditor()}
	for _, line := range lines {
		run.Text += d.tell(line[:len(line)-1]) + "\n"
	}
	return run, impl.DeskOut{}
}

func wantDesk(t *testing.T, what string, got, want impl.DeskOut) {
	t.Helper()
	if got != want {
		t.Errorf("%s: got code %d of line %d and %q, want %d of %d and %q", what, got.Code, got.Line, got.Text, want.Code, want.Line, want.Text)
	}
}

// wantReckonedDesk holds what any text tells against the second reckoning.
func wantReckonedDesk(t *testing.T, text string) impl.DeskOut {
	t.Helper()
	run, without := deskIn(text)
	wantDesk(t, fmt.Sprintf("DeskRun of %.90q", text), impl.DeskRun(text), run)
	wantDesk(t, fmt.Sprintf("DeskFault of %.90q", text), impl.DeskFault(text), without)
	return run
}

func wantDeskFault(t *testing.T, text string, line int64, code int64) {
	t.Helper()
	want := impl.DeskOut{Line: line, Code: code}
	wantDesk(t, fmt.Sprintf("by the second reckoning %.90q", text), wantReckonedDesk(t, text), want)
}

// ended are the lines, each with its line feed.
func ended(lines ...string) string {
	text := ""
	for _, line := range lines {
		text += line + "\n"
	}
	return text
}

// wantTurns holds what lines tell, in turn: a line, and what it tells.
func wantTurns(t *testing.T, what string, turns ...string) {
	t.Helper()
	var lines, told []string
	for i := 0; i < len(turns); i += 2 {
		lines, told = append(lines, turns[i]), append(told, turns[i+1])
	}
	got := wantReckonedDesk(t, ended(lines...))
	wantNumber(t, what, got.Code, impl.OK)
	all := strings.SplitAfter(got.Text, "\n")
	for i, line := range lines {
		if i < len(all) && all[i] != told[i]+"\n" {
			t.Errorf("%s: %q, the line %d, told %q, want %q", what, line, i, all[i], told[i])
		}
	}
	wantBytes(t, what, got.Text, ended(told...))
}

func TestDeskConstants(t *testing.T) {
	if impl.MaxDesk != 40 {
		t.Error("a limit is not the document's")
	}
}

func TestDeskWords(t *testing.T) {
	want := []string{"ask", "do", "head", "off", "size", "traces"}
	words := impl.DeskWords()
	wantTexts(t, "the words", words, want)
	if !slices.IsSorted(words) {
		t.Errorf("the words are not rising: %q", words)
	}
	spoilTexts(words)
	wantTexts(t, "the words, behind others are spoiled", impl.DeskWords(), want)
	behind := map[string]string{"ask": " 0 0", "do": " hold 0", "off": " 1 hold 0"}
	for _, word := range want {
		wantDesk(t, word, impl.DeskFault(ended(word+behind[word])), impl.DeskOut{})
	}
}

func TestDeskDisksAreTheirOwn(t *testing.T) {
	want := deskDisk()
	d := impl.DeskDisk()
	wantDisk(t, "the desk's disk", d, want)
	wantNumber(t, "its room", impl.AreaRoom(d), 31*impl.SectorSize)
	wantNumber(t, "its traces", impl.Traces(d), 0)
	wantHouse(t, "what boots of it", impl.Boot(d), impl.HouseOut{})
	spoil(d)
	wantDisk(t, "the desk's disk, behind another one is spoiled", impl.DeskDisk(), want)
	wantTurns(t, "a desk, behind a disk is spoiled", "do add user age=s=42", "0", "size", "1 1", "traces", "0")
}

// Texts that are refused.

// noDeskLines: none of them is a line of a desk; no line feed is in them.
func noDeskLines() []string {
	out := []string{"", " ", "  ", "x", "what", "size ", " size", "size 0", "size 1 1", "sizes", "siz", "s", "Size", "SIZE", "size\t", "size\r", "\tsize", "size\x00", "\x00size", "size size",
		"head ", " head", "head 0", "head 1", "heads", "Head", "head head", "traces ", " traces", "traces 0", "trace", "traces -1",
		"ask", "ask ", "ask 0", "ask 0 ", "ask  0", "ask 0 0 ", " ask 0 0", "ask  0 0", "ask 0  0", "ask 0 0 0", "ask\t0 0", "ask 0\t0", "ask0 0", "ask 0,0", "ASK 0 0", "ask a b",
		"do", "do ", "do  ", "do  hold 0", "do hold  0", "do hold 0 ", " do hold 0", "do norule  age", "do norule user ", "do add  age=s=1", "Do hold 0", "dohold 0", "do\thold 0", "do  x",
		"off", "off ", "off 1", "off 1 ", "off 1  ", "off hold 0", "off 1  hold 0", "off  1 hold 0", "off 1 hold  0", "off 1 hold 0 ", " off 1 hold 0", "off hold 0 1", "off 1hold 0", "off -1 hold 0", "off do hold 0", "on 1 hold 0",
		"add user age=s=42", "forget 0 0", "sweep 0", "time 4", "rule user age 0 1", "norule user age", "hold 0", "free 0", "ok", "error 3", "present 42", "0"}
	for _, word := range wrongWords() {
		if !strings.Contains(word, "\n") {
			out = append(out, "ask "+word+" 0", "ask 0 "+word, "off "+word+" hold 0")
		}
	}
	return out
}

// rightDeskLines tell no more than a code, whatever else they do.
func rightDeskLines() []string {
	out := []string{"size", "head", "traces", "ask 0 0", "ask 999999999 999999999", "ask 0 10", "ask 10 0", "off 0 hold 0", "off 999999999 x", "off 1 1", "off 1 off 1 hold 0", "do do", "do do hold 0", "do size",
		"do x", "do add", "do \x00", "do \t", "do hold 0 0", "do hold -1", "do hold 00", "do hold\t0", "do HOLD 0", "do ask 0 0", "do 1", "do off 1 hold 0", "off 100 size", "do \xff\xfe", "do size\r"}
	for _, line := range askedLines() {
		out = append(out, "do "+line, "off 3 "+line)
	}
	return out
}

func TestNoDeskLines(t *testing.T) {
	for _, line := range noDeskLines() {
		if strings.Contains(line, "\n") {
			t.Fatalf("%q has a line feed", line)
		}
		wantDeskFault(t, ended(line), 0, impl.ErrSyntax)
		wantDeskFault(t, ended("size", line), 1, impl.ErrSyntax)
		wantDeskFault(t, ended("do add user age=s=42", "head", line, "size", "what", line), 2, impl.ErrSyntax)
		if line != "" {
			wantDeskFault(t, line, 0, impl.ErrSyntax)
			wantDeskFault(t, ended("head")+line, 1, impl.ErrSyntax)
		}
	}
	for _, line := range rightDeskLines() {
		wantDesk(t, line, impl.DeskFault(ended(line)), impl.DeskOut{})
		wantNumber(t, line, wantReckonedDesk(t, ended(line)).Code, impl.OK)
	}
}

// What is no line of the house is one of the desk, if it has words: it tells so.
func TestWhatIsNoLineOfTheHouse(t *testing.T) {
	told := 0
	for _, line := range noLines() {
		if strings.Contains(line, "\n") || slices.Contains(strings.Split(line, " "), "") {
			continue
		}
		wantTurns(t, "no line of the house", "do "+line, "error 3", "off 99 "+line, "error 3", "off 0 "+line, "error 3", "size", "0 0", "traces", "0")
		told++
	}
	if told < 100 {
		t.Errorf("%d lines told so: the test looks at less than it should", told)
	}
}

// A line lacks its line feed, be it a right one or not.
func TestLinesWithoutTheirLineFeed(t *testing.T) {
	for _, line := range rightDeskLines() {
		wantDeskFault(t, line, 0, impl.ErrSyntax)
		wantDeskFault(t, ended("size", line)+line, 2, impl.ErrSyntax)
		wantDeskFault(t, line+"\r\n\n"+line, map[bool]int64{true: 1, false: 0}[strings.HasPrefix(line, "do ") || strings.HasPrefix(line, "off ")], impl.ErrSyntax)
		wantDeskFault(t, "\n"+ended(line), 0, impl.ErrSyntax)
		wantDeskFault(t, ended(line)+"\n", 1, impl.ErrSyntax)
	}
	text := ended("do add user age=s=42 name=t=ann", "head", "off 3 forget 0 0", "ask 0 1", "traces", "size")
	for at := range len(text) {
		wantReckonedDesk(t, text[:at])
		wantReckonedDesk(t, text[at:])
		wantReckonedDesk(t, text[:at]+text[at+1:])
		for _, more := range []string{"\n", " ", "\x00", "0", "\r"} {
			wantReckonedDesk(t, text[:at]+more+text[at:])
		}
	}
}

// Each byte within a line.
func TestAnyBytesInDeskLines(t *testing.T) {
	for b := range 256 {
		text := string([]byte{byte(b)})
		for _, form := range []string{"#", "#size", "size#", "si#ze", "size\n#", "ask 0#0", "ask 0 0#", "ask 1# 0", "do #", "do hold#0", "do hold 0#", "do add user a=s=#", "do add user a=#=v", "off #", "off 1#hold 0", "off# 1 x", "do#x", "head#"} {
			wantReckonedDesk(t, ended(strings.ReplaceAll(form, "#", text)))
		}
		if text == " " || text == "=" || text == "\n" {
			continue
		}
		wantTurns(t, "a value", "do add user age="+text+"="+text, "0", "head", "size 1", "ask 0 0", "present "+text)
	}
}

// As many lines as may be, and one too many; the first fault is the one told.
func TestDeskTextsOfManyLines(t *testing.T) {
	for _, line := range []string{"size", "do time 4", "head", "do x"} {
		for _, count := range []int{0, 1, 2, 39, 40} {
			text := strings.Repeat(ended(line), count)
			got := wantReckonedDesk(t, text)
			wantNumber(t, "as many as may be", got.Code, impl.OK)
			wantNumber(t, "as many are told", int64(strings.Count(got.Text, "\n")), int64(count))
			wantDeskFault(t, text+"\n", int64(count), impl.ErrSyntax)
			wantDeskFault(t, text+line, int64(count), impl.ErrSyntax)
			wantDeskFault(t, text+"what", int64(count), impl.ErrSyntax)
		}
		for _, count := range []int{41, 42, 79, 80, 81, 400, 401, 700} {
			text := strings.Repeat(ended(line), count)
			wantDeskFault(t, text, 40, impl.ErrSyntax)
			wantDeskFault(t, text+"what", 40, impl.ErrSyntax)
			wantDeskFault(t, ended("what")+text, 0, impl.ErrSyntax)
			for at := range 43 {
				wantDeskFault(t, strings.Repeat(ended(line), at)+"ask 0\n"+text, int64(min(at, 40)), impl.ErrSyntax)
			}
		}
	}
	wantDesk(t, "no lines", impl.DeskRun(""), impl.DeskOut{})
	wantDesk(t, "no lines", impl.DeskFault(""), impl.DeskOut{})
	wantDeskFault(t, strings.Repeat("\n", impl.MaxBytes), 0, impl.ErrSyntax)
}

// A text too long is told ahead of all else.
func TestDeskTextsTooLong(t *testing.T) {
	long := func(size int) string {
		head := "do add user age=s="
		return ended("do add user age=s=42", "head", head+strings.Repeat("v", size-len(head)-32)) + ended("size")
	}
	text := long(impl.MaxBytes)
	wantNumber(t, "as long as may be", int64(len(text)), impl.MaxBytes)
	wantBytes(t, "as long as may be", wantReckonedDesk(t, text).Text, "0\nsize 1\nerror 1\n1 1\n")
	wantDeskFault(t, text[1:], 0, impl.ErrSyntax)
	for _, other := range []string{"x", "\n", "size\n", ended("size", "what"), mixed(1, 3*impl.MaxBytes)} {
		wantDeskFault(t, text+other, 0, impl.ErrSize)
	}
	wantDeskFault(t, mixed(1, impl.MaxBytes+1), 0, impl.ErrSize)
	wantDeskFault(t, strings.Repeat("size\n", impl.MaxBytes/5), 40, impl.ErrSyntax)
	wantDeskFault(t, strings.Repeat("size\n", impl.MaxBytes/5+1), 0, impl.ErrSize)
	wantDeskFault(t, strings.Repeat("\n", impl.MaxBytes+1), 0, impl.ErrSize)
}

// What is told, by hand.

func TestAnEmptyDesk(t *testing.T) {
	wantTurns(t, "an empty desk", "size", "0 0", "traces", "0", "head", "error 10", "ask 0 0", "unknown", "ask 5 2", "unknown", "ask 999999999 999999999", "unknown",
		"do sweep 100", "0", "do time 7", "ok", "head", "error 10", "do hold 0", "ok", "do free 0", "ok", "do rule user age 0 1", "ok", "head", "error 10", "traces", "0", "size", "0 0")
}

func TestDeskByHand(t *testing.T) {
	wantTurns(t, "shown, forgotten and told", "do add user age=s= name=t=ann", "0", "size", "1 1", "ask 0 0", "unknown", "ask 0 1", "unknown", "head", "size 1",
		"ask 0 0", "present ", "ask 0 1", "present ann", "ask 0 2", "missing", "ask 1 0", "missing", "ask 999999999 0", "missing", "ask 0 999999999", "missing",
		"do forget 0 0", "ok", "size", "1 2", "ask 0 0", "bad", "ask 0 1", "bad", "ask 0 2", "missing", "head", "size 2", "ask 0 0", "erased", "ask 0 1", "present ann", "head", "size 2",
		"do add note age=s=1 city=t=2 name=u=3", "1", "ask 0 0", "bad", "ask 1 2", "bad", "ask 2 0", "missing", "head", "size 3", "ask 1 2", "present 3", "ask 0 0", "erased", "traces", "0", "size", "2 3")
	wantTurns(t, "each code of a line", "do x", "error 3", "do add user age==1", "error 1", "do add user age=s=1", "0", "do forget 1 0", "error 6", "do forget 0 0", "ok", "do forget 0 0", "error 7",
		"do rule user name 5 6", "ok", "do add user name=s=1", "1", "do forget 1 0", "error 8", "do hold 1", "ok", "do forget 1 0", "error 11", "do hold 1", "error 7", "do free 0", "error 6", "do hold 6", "error 1",
		"do add a a=s=1", "2", "do add a a=s=1", "3", "do add a a=s=1", "4", "do add a a=s=1", "5", "do add a a=s=1", "error 9", "do sweep 101", "error 1", "do time 1000001", "error 1", "size", "6 7")
	wantTurns(t, "each code, where the power goes", "off 5 x", "error 3", "off 99 add user age==1", "error 1", "off 99 add user age=s=1", "off", "off 1 forget 1 0", "error 6", "off 99 forget 0 0", "off", "off 0 forget 0 0", "error 7",
		"off 99 rule user name 5 6", "off", "off 99 add user name=s=1", "off", "off 9 forget 1 0", "error 8", "off 99 hold 1", "off", "off 9 forget 1 0", "error 11", "size", "2 3", "traces", "0",
		"off 99 add a a=s=1", "off", "off 99 add a a=s=1", "off", "off 99 add a a=s=1", "off", "off 99 add a a=s=1", "off", "off 99 add a a=s=1", "error 9", "size", "6 7", "head", "size 7")
}

// Where a line tells a code, neither the disk is another one, nor the auditor.
func TestAFaultLeavesTheDesk(t *testing.T) {
	wantTurns(t, "a fault", "do add user age=s=42 name=t=ann", "0", "head", "size 1", "off 98 forget 0 0", "off", "traces", "1", "size", "1 2", "ask 0 1", "bad",
		"do forget 0 0", "error 7", "traces", "1", "do x", "error 3", "traces", "1", "off 99 forget 9 9", "error 6", "traces", "1", "off 0 x", "error 3", "size", "1 2", "ask 0 1", "bad", "traces", "1",
		"off 0 forget 0 1", "off", "traces", "1", "size", "1 2", "head", "size 2", "ask 0 1", "present ann", "ask 0 0", "erased", "do sweep 0", "0", "traces", "0")
	wantTurns(t, "no leaves", "off 3 add user age=s=42", "off", "head", "error 10", "traces", "1", "size", "0 0", "ask 0 0", "unknown", "do add user age=s=42", "0", "head", "size 1", "ask 0 0", "present 42", "traces", "0")
}

func longestName(i int) string {
	return strings.Repeat("m", 19) + strconv.Itoa(i)
}

func longestAdd(row int) string {
	line := "add " + longestName(row)
	for i := range 3 {
		line += " " + longestName(i) + "=12345678=1234567890123456"
	}
	return line
}

// Promise 20 at the desk: how many steps are done, and what is there behind it.
func TestPowerGoesAtTheDesk(t *testing.T) {
	for _, ahead := range [][]string{{"do time 4"}, {"do add user age=s=42", "do add user age=s=42 name=t=ann"}, slices.Repeat([]string{"do " + longestAdd(1)}, 5)} {
		was := impl.House{}
		for _, line := range ahead {
			was = actIn(was, line[3:]).House
		}
		is := actIn(was, "add note a=s=1").House
		before, behind := needed(houseText(was)), needed(houseText(is))
		for steps := range behind + 6 {
			rows, leaves, traces := len(was.Log.Rows), len(was.Log.Leaves), 0
			switch {
			case steps >= behind+3:
				rows, leaves, traces = rows+1, leaves+1, before
			case steps > behind: // what is pending is lost, what was flushed is not
				traces = behind
			}
			what := fmt.Sprintf("%d rows, %d steps", len(was.Log.Rows), steps)
			wantTail(t, what, ended(ahead...), fmt.Sprintf("off %d add note a=s=1", steps), "off", "size", fmt.Sprint(rows, " ", leaves), "traces", fmt.Sprint(traces), "do sweep 0", "0", "size", fmt.Sprint(rows, " ", leaves), "traces", "0")
		}
		for _, steps := range []int{98, 99, 100, 999999999} {
			traces := map[bool]int{true: before}[steps < 99]
			wantTail(t, fmt.Sprint(steps, " steps"), ended(ahead...), fmt.Sprintf("off %d add note a=s=1", steps), "off", "size", fmt.Sprint(len(is.Log.Rows), " ", len(is.Log.Leaves)), "traces", fmt.Sprint(traces))
		}
	}
}

// wantTail holds what lines tell behind others, in turn: a line, and what it tells.
func wantTail(t *testing.T, what, ahead string, turns ...string) {
	t.Helper()
	lines, told := "", ""
	for i := 0; i < len(turns); i += 2 {
		lines, told = lines+ended(turns[i]), told+ended(turns[i+1])
	}
	got := wantReckonedDesk(t, ahead+lines)
	if first := impl.DeskRun(ahead).Text; got.Text != first+told {
		t.Errorf("%s: %q told %q, want %q behind %q", what, lines, got.Text, told, first)
	}
}

// Promise 25.

// someDeskLines are lines of a desk, most of which tell no code.
func someDeskLines(seed uint64, count int) []string {
	var out []string
	done := slices.DeleteFunc(someLines(seed+900, 3*count), func(line string) bool {
		return strings.Contains(line, "\n") || slices.Contains(strings.Split(line, " "), "")
	})
	bytes := mixed(seed+70, 4*count)
	for i := range count {
		b := bytes[4*i : 4*i+4]
		did, asked := "do "+done[i%len(done)], fmt.Sprintf("ask %d %d", b[1]%5, b[2]%3)
		added := "do add user age=s=42" + []string{"", " name=t=ann"}[b[1]%2]
		forgotten := fmt.Sprintf("do forget %d %d", b[1]%3, b[2]%2)
		ruled, held := fmt.Sprintf("do rule user age %d 30", b[1]%2*30), fmt.Sprint("do hold ", b[1]%3)
		torn := fmt.Sprintf("off %d %s", int(b[3])%18, done[i%len(done)])
		if b[3] > 230 {
			torn = fmt.Sprintf("off %d %s", 96+int(b[2])%8, done[i%len(done)])
		}
		out = append(out, []string{did, did, did, did, added, added, added, added, forgotten, forgotten, ruled, held, torn, torn, torn, "head", "head", asked, asked, asked, asked, asked, "traces", "size"}[b[0]%24])
	}
	return out
}

// wantLineByLine: what the first lines tell begins what all tell.
func wantLineByLine(t *testing.T, lines []string) {
	t.Helper()
	all := impl.DeskRun(ended(lines...)).Text
	told := strings.SplitAfter(all, "\n")
	wantNumber(t, "a line each", int64(len(told)), int64(len(lines)+1))
	for count := range lines {
		got := impl.DeskRun(ended(lines[:count]...))
		wantDesk(t, fmt.Sprintf("the first %d of %q", count, lines), got, impl.DeskOut{Text: strings.Join(told[:count], "")})
	}
}

func TestEachLineTellsALine(t *testing.T) {
	met := map[string]int{}
	for seed := range uint64(160) {
		lines := someDeskLines(seed, impl.MaxDesk-int(seed%5))
		got := wantReckonedDesk(t, ended(lines...))
		wantNumber(t, "a line each", int64(strings.Count(got.Text, "\n")), int64(len(lines)))
		for i, told := range strings.Split(strings.TrimSuffix(got.Text, "\n"), "\n") {
			word, _, _ := strings.Cut(told, " ")
			if word == "error" {
				word = told
			}
			met[word]++
			if lines[i] == "traces" && told != "0" {
				met["some traces"]++
			}
		}
		if seed%16 == 0 {
			wantLineByLine(t, lines)
		}
	}
	for _, word := range []string{"ok", "off", "size", "unknown", "present", "erased", "missing", "bad", "0", "5", "some traces",
		"error 1", "error 3", "error 6", "error 7", "error 8", "error 9", "error 10", "error 11"} {
		if met[word] < 8 {
			t.Errorf("%q was told %d times: the test looks at less than it should", word, met[word])
		}
	}
}

func TestLinesOfADeskInEachOrder(t *testing.T) {
	lines := []string{"do add user age=s=42 name=t=", "off 3 add user age=s=43", "do forget 0 1", "head", "ask 0 1", "size"}
	for _, order := range orders(len(lines)) {
		var text []string
		for _, which := range order {
			text = append(text, lines[which], "traces")
		}
		wantReckonedDesk(t, ended(text...))
	}
}

// The auditor goes along with the log behind each line, and behind some.
func TestTheDesksAuditorGoesAlong(t *testing.T) {
	grow := []string{"do add user age=s=1 name=t=2", "do forget 0 0", "off 99 add user age=s=3", "do add note a=s=1", "do forget 1 0", "off 50 forget 2 0", "do add user age=s=4 name=t=5", "do forget 3 1"}
	for step := 1; step <= len(grow); step++ {
		var turns []string
		for i, line := range grow {
			told := map[bool]string{true: "off", false: "ok"}[line[:3] == "off"]
			if strings.HasPrefix(line, "do add") {
				told = strconv.Itoa(strings.Count(strings.Join(grow[:i], "\n"), "add"))
			}
			turns = append(turns, line, told)
			if (i+1)%step == 0 {
				heard := fmt.Sprint("size ", i+1)
				turns = append(turns, "head", heard, "head", heard)
			}
		}
		wantTurns(t, fmt.Sprintf("each %d lines", step), append(turns, "head", "size 8", "ask 0 1", "present 2", "ask 3 1", "erased", "ask 3 0", "present 4", "size", "4 8")...)
	}
}

// Promise 26.

// kept is a Field of a row, and how it is kept.
type deskKept struct {
	row, field      int
	at, least, most int
}

func (k deskKept) ahead() []string {
	var turns []string
	for row := range k.row {
		turns = append(turns, fmt.Sprintf("do add note age=s=%d", row), strconv.Itoa(row))
	}
	rule := fmt.Sprintf("do rule user %s %d %d", []string{"age", "city", "name"}[k.field], k.least, k.most)
	return append(turns, fmt.Sprintf("do time %d", k.at), "ok", "do add user age=s=42 city=t=bern name=u=", strconv.Itoa(k.row), rule, "ok")
}

// seen are turns in which all Fields of the row are asked.
func (k deskKept) seen(isGone bool) []string {
	size := k.row + 1
	if isGone {
		size++
	}
	turns := []string{"head", fmt.Sprint("size ", size), "size", fmt.Sprint(k.row+1, " ", size), "traces", "0"}
	for field, told := range []string{"present 42", "present bern", "present "} {
		if isGone && field == k.field {
			told = "erased"
		}
		turns = append(turns, fmt.Sprintf("ask %d %d", k.row, field), told)
	}
	return turns
}

// wantKeptUntil: at that time the Field is kept, or forgotten, by who asks and by
// rule, but not as long as its row is held.
func (k deskKept) wantKeptUntil(t *testing.T, now int) {
	t.Helper()
	what := fmt.Sprintf("%+v at %d", k, now)
	hasToBe, isDue := now < k.at+k.least, now >= k.at+k.most
	hold, free, forget := fmt.Sprint("do hold ", k.row), fmt.Sprint("do free ", k.row), fmt.Sprintf("do forget %d %d", k.row, k.field)
	held := slices.Concat(k.ahead(), k.seen(false), []string{hold, "ok", fmt.Sprint("do time ", now), "ok", forget, "error 11", "do sweep 100", "0"}, k.seen(false), []string{free, "ok"})
	asked, swept := []string{forget, "ok"}, []string{"do sweep 100", "0"}
	if hasToBe {
		asked[1] = "error 8"
	}
	if isDue {
		swept[1] = "1"
	}
	wantTurns(t, what+", asked", slices.Concat(held, asked, k.seen(!hasToBe))...)
	wantTurns(t, what+", swept", slices.Concat(held, swept, k.seen(isDue))...)
	wantTurns(t, what+", power goes", slices.Concat(held, []string{"off 2 sweep 1", "off"}, swept, k.seen(isDue))...)
}

func TestAFieldIsKeptAndForgotten(t *testing.T) {
	for _, rule := range [][2]int{{0, 0}, {0, 1}, {1, 1}, {0, 4}, {2, 4}, {4, 4}} {
		for _, at := range []int{0, 5} {
			for which := range 4 {
				k := deskKept{row: which, field: which % 3, at: at, least: rule[0], most: rule[1]}
				for now := at; now <= at+rule[1]+1; now++ {
					k.wantKeptUntil(t, now)
				}
			}
		}
	}
}

// What has been forgotten stays so, wherever the power goes behind it, and what is
// there stays, too.
func TestForgottenAtTheDeskStaysForgotten(t *testing.T) {
	for row := range 3 {
		for field := range 3 {
			for steps := range 16 {
				var turns []string
				for i := range 3 {
					turns = append(turns, fmt.Sprintf("do add user age=s=%d city=t=b%d name=u=c%d", i, i, i), strconv.Itoa(i))
				}
				turns = append(turns, "head", "size 3", fmt.Sprintf("do forget %d %d", row, field), "ok", fmt.Sprintf("off %d rule note age 1 2", steps), "off", "head", "size 4")
				for i := range 9 {
					told := fmt.Sprint("present ", []string{"", "b", "c"}[i%3], i/3)
					if i == 3*row+field {
						told = "erased"
					}
					turns = append(turns, fmt.Sprintf("ask %d %d", i/3, i%3), told)
				}
				wantTurns(t, "forgotten, and the power goes", append(turns, fmt.Sprintf("do forget %d %d", row, field), "error 7", "do sweep 9", "0", "traces", "0", "size", "3 4")...)
			}
		}
	}
}

// All that a house may have, at the desk.
func TestTheGreatestDesk(t *testing.T) {
	turns := []string{"do time 1000000", "ok"}
	for row := range 6 {
		turns = append(turns, "do "+longestAdd(row), strconv.Itoa(row))
	}
	for row := range 6 {
		turns = append(turns, fmt.Sprintf("do rule %s %s 0 1000000", longestName(row), longestName(0)), "ok")
	}
	wantTurns(t, "all of it", append(slices.Clone(turns), "head", "size 6", "ask 5 2", "present 1234567890123456", "do add user age=s=1", "error 9", "do rule user age 0 1", "error 9", "size", "6 6", "traces", "0")...)
	for place := range 18 {
		turns = append(turns, fmt.Sprintf("do forget %d %d", place%6, place/6), "ok")
	}
	for row := range 5 {
		turns = append(turns, fmt.Sprint("do hold ", row), "ok")
	}
	wantTurns(t, "all of it, forgotten", append(turns, "head", "size 24", "size", "6 24", "ask 5 2", "erased", "traces", "0")...)
}

// What is handed in stays, and nothing is kept.

func TestDeskTextsAreNewMemory(t *testing.T) {
	for _, text := range []string{ended("do add user age=s=1234567890123456", "head", "ask 0 0"), ended("do add user age=s=1234567890123456", "head", "ask 0 0", "size"), ended("size"), ended("what")} {
		wantNewMemory(t, "DeskRun", longEnough([]string{impl.DeskRun(text).Text, impl.DeskRun(text).Text}), []string{text})
	}
}

func TestDesksHaveNoMemory(t *testing.T) {
	text := ended("size", "do add user age=s=42", "head", "ask 0 0", "off 3 forget 0 0", "traces", "do forget 0 0", "ask 0 0", "head", "ask 0 0")
	tell := func() string {
		return fmt.Sprintf("%+v %+v %q %+v %+v", impl.DeskRun(text), impl.DeskFault(text), impl.DeskWords(), impl.DeskDisk(), impl.DeskRun(text+"what\n"))
	}
	before := tell()
	for seed := range uint64(9) {
		impl.DeskRun(ended(someDeskLines(seed, impl.MaxDesk)...))
		impl.DeskFault(ended(someDeskLines(seed, impl.MaxDesk)...))
	}
	for _, line := range noDeskLines() {
		impl.DeskRun(ended(line))
	}
	impl.DeskRun(mixed(1, impl.MaxBytes+1))
	spoil(impl.DeskDisk())
	spoilTexts(impl.DeskWords())
	wantBytes(t, "the same again", tell(), before)
	wantBytes(t, "by hand", impl.DeskRun(text).Text, "0 0\n0\nsize 1\npresent 42\noff\n1\nok\nbad\nsize 2\nerased\n")
}
