package tests

import (
	"fmt"
	"math"
	"slices"
	"strings"
	"testing"

	"loop.example/g00633/impl"
)

// A second reckoning of the chapter, by that of the chapters ahead of it.

func isRightAuditor(a impl.Auditor) bool {
	if a.Size == 0 {
		return len(a.Key) == 32 && len(a.Root) == 0
	}
	return len(a.Key) == 32 && len(a.Root) == 32 && a.Size > 0 && a.Size < 65
}

// headOf reckons of any size and root, also of wrong ones.
func headOf(size int64, root string) string {
	return numsBytes(size) + textsBytes(root)
}

// headReadIn tries each size: its bytes begin no other one's.
func headReadIn(text string) impl.AuditorOut {
	if len(text) > 8000 {
		return impl.AuditorOut{Code: impl.ErrSize}
	}
	for size := range int64(65) {
		root, ok := strings.CutPrefix(text, numsBytes(size, 32))
		if ok && size > 0 && len(root) == 32 {
			return impl.AuditorOut{Auditor: impl.Auditor{Size: size, Root: root}}
		}
	}
	return impl.AuditorOut{Code: impl.ErrSyntax}
}

func allOf32(texts ...string) bool {
	return !slices.ContainsFunc(texts, func(text string) bool { return len(text) != 32 })
}

func verifiedIn(root, text string, s impl.Sig) bool {
	right := s.Key >= 0 && s.Key < 4 && len(s.Ends) == 6 && len(s.Path) == 2 && allOf32(s.Ends...) && allOf32(s.Path...)
	return right && len(text) <= 8000 && madeRoot(text, s) == root
}

// goesOnIn goes up as RFC 9162 does.
func goesOnIn(was, now impl.Auditor, proof []string) bool {
	if was.Size == now.Size {
		return len(proof) == 0 && was.Root == now.Root
	}
	if was.Size > now.Size || len(proof) > 64 || !allOf32(proof...) {
		return false
	}
	wasMade, nowMade, ok := grown(was.Size, now.Size, proof, was.Root)
	return ok && wasMade == was.Root && nowMade == now.Root
}

func hearIn(a impl.Auditor, head string, s impl.Sig, proof []string) impl.AuditorOut {
	heard := headReadIn(head)
	now := heard.Auditor
	now.Key = a.Key
	code := int64(impl.OK)
	switch {
	case len(head) > 8000 || len(proof) > 400:
		code = impl.ErrSize
	case !isRightAuditor(a):
		code = impl.ErrForm
	case heard.Code != impl.OK:
		code = impl.ErrSyntax
	case !verifiedIn(a.Key, head, s):
		code = impl.ErrSum
	case now.Size < a.Size:
		code = impl.ErrRange
	case a.Size > 0 && !goesOnIn(a, now, proof):
		code = impl.ErrState
	}
	if code != impl.OK {
		return impl.AuditorOut{Code: code}
	}
	return impl.AuditorOut{Auditor: now}
}

func answerIn(l impl.Log, row, field int64) impl.Answer {
	switch statusIn(l, row, field) {
	case impl.StPresent:
		return impl.Answer{Row: proofIn(l, placeIn(l, row)), Shown: shownIn(l.Rows[row], int(field))}
	case impl.StErased:
		return impl.Answer{Row: proofIn(l, placeIn(l, row)), Tomb: proofIn(l, tombPlaceIn(l, row, field))}
	}
	return impl.Answer{}
}

func provedIn(a impl.Auditor, p impl.Proof) bool {
	return p.Size == a.Size && goodIn(p, a.Root)
}

// judgeIn looks for all that is bad, ahead of anything else.
func judgeIn(a impl.Auditor, row, field int64, w impl.Answer) int64 {
	if a.Size == 0 || !isRightAuditor(a) {
		return 0
	}
	rowBad := w.Row.Leaf != "" && !(kindIn(w.Row.Leaf) == 1 && provedIn(a, w.Row))
	noted, note := w.Tomb.Leaf != "", tombIn(w.Tomb.Leaf)
	itsOwn := note.Code == impl.OK && note.Tomb.Row == row && note.Tomb.Field == field
	tombBad := noted && !(itsOwn && provedIn(a, w.Tomb))
	shown, leaf := len(w.Shown.Names) > 0, leafIn(rowBehind(w.Shown))
	shownBad := shown && (leaf == "" || leaf != w.Row.Leaf || w.Shown.Index != field)
	switch {
	case rowBad || tombBad || shownBad || shown && noted:
		return 4
	case shown:
		return 1
	case noted:
		return 2
	}
	return 3
}

func clashIn(a, b impl.Auditor, proof []string) bool {
	apart := a.Key != b.Key || a.Size == 0 || b.Size == 0
	if apart || len(proof) > 400 || !isRightAuditor(a) || !isRightAuditor(b) {
		return false
	}
	if a.Size == b.Size {
		return a.Root != b.Root
	}
	if a.Size > b.Size {
		return !goesOnIn(b, a, proof)
	}
	return !goesOnIn(a, b, proof)
}

func wantAuditor(t *testing.T, what string, got, want impl.AuditorOut) {
	t.Helper()
	if got != want {
		t.Errorf("%s: got %+q, want %+q", what, fmt.Sprint(got), fmt.Sprint(want))
	}
}

func wantAuditorCode(t *testing.T, what string, got impl.AuditorOut, code int64) {
	t.Helper()
	wantAuditor(t, what, got, impl.AuditorOut{Code: code})
}

func wantAuditorRight(t *testing.T, what string, a impl.Auditor, want bool) {
	t.Helper()
	if got := impl.AuditorRight(a); got != want {
		t.Errorf("%s: AuditorRight of a key of %d bytes, size %d, a root of %d bytes: got %t", what, len(a.Key), a.Size, len(a.Root), got)
	}
}

func wantAnswer(t *testing.T, what string, got, want impl.Answer) {
	t.Helper()
	wantProof(t, what+": Row", got.Row, want.Row)
	wantProof(t, what+": Tomb", got.Tomb, want.Tomb)
	wantShown(t, what+": Shown", impl.ShownOut{Shown: got.Shown}, impl.ShownOut{Shown: want.Shown})
}

// wantJudged holds a judgement against what is said here, and that against the
// second reckoning.
func wantJudged(t *testing.T, what string, a impl.Auditor, row, field int64, w impl.Answer, want int64) {
	t.Helper()
	if in := judgeIn(a, row, field, w); in != want {
		t.Errorf("%s: of %d %d the second reckoning judges %d, not %d", what, row, field, in, want)
	}
	if got := impl.Judge(a, row, field, w); got != want {
		t.Errorf("%s: Judge of %d %d is %d, want %d; it was asked of %s", what, row, field, got, want, asText(w))
	}
}

// wantReckoned holds a judgement against the second reckoning alone.
func wantReckoned(t *testing.T, what string, a impl.Auditor, row, field int64, w impl.Answer) int64 {
	t.Helper()
	want := judgeIn(a, row, field, w)
	wantJudged(t, what, a, row, field, w, want)
	return want
}

func wantClash(t *testing.T, what string, a, b impl.Auditor, proof []string, want bool) {
	t.Helper()
	for _, pair := range [][2]impl.Auditor{{a, b}, {b, a}} {
		if in := clashIn(pair[0], pair[1], proof); in != want {
			t.Errorf("%s: by the second reckoning sizes %d and %d clash: %t", what, pair[0].Size, pair[1].Size, in)
		}
		if got := impl.Clash(pair[0], pair[1], proof); got != want {
			t.Errorf("%s: Clash of sizes %d and %d by a proof of %d: got %t", what, pair[0].Size, pair[1].Size, len(proof), got)
		}
	}
}

const auditSeed = "desk"

func newAuditor() impl.Auditor {
	return impl.Auditor{Key: levelsRoot(publicsOf(auditSeed))}
}

// auditorOf has heard of these leaves.
func auditorOf(leaves []string) impl.Auditor {
	a := newAuditor()
	if len(leaves) > 0 {
		a.Size, a.Root = int64(len(leaves)), levelsRoot(leaves)
	}
	return a
}

func ofSize(a impl.Auditor, size int64) impl.Auditor {
	return impl.Auditor{Key: a.Key, Size: size, Root: a.Root}
}

func ofRoot(a impl.Auditor, root string) impl.Auditor {
	return impl.Auditor{Key: a.Key, Size: a.Size, Root: root}
}

func ofKey(a impl.Auditor, key string) impl.Auditor {
	return impl.Auditor{Key: key, Size: a.Size, Root: a.Root}
}

func signedHead(a impl.Auditor, key int64) (string, impl.Sig) {
	head := headOf(a.Size, a.Root)
	return head, sigOf(auditSeed, key, head)
}

// auditorSizes: some of them are right ones when they are cut to fewer bits.
func auditorSizes() []int64 {
	return append(around(impl.MaxLeaves), 2, 31, 32, 33, 62, 66, 128, 257, 1<<16, 1<<32+64)
}

func wrongAuditors() []impl.Auditor {
	right := auditorOf(baseLog().Leaves)
	out := []impl.Auditor{{}, ofSize(right, 0), ofRoot(right, ""), {Size: 7, Root: right.Root}, {Key: right.Key, Size: -1}}
	for _, size := range auditorSizes() {
		if size < 1 || size > 64 {
			out = append(out, ofSize(right, size))
		}
	}
	for _, text := range sized(right.Key) {
		out = append(out, ofKey(right, text), impl.Auditor{Key: text})
	}
	for _, text := range sized(right.Root) {
		out = append(out, ofRoot(right, text))
	}
	return append(out, impl.Auditor{Key: right.Key, Root: right.Root}, impl.Auditor{Key: right.Key, Root: "x"}, impl.Auditor{Key: right.Key, Size: 1, Root: "x"})
}

func TestAuditConstants(t *testing.T) {
	if impl.VdUnknown != 0 || impl.VdPresent != 1 || impl.VdErased != 2 || impl.VdMissing != 3 || impl.VdBad != 4 {
		t.Error("a constant is not the document's")
	}
}

func TestAuditorRight(t *testing.T) {
	right := 0
	keys := append(sized(mixed(1, 32)), mixed(1, 32))
	roots := append(sized(mixed(2, 32)), mixed(2, 32), "\x00")
	for _, key := range keys {
		for _, root := range roots {
			for _, size := range auditorSizes() {
				a := impl.Auditor{Key: key, Size: size, Root: root}
				wantAuditorRight(t, "each with each", a, isRightAuditor(a))
			}
		}
	}
	for size := int64(-70); size < 200; size++ {
		if impl.AuditorRight(impl.Auditor{Key: mixed(1, 32), Size: size, Root: mixed(2, 32)}) {
			right++
		}
		wantAuditorRight(t, "no root", impl.Auditor{Key: mixed(1, 32), Size: size}, size == 0)
	}
	if right != 64 {
		t.Errorf("%d sizes are right, want 64", right)
	}
	wantAuditorRight(t, "nothing", impl.Auditor{}, false)
	wantAuditorRight(t, "a key alone", newAuditor(), true)
	for _, wrong := range wrongAuditors() {
		wantAuditorRight(t, "a wrong one", wrong, false)
	}
}

// Heads.

// The bytes of the head are those of a log that another program reckoned.
func TestKnownHead(t *testing.T) {
	root := unhex(t, "c57e1719bb33362d4454aa406a67e84508264c56984be17c60c3aab9709921d2")
	text := unhex(t, "0a40c57e1719bb33362d4454aa406a67e84508264c56984be17c60c3aab9709921d2")
	wantAuditor(t, "a known head", impl.HeadRead(text), impl.AuditorOut{Auditor: impl.Auditor{Size: 5, Root: root}})
	wantAuditorCode(t, "an empty log's head", impl.HeadRead(unhex(t, "0040e3b0c44298fc1c149afbf4c8996fb92427ae41e4649b934ca495991b7852b855")), impl.ErrSyntax)
	wantAuditorCode(t, "a wrong log's head", impl.HeadRead(impl.HeadText(impl.Log{Now: -1})), impl.ErrSyntax)
}

func TestHeadsOfLogsAreRead(t *testing.T) {
	for _, logs := range append(someHistories(), fullHistory(), []impl.Log{baseLog()}) {
		for _, l := range logs {
			want := impl.AuditorOut{Auditor: impl.Auditor{Size: int64(len(l.Leaves)), Root: levelsRoot(l.Leaves)}}
			if len(l.Leaves) == 0 {
				want = impl.AuditorOut{Code: impl.ErrSyntax}
			}
			wantAuditor(t, "a log's head", impl.HeadRead(impl.HeadText(l)), want)
		}
	}
}

func TestHeadsOfEachSize(t *testing.T) {
	root := mixed(3, 32)
	read := 0
	for _, size := range append(auditorSizes(), edgeNums()...) {
		got := impl.HeadRead(headOf(size, root))
		wantAuditor(t, "a head", got, headReadIn(headOf(size, root)))
		for _, wrong := range sized(root) {
			wantAuditorCode(t, "a root of another length", impl.HeadRead(headOf(size, wrong)), map[bool]int64{false: impl.ErrSyntax, true: impl.ErrSize}[len(wrong) > 7900])
		}
	}
	for size := int64(-100); size < 300; size++ {
		got := impl.HeadRead(headOf(size, root))
		if got.Code == impl.OK {
			read++
			wantAuditor(t, "a head", got, impl.AuditorOut{Auditor: impl.Auditor{Size: size, Root: root}})
		}
	}
	if read != 64 {
		t.Errorf("heads of %d sizes are read, want 64", read)
	}
}

// noHeads: what is near to a head.
func noHeads() []string {
	var out []string
	root := mixed(3, 32)
	for _, size := range []int64{1, 7, 32, 63, 64} {
		head := headOf(size, root)
		for at := range head {
			out = append(out, head[:at], head[at+1:])
		}
		out = append(out, head+"\x00", "\x00"+head, head+head, head+mixed(1, 1), string([]byte{head[0] | 128, 0})+"\x40"+root,
			numsBytes(size)+"\xc0\x00"+root, numsBytes(size)+root, textsBytes(root)+numsBytes(size), numsBytes(size, 32), numsBytes(-size)+textsBytes(root),
			numsBytes(size, -32)+root, numsBytes(size, 31)+root, numsBytes(size, 33)+root, numsBytes(size, 33)+root+"x", numsBytes(size, 31)+root[1:],
			numsBytes(size, math.MaxInt64)+root, numsBytes(size, math.MinInt64)+root, numsBytes(size, 8000)+root, head+mixed(1, impl.MaxBytes-len(head)))
	}
	return append(out, "", "x", "\x02", strings.Repeat("\xff", 34), strings.Repeat("\x00", 34), mixed(1, 34), mixed(1, impl.MaxBytes), numsBytes(0)+textsBytes(sha("")), numsBytes(65)+textsBytes(root))
}

func TestWhatIsNoHead(t *testing.T) {
	for _, text := range noHeads() {
		wantAuditorCode(t, fmt.Sprintf("%.40q", text), impl.HeadRead(text), impl.ErrSyntax)
		wantAuditor(t, fmt.Sprintf("%.40q by the second reckoning", text), headReadIn(text), impl.AuditorOut{Code: impl.ErrSyntax})
	}
	head := headOf(7, mixed(3, 32))
	for _, text := range []string{mixed(1, impl.MaxBytes+1), head + mixed(1, impl.MaxBytes), head + mixed(1, impl.MaxBytes-33)} {
		wantAuditorCode(t, "a text too long", impl.HeadRead(text), impl.ErrSize)
	}
	for bit := range 8 * len(head) {
		other := []byte(head)
		other[bit/8] ^= 1 << (bit % 8)
		wantAuditor(t, fmt.Sprintf("bit %d turned", bit), impl.HeadRead(string(other)), headReadIn(string(other)))
	}
}

// Promise 22.

// wantHeard holds what was heard against what is said here, and that against the
// second reckoning.
func wantHeard(t *testing.T, what string, a impl.Auditor, head string, s impl.Sig, proof []string, want impl.AuditorOut) {
	t.Helper()
	wantAuditor(t, what+", by the second reckoning", hearIn(a, head, s, proof), want)
	wantAuditor(t, what, impl.HearHead(a, head, s, proof), want)
}

func wantHeardCode(t *testing.T, what string, a impl.Auditor, head string, s impl.Sig, proof []string, code int64) {
	t.Helper()
	wantHeard(t, what, a, head, s, proof, impl.AuditorOut{Code: code})
}

// By the program alone: an auditor hears each head of a log, or leaves some out.
func TestAuditorsGoAlong(t *testing.T) {
	for h, logs := range append(someHistories(), fullHistory()) {
		for step := 1; step < len(logs); step += 3 {
			a := impl.Auditor{Key: impl.KeyRoot(auditSeed)}
			for i := 1; i < len(logs); i += step {
				l, what := logs[i], fmt.Sprintf("history %d, log %d, by steps of %d", h, i, step)
				if len(l.Leaves) == 0 {
					continue
				}
				out := impl.HearHead(a, impl.HeadText(l), impl.HeadSign(l, auditSeed, int64(i%4)), impl.Extend(l, a.Size))
				wantAuditor(t, what, out, impl.AuditorOut{Auditor: auditorOf(l.Leaves)})
				a = out.Auditor
				wantAuditorRight(t, what, a, true)
			}
		}
	}
}

// Each earlier size with each later one, of trees as great as may be.
func TestAuditorsOfEachSize(t *testing.T) {
	entries := entriesOf(impl.MaxLeaves)
	sizes := []int{0, 1, 2, 3, 4, 5, 7, 8, 9, 15, 16, 17, 24, 31, 32, 33, 47, 48, 62, 63, 64}
	for _, size := range sizes[1:] {
		now := auditorOf(entries[:size])
		head, s := signedHead(now, int64(size%4))
		for _, old := range sizes {
			was, what := auditorOf(entries[:old]), fmt.Sprintf("%d behind %d", size, old)
			if old > size {
				wantHeardCode(t, what, was, head, s, nil, impl.ErrRange)
				wantHeardCode(t, what, was, head, s, proofFrom(entries[:old], size, true), impl.ErrRange)
				continue
			}
			var proof []string
			if old > 0 {
				proof = proofFrom(entries[:size], old, true)
			}
			wantHeard(t, what, was, head, s, proof, impl.AuditorOut{Auditor: now})
			more := append(slices.Clone(proof), mixed(1, 32))
			if old == 0 {
				wantHeard(t, what+", a proof that is not asked", was, head, s, more, impl.AuditorOut{Auditor: now})
				continue
			}
			wantHeardCode(t, what+", a proof too long", was, head, s, more, impl.ErrState)
			if len(proof) > 0 {
				wantHeardCode(t, what+", no proof", was, head, s, nil, impl.ErrState)
			}
		}
	}
}

// Behind a head that it refused, an auditor is where it was: it is handed in again.
func TestAuditorsHearNoOtherLog(t *testing.T) {
	histories := append(someHistories(), fullHistory())
	refused := 0
	for h, logs := range histories {
		other := histories[(h+1)%len(histories)]
		for _, mine := range []impl.Log{logs[len(logs)/3], logs[len(logs)-1]} {
			a := auditorOf(mine.Leaves)
			for i, l := range other {
				if len(l.Leaves) == 0 || len(mine.Leaves) == 0 {
					continue
				}
				head, s := signedHead(auditorOf(l.Leaves), 2)
				code := int64(impl.ErrState)
				if len(l.Leaves) < len(mine.Leaves) {
					code = impl.ErrRange
				}
				what := fmt.Sprintf("history %d hears log %d of another", h, i)
				for _, proof := range [][]string{nil, impl.Extend(l, a.Size), impl.Extend(mine, int64(len(l.Leaves))), someDigests(3, 4)} {
					wantHeardCode(t, what, a, head, s, proof, code)
				}
				refused++
			}
		}
	}
	if refused < 250 {
		t.Errorf("%d heads were refused: the test looks at less than it should", refused)
	}
}

// One log that went on in two ways: who has heard of one hears nothing of the other.
func TestAuditorsHearNoFork(t *testing.T) {
	base := baseLog()
	one, two := withGone(base, 0, 0, 1), withGone(base, 1, 1, 1)
	a, b := auditorOf(one.Leaves), auditorOf(two.Leaves)
	for _, fork := range []struct {
		heard impl.Auditor
		now   impl.Log
		code  int64
	}{
		{a, one, impl.OK}, {b, two, impl.OK}, {a, two, impl.ErrState}, {b, one, impl.ErrState},
		{a, withGone(two, 0, 0, 1), impl.ErrState}, {b, withGone(one, 1, 1, 1), impl.ErrState}, {a, base, impl.ErrRange}, {b, base, impl.ErrRange},
		{a, withGone(one, 1, 1, 1), impl.OK}, {b, withGone(two, 0, 0, 1), impl.OK},
	} {
		head, s := signedHead(auditorOf(fork.now.Leaves), 1)
		want := impl.AuditorOut{Code: fork.code}
		if fork.code == impl.OK {
			want.Auditor = auditorOf(fork.now.Leaves)
		}
		wantHeard(t, "a fork", fork.heard, head, s, impl.Extend(fork.now, fork.heard.Size), want)
	}
}

func TestAuditorsHearTheSameHeadAgain(t *testing.T) {
	for _, l := range fullHistory()[1:] {
		a := auditorOf(l.Leaves)
		if a.Size == 0 {
			continue
		}
		head, s := signedHead(a, 0)
		wantHeard(t, "the same head again", a, head, s, nil, impl.AuditorOut{Auditor: a})
		wantHeard(t, "the same head again, an empty proof", a, head, s, []string{}, impl.AuditorOut{Auditor: a})
		wantHeardCode(t, "the same head, and a proof", a, head, s, []string{a.Root}, impl.ErrState)
		wantHeardCode(t, "another root of the same size", ofRoot(a, mixed(5, 32)), head, s, nil, impl.ErrState)
		wantHeardCode(t, "another root of the same size, and a proof", ofRoot(a, mixed(5, 32)), head, s, []string{a.Root}, impl.ErrState)
	}
}

func TestAuditorsHearNothingUnsigned(t *testing.T) {
	l := baseLog()
	was, now := auditorOf(l.Leaves[:4]), auditorOf(l.Leaves)
	proof := proofFrom(l.Leaves, 4, true)
	for key := range int64(impl.MaxKeys) {
		head, s := signedHead(now, key)
		for _, a := range []impl.Auditor{newAuditor(), was, now} {
			given := proof
			if a.Size != 4 {
				given = nil
			}
			wantHeard(t, "signed", a, head, s, given, impl.AuditorOut{Auditor: now})
			for _, wrong := range append(wrongSigs(s), withKey(s, (key+1)%4), withKey(s, key+4), sigOf("disk", key, head)) {
				wantHeardCode(t, "a wrong Sig", a, head, wrong, given, impl.ErrSum)
			}
			for at := range 6 {
				wantHeardCode(t, "an end turned", a, head, withEnds(s, turnedIn(s.Ends, at, at)), given, impl.ErrSum)
			}
			wantHeardCode(t, "another key", ofKey(a, turned(a.Key, 5)), head, s, given, impl.ErrSum)
			wantHeardCode(t, "another's key", ofKey(a, levelsRoot(publicsOf("disk"))), head, s, given, impl.ErrSum)
		}
	}
	other, s := signedHead(was, 1)
	if digitsIn(other) == digitsIn(headOf(now.Size, now.Root)) {
		t.Fatal("both heads have the same digits")
	}
	wantHeardCode(t, "another head's Sig", newAuditor(), headOf(now.Size, now.Root), s, nil, impl.ErrSum)
	wantHeardCode(t, "no Sig", newAuditor(), other, impl.Sig{}, nil, impl.ErrSum)
}

func TestHearHeadOfWrongProofs(t *testing.T) {
	entries := entriesOf(23)
	now := auditorOf(entries)
	head, s := signedHead(now, 3)
	for _, old := range []int{1, 4, 6, 11, 16, 22} {
		was, proof := auditorOf(entries[:old]), proofFrom(entries, old, true)
		hold := func(what string, given []string) {
			t.Helper()
			wantHeardCode(t, fmt.Sprintf("behind %d, %s", old, what), was, head, s, given, impl.ErrState)
		}
		for at := range proof {
			hold("one lacks", slices.Delete(slices.Clone(proof), at, at+1))
			hold("one twice", slices.Insert(slices.Clone(proof), at, proof[at]))
			hold("one turned", turnedIn(proof, at, at))
			for _, text := range sized(proof[at]) {
				hold("one of another length", putIn(proof, at, text))
			}
		}
		hold("none", nil)
		hold("another size's", proofFrom(entries, old+1, true))
		hold("another tree's", proofFrom(entriesOf(24), old, true))
		hold("very many", someDigests(1, impl.MaxList))
		wantHeardCode(t, "one too many", was, head, s, someDigests(1, impl.MaxList+1), impl.ErrSize)
		for at := range 32 {
			wantHeardCode(t, "another root", ofRoot(was, turned(was.Root, at)), head, s, proof, impl.ErrState)
		}
		for _, size := range []int64{2, 3, 5, 12, 23} {
			wantHeardCode(t, "another size", ofSize(was, size), head, s, proof, impl.ErrState)
		}
		wantHeardCode(t, "a greater size", ofSize(was, 24), head, s, proof, impl.ErrRange)
	}
}

// Each fault with each: the first one is told.
func TestFaultsOfHeadsInOrder(t *testing.T) {
	l := fullHistory()[20]
	size := int64(len(l.Leaves))
	codes := map[int64]int{}
	for choice := range 1 << 7 {
		has := func(fault int) bool { return choice>>fault&1 == 1 }
		a, now, proof := auditorOf(l.Leaves[:size-3]), auditorOf(l.Leaves), proofFrom(l.Leaves, int(size-3), true)
		want := int64(impl.OK)
		if has(6) {
			a, want = ofRoot(a, mixed(9, 32)), impl.ErrState
		}
		if has(5) {
			a, want = ofSize(a, size+1), impl.ErrRange
		}
		head, s := signedHead(now, 2)
		if has(4) {
			s, want = withKey(s, 1), impl.ErrSum
		}
		if has(3) {
			head, want = head+"\x00", impl.ErrSyntax
			if !has(4) {
				s = sigOf(auditSeed, 2, head)
			}
		}
		if has(2) {
			a, want = impl.Auditor{Key: a.Key, Size: -a.Size, Root: a.Root}, impl.ErrForm
		}
		if has(1) {
			proof, want = someDigests(1, impl.MaxList+1), impl.ErrSize
		}
		if has(0) {
			head, want = head+mixed(1, impl.MaxBytes), impl.ErrSize
		}
		out := impl.AuditorOut{Code: want}
		if want == impl.OK {
			out.Auditor = now
		}
		wantHeard(t, fmt.Sprintf("faults %07b", choice), a, head, s, proof, out)
		codes[want]++
	}
	if len(codes) != 7 {
		t.Errorf("the codes told are %v", codes)
	}
}

// Lists and texts within a Sig or an Auditor are not handed in as such.
func TestHearHeadOfLongFields(t *testing.T) {
	l := baseLog()
	a := auditorOf(l.Leaves)
	head, s := signedHead(a, 0)
	long := mixed(1, impl.MaxBytes+1)
	wantHeardCode(t, "very many Ends", a, head, withEnds(s, someDigests(1, impl.MaxList+1)), nil, impl.ErrSum)
	wantHeardCode(t, "a very long path", a, head, withPath(s, someDigests(1, impl.MaxList+1)), nil, impl.ErrSum)
	wantHeardCode(t, "a very long end", a, head, withEnds(s, putIn(s.Ends, 0, long)), nil, impl.ErrSum)
	wantHeardCode(t, "a very long key", ofKey(a, long), head, s, nil, impl.ErrForm)
	wantHeardCode(t, "a very long root", ofRoot(a, long), head, s, nil, impl.ErrForm)
	wantHeardCode(t, "a very long one in a proof", ofSize(a, 3), head, s, []string{long}, impl.ErrState)
	wantHeard(t, "a proof as long as may be, not asked", newAuditor(), head, s, make([]string, impl.MaxList), impl.AuditorOut{Auditor: a})
	wantHeardCode(t, "a proof too long, not asked", newAuditor(), head, s, make([]string, impl.MaxList+1), impl.ErrSize)
}

func TestWrongAuditorsHearNothing(t *testing.T) {
	now := auditorOf(baseLog().Leaves)
	head, s := signedHead(now, 0)
	for _, wrong := range wrongAuditors() {
		wantHeardCode(t, "a wrong auditor", wrong, head, s, nil, impl.ErrForm)
		wantHeardCode(t, "a wrong auditor, no head", wrong, "", impl.Sig{}, nil, impl.ErrForm)
	}
	for _, text := range noHeads() {
		for _, a := range []impl.Auditor{newAuditor(), now} {
			wantHeardCode(t, "what is no head", a, text, sigOf(auditSeed, 1, text), nil, impl.ErrSyntax)
		}
	}
}

// Answers.

func TestAnswersOfLogs(t *testing.T) {
	for h, logs := range append(someHistories(), fullHistory(), []impl.Log{baseLog(), {}}) {
		for i, l := range logs {
			if i%4 != 0 && i != len(logs)-1 {
				continue
			}
			for _, row := range logRows() {
				for _, field := range logFields() {
					wantAnswer(t, fmt.Sprintf("history %d, log %d, %d %d", h, i, row, field), impl.AnswerOf(l, row, field), answerIn(l, row, field))
				}
			}
		}
	}
}

// What is told of the base, by hand.
func TestAnswersByHand(t *testing.T) {
	l := baseLog()
	prove := func(index int) impl.Proof {
		return impl.Proof{Leaf: l.Leaves[index], Index: int64(index), Size: 7, Path: levelsPath(l.Leaves, index)}
	}
	wantAnswer(t, "the age", impl.AnswerOf(l, 0, 0), impl.Answer{Row: prove(0), Shown: shownIn(l.Rows[0], 0)})
	wantAnswer(t, "the city", impl.AnswerOf(l, 0, 1), impl.Answer{Row: prove(0), Tomb: prove(1)})
	wantAnswer(t, "the name", impl.AnswerOf(l, 0, 2), impl.Answer{Row: prove(0), Tomb: prove(3)})
	wantAnswer(t, "the text", impl.AnswerOf(l, 1, 0), impl.Answer{Row: prove(2), Tomb: prove(4)})
	wantAnswer(t, "the time", impl.AnswerOf(l, 1, 1), impl.Answer{Row: prove(2), Shown: shownIn(l.Rows[1], 1)})
	wantAnswer(t, "the last name", impl.AnswerOf(l, 2, 0), impl.Answer{Row: prove(5), Tomb: prove(6)})
	for _, at := range []fieldPlace{{0, 3}, {0, -1}, {1, 2}, {2, 1}, {3, 0}, {-1, 0}, {6, 0}} {
		wantAnswer(t, "what is not there", impl.AnswerOf(l, at.row, at.field), impl.Answer{})
	}
}

func TestAnswersOfWrongLogs(t *testing.T) {
	for i, wrong := range wrongLogs() {
		if i%3 != 0 && len(wrong.log.Leaves) > 0 {
			continue
		}
		for row := int64(-1); row < 3; row++ {
			wantAnswer(t, wrong.what, impl.AnswerOf(wrong.log, row, (row+3)%3), impl.Answer{})
			wantAnswer(t, wrong.what, impl.AnswerOf(wrong.log, row, 0), impl.Answer{})
		}
	}
}

// Promise 23.

func verdictOf(status int64) int64 {
	return map[int64]int64{impl.StPresent: impl.VdPresent, impl.StErased: impl.VdErased, impl.StNone: impl.VdMissing}[status]
}

// By the program alone: just what is so is judged at the log's head.
func TestJudgedJustWhatIsSo(t *testing.T) {
	verdicts := map[int64]int{}
	for h, logs := range append(someHistories(), fullHistory(), []impl.Log{baseLog()}) {
		a := impl.Auditor{Key: impl.KeyRoot(auditSeed)}
		for i, l := range logs {
			if len(l.Leaves) == 0 {
				continue
			}
			a = impl.HearHead(a, impl.HeadText(l), impl.HeadSign(l, auditSeed, 1), impl.Extend(l, a.Size)).Auditor
			for row := int64(-1); row < 7; row++ {
				for field := int64(-1); field < 4; field++ {
					w, want := impl.AnswerOf(l, row, field), verdictOf(statusIn(l, row, field))
					wantJudged(t, fmt.Sprintf("history %d, log %d", h, i), a, row, field, w, want)
					if want == impl.VdPresent && w.Shown.Value != l.Rows[row].Fields[field].Value {
						t.Errorf("history %d, log %d: %q is shown of %d %d", h, i, w.Shown.Value, row, field)
					}
					verdicts[want]++
				}
			}
		}
	}
	for _, verdict := range []int64{impl.VdPresent, impl.VdErased, impl.VdMissing} {
		if verdicts[verdict] < 300 {
			t.Errorf("the verdict %d came %d times: the test looks at less than it should", verdict, verdicts[verdict])
		}
	}
}

// At another head than the log's, whatever it tells is bad, unless it tells nothing.
func TestJudgedAtOtherHeads(t *testing.T) {
	for _, logs := range append(someHistories()[:3], fullHistory()) {
		for i, l := range logs {
			for j, other := range logs {
				a := auditorOf(other.Leaves)
				for row := range int64(len(l.Rows) + 1) {
					field := (row + int64(i)) % 3
					w, want := impl.AnswerOf(l, row, field), verdictOf(statusIn(l, row, field))
					if len(other.Leaves) != len(l.Leaves) && want != impl.VdMissing {
						want = impl.VdBad
					}
					if a.Size == 0 {
						want = impl.VdUnknown
					}
					wantJudged(t, fmt.Sprintf("log %d at the head %d", i, j), a, row, field, w, want)
				}
			}
		}
	}
	for _, logs := range someHistories() {
		l := logs[len(logs)-1]
		w := impl.AnswerOf(l, 0, 0)
		for _, root := range otherRoots(levelsRoot(l.Leaves)) {
			if a := ofRoot(auditorOf(l.Leaves), root); isRightAuditor(a) {
				wantJudged(t, "another root", a, 0, 0, w, impl.VdBad)
				wantJudged(t, "another root, nothing told", a, 0, 0, impl.Answer{}, impl.VdMissing)
			}
		}
	}
}

// Who is no right auditor, or has heard nothing, judges nothing.
func TestJudgedByNobody(t *testing.T) {
	l := baseLog()
	for _, a := range append(wrongAuditors(), newAuditor(), impl.Auditor{Key: mixed(1, 32)}) {
		for row := int64(-1); row < 4; row++ {
			for field := int64(-1); field < 3; field++ {
				wantJudged(t, "nobody", a, row, field, impl.AnswerOf(l, row, field), impl.VdUnknown)
				wantJudged(t, "nobody, nothing told", a, row, field, impl.Answer{}, impl.VdUnknown)
				wantJudged(t, "nobody, something bad", a, row, field, impl.Answer{Row: impl.Proof{Leaf: "x"}}, impl.VdUnknown)
			}
		}
	}
	wantJudged(t, "any key", ofKey(auditorOf(l.Leaves), mixed(1, 32)), 0, 0, impl.AnswerOf(l, 0, 0), impl.VdPresent)
}

// What one log tells of each of its Fields, put together otherwise.
func TestAnswersPutTogether(t *testing.T) {
	l := baseLog()
	a := auditorOf(l.Leaves)
	rows, tombs, shown := []impl.Proof{{}}, []impl.Proof{{}}, []impl.Shown{{}}
	for i := range l.Leaves {
		p := proofIn(l, int64(i))
		rows, tombs = append(rows, p), append(tombs, p)
	}
	for _, r := range baseRowsThere() {
		for i := range r.Fields {
			shown = append(shown, shownIn(r, i))
		}
	}
	verdicts := map[int64]int{}
	for _, row := range rows {
		for _, tomb := range tombs {
			for _, s := range shown {
				w := impl.Answer{Row: row, Tomb: tomb, Shown: s}
				for at := range int64(4) {
					for field := range int64(3) {
						verdicts[wantReckoned(t, "put together", a, at, field, w)]++
					}
				}
			}
		}
	}
	// Of 4 rows and 3 Fields: what is shown is of its own row's leaf (6 of them), and
	// says which Field, but not which row; a Tomb is of one Field of one row, with the
	// leaf of any row, or none; nothing else, but the leaf of any row, or none.
	for verdict, want := range map[int64]int{impl.VdPresent: 6 * 4, impl.VdErased: 4 * 4, impl.VdMissing: 4 * 12} {
		if verdicts[verdict] != want {
			t.Errorf("the verdict %d came %d times, want %d", verdict, verdicts[verdict], want)
		}
	}
}

// baseRowsThere are the rows of the base, as they were ahead of any forgetting.
func baseRowsThere() []impl.Row {
	return []impl.Row{
		rowIn("user", 3, fieldIn("age", "s", "42"), fieldIn("city", "salt", "rome"), fieldIn("name", "t", "ann")),
		rowIn("note", 5, fieldIn("text", "saltsalt", "hi"), fieldIn("when", "u", "")),
		rowIn("user", 9, fieldIn("name", "w", "bob")),
	}
}

// Who kept a Field that was forgotten can still show it, until the log tells of the
// Tomb: then it is bad.
func TestJudgedWhatWasForgotten(t *testing.T) {
	l := baseLog()
	a := auditorOf(l.Leaves)
	for row, r := range baseRowsThere() {
		for field := range r.Fields {
			w := impl.AnswerOf(l, int64(row), int64(field))
			was := w.Tomb.Leaf != ""
			w.Shown = shownIn(r, field)
			want := int64(impl.VdPresent)
			if was {
				want = impl.VdBad
			}
			wantJudged(t, "shown, and told of", a, int64(row), int64(field), w, want)
			w.Tomb = impl.Proof{}
			wantJudged(t, "shown alone", a, int64(row), int64(field), w, impl.VdPresent)
			w.Row = impl.Proof{}
			wantJudged(t, "shown, and no row", a, int64(row), int64(field), w, impl.VdBad)
		}
	}
}

// A tree of anything: what is proved need not be a leaf of a row, nor a Tomb.
func TestJudgedLeavesOfOtherKinds(t *testing.T) {
	r := rowIn("user", 3, fieldIn("age", "s", "42"), fieldIn("name", "t", "ann"))
	entries := []string{leafIn(r), tombOf(0, 1, 1, 5), "x", "", mixed(1, impl.MaxEntry), tombOf(63, 2, 2, impl.MaxTime), tombOf(0, 3, 1, 5), "e" + mixed(1, 31), "e" + mixed(1, 33), "t" + mixed(1, 32), "e" + mixed(2, 32)}
	a := auditorOf(entries)
	for index, entry := range entries {
		p := impl.Proof{Leaf: entry, Index: int64(index), Size: a.Size, Path: levelsPath(entries, index)}
		row, tomb := int64(impl.VdBad), int64(impl.VdBad)
		if index == 0 || index == 10 || entry == "" {
			row = impl.VdMissing
		}
		if entry == "" {
			tomb = impl.VdMissing
		}
		wantJudged(t, fmt.Sprintf("leaf %d as a row's", index), a, 0, 0, impl.Answer{Row: p}, row)
		wantJudged(t, fmt.Sprintf("leaf %d as a Tomb", index), a, 0, 0, impl.Answer{Tomb: p}, tomb)
		for at, want := range map[fieldPlace]bool{{0, 1}: index == 1, {63, 2}: index == 5, {0, 3}: false, {0, 2}: false, {1, 1}: false} {
			verdict := tomb
			if want {
				verdict = impl.VdErased
			}
			wantJudged(t, fmt.Sprintf("leaf %d as a Tomb of %v", index, at), a, at.row, at.field, impl.Answer{Tomb: p}, verdict)
			if row == impl.VdBad {
				verdict = impl.VdBad
			}
			wantJudged(t, fmt.Sprintf("leaf %d as both of %v", index, at), a, at.row, at.field, impl.Answer{Row: p, Tomb: p}, map[bool]int64{true: verdict, false: impl.VdBad}[entry == ""])
		}
		wantJudged(t, fmt.Sprintf("leaf %d, shown", index), a, 0, 1, impl.Answer{Row: p, Shown: shownIn(r, 1)}, map[bool]int64{true: impl.VdPresent, false: impl.VdBad}[index == 0])
	}
}

// Without a Leaf there is no Row and no Tomb, whatever else is told of it.
func TestJudgedProofsWithoutALeaf(t *testing.T) {
	l := baseLog()
	a := auditorOf(l.Leaves)
	present, erased := impl.AnswerOf(l, 0, 0), impl.AnswerOf(l, 0, 1)
	for _, empty := range []impl.Proof{{}, {Index: -1, Size: 99}, {Path: []string{"x"}}, {Index: 3, Size: 7, Path: levelsPath(l.Leaves, 3)}, {Path: someDigests(1, impl.MaxList+1)}} {
		wantJudged(t, "no Tomb", a, 0, 0, impl.Answer{Row: present.Row, Shown: present.Shown, Tomb: empty}, impl.VdPresent)
		wantJudged(t, "no Row", a, 0, 1, impl.Answer{Row: empty, Tomb: erased.Tomb}, impl.VdErased)
		wantJudged(t, "no Row, but shown", a, 0, 0, impl.Answer{Row: empty, Shown: present.Shown}, impl.VdBad)
		wantJudged(t, "neither", a, 0, 0, impl.Answer{Row: empty, Tomb: empty}, impl.VdMissing)
		wantJudged(t, "a row alone", a, 0, 0, impl.Answer{Row: present.Row, Tomb: empty}, impl.VdMissing)
		wrong := withShown(present.Shown, func(s *impl.Shown) { s.Kind = "No" })
		wantJudged(t, "no Row, and what shows nothing", a, 0, 0, impl.Answer{Row: empty, Shown: wrong}, impl.VdBad)
	}
}

// Without Names nothing is shown, whatever else is told of it.
func TestJudgedShownWithoutNames(t *testing.T) {
	l := baseLog()
	a := auditorOf(l.Leaves)
	present, erased := impl.AnswerOf(l, 0, 0), impl.AnswerOf(l, 0, 1)
	for _, names := range [][]string{nil, {}} {
		bare := withShown(present.Shown, func(s *impl.Shown) { s.Names = names })
		wantJudged(t, "without Names", a, 0, 0, impl.Answer{Row: present.Row, Shown: bare}, impl.VdMissing)
		wantJudged(t, "without Names, another Field", a, 0, 2, impl.Answer{Row: present.Row, Shown: bare}, impl.VdMissing)
		wantJudged(t, "without Names, a Tomb", a, 0, 1, impl.Answer{Row: erased.Row, Shown: bare, Tomb: erased.Tomb}, impl.VdErased)
		wantJudged(t, "without Names alone", a, 0, 0, impl.Answer{Shown: bare}, impl.VdMissing)
	}
	for _, names := range [][]string{{""}, {"age"}, {"x"}, slices.Repeat([]string{"age"}, impl.MaxList+1), {mixed(1, impl.MaxBytes+1)}} {
		some := withShown(present.Shown, func(s *impl.Shown) { s.Names = names })
		wantJudged(t, "with other Names", a, 0, 0, impl.Answer{Row: present.Row, Shown: some}, impl.VdBad)
		wantJudged(t, "with other Names alone", a, 0, 0, impl.Answer{Shown: some}, impl.VdBad)
		wantJudged(t, "with Names alone", a, 0, 0, impl.Answer{Shown: impl.Shown{Names: names}}, impl.VdBad)
	}
}

// Each part of a proof that is changed makes it bad, as a Row and as a Tomb; but for
// a Leaf that is taken away.
func TestJudgedChangedProofs(t *testing.T) {
	l := fullHistory()[20]
	a := auditorOf(l.Leaves)
	bad := 0
	for row := range int64(impl.MaxRows) {
		for field := range int64(impl.MaxFields) {
			w := impl.AnswerOf(l, row, field)
			for which, p := range []impl.Proof{w.Row, w.Tomb} {
				if p.Leaf == "" {
					continue
				}
				for _, changed := range changedProofs(p) {
					other := w
					if which == 0 {
						other.Row = changed
					} else {
						other.Tomb = changed
					}
					want := int64(impl.VdBad)
					if changed.Leaf == "" {
						want = judgeIn(a, row, field, other)
					}
					wantJudged(t, fmt.Sprintf("changed proof %d", which), a, row, field, other, want)
					bad++
				}
			}
		}
	}
	if bad < 500 {
		t.Errorf("%d were bad: the test looks at less than it should", bad)
	}
}

func changedProofs(p impl.Proof) []impl.Proof {
	var out []impl.Proof
	add := func(change func(*impl.Proof)) {
		out = append(out, withProof(p, change))
	}
	for _, n := range around(int(p.Size)) {
		if n != p.Index {
			add(func(o *impl.Proof) { o.Index = n })
		}
		if n != p.Size {
			add(func(o *impl.Proof) { o.Size = n })
			add(func(o *impl.Proof) { o.Index, o.Size = n-1, n })
		}
	}
	for at := range p.Leaf {
		add(func(o *impl.Proof) { o.Leaf = turned(p.Leaf, at) })
	}
	for at := range p.Path {
		add(func(o *impl.Proof) { o.Path[at] = turned(p.Path[at], at) })
		add(func(o *impl.Proof) { o.Path = slices.Delete(o.Path, at, at+1) })
		add(func(o *impl.Proof) { o.Path[at] = o.Path[at][1:] })
	}
	add(func(o *impl.Proof) { o.Path = nil })
	add(func(o *impl.Proof) { o.Path = append(o.Path, mixed(1, 32)) })
	add(func(o *impl.Proof) { o.Path = someDigests(1, impl.MaxList+1) })
	add(func(o *impl.Proof) { o.Leaf = "" })
	add(func(o *impl.Proof) { o.Leaf += "\x00" })
	add(func(o *impl.Proof) { o.Leaf = mixed(1, impl.MaxBytes+1) })
	return out
}

// One leaf can be proved by a tree of another size, with the same path: that is no
// proof of the auditor's size.
func TestJudgedProofsOfOtherSizes(t *testing.T) {
	alike := 0
	for size := 2; size <= 24; size++ {
		entries := slices.Repeat([]string{leafIn(loggedRow(1, 0))}, size)
		a := auditorOf(entries)
		for index := range size {
			p := impl.Proof{Leaf: entries[0], Index: int64(index), Size: int64(size), Path: levelsPath(entries, index)}
			wantJudged(t, "as it is", a, 0, 0, impl.Answer{Row: p}, impl.VdMissing)
			for other := int64(1); other < 70; other++ {
				changed := withProof(p, func(o *impl.Proof) { o.Size = other })
				if other != int64(size) {
					wantJudged(t, "another size", a, 0, 0, impl.Answer{Row: changed}, impl.VdBad)
					if goodIn(changed, a.Root) {
						alike++
					}
				}
			}
		}
	}
	if alike < 20 {
		t.Errorf("%d proofs of another size are good: the test looks at less than it should", alike)
	}
}

// Each part of what is shown that is changed.
func TestJudgedChangedShown(t *testing.T) {
	l := baseLog()
	a := auditorOf(l.Leaves)
	for _, at := range []fieldPlace{{0, 0}, {1, 1}} {
		w := impl.AnswerOf(l, at.row, at.field)
		hold := func(what string, want int64, change func(*impl.Shown)) {
			t.Helper()
			other := impl.Answer{Row: w.Row, Shown: withShown(w.Shown, change)}
			wantJudged(t, what, a, at.row, at.field, other, want)
		}
		hold("as it is", impl.VdPresent, func(*impl.Shown) {})
		hold("another kind", impl.VdBad, func(s *impl.Shown) { s.Kind = "use" })
		hold("another time", impl.VdBad, func(s *impl.Shown) { s.At++ })
		hold("a wrong time", impl.VdBad, func(s *impl.Shown) { s.At = -1 })
		hold("another value", impl.VdBad, func(s *impl.Shown) { s.Value += "0" })
		hold("another salt", impl.VdBad, func(s *impl.Shown) { s.Salt = "other" })
		hold("no salt", impl.VdBad, func(s *impl.Shown) { s.Salt = "" })
		for index := int64(-1); index < 5; index++ {
			want := int64(impl.VdBad)
			if index == at.field {
				want = impl.VdPresent
			}
			hold("another index", want, func(s *impl.Shown) { s.Index = index })
		}
		for i := range w.Shown.Names {
			hold("a name", impl.VdBad, func(s *impl.Shown) { s.Names[i] += "z" })
			hold("a commit", impl.VdBad, func(s *impl.Shown) { s.Commits[i] = turned(s.Commits[i], 3) })
			hold("a commit less", impl.VdBad, func(s *impl.Shown) { s.Commits = slices.Delete(s.Commits, i, i+1) })
			hold("both less", impl.VdBad, func(s *impl.Shown) {
				s.Names, s.Commits = slices.Delete(s.Names, i, i+1), slices.Delete(s.Commits, i, i+1)
			})
		}
		for field := int64(-1); field < 4; field++ {
			want := int64(impl.VdBad)
			if field == at.field {
				want = impl.VdPresent
			}
			wantJudged(t, "another Field", a, at.row, field, w, want)
		}
		for _, field := range around(impl.MaxFields) {
			wantReckoned(t, "any Field", a, at.row, field, w)
		}
		// Neither the proof nor what is shown says which row it is.
		for _, row := range logRows() {
			wantJudged(t, "another row", a, row, at.field, w, impl.VdPresent)
		}
	}
}

// A Tomb says which row and which Field it is of.
func TestJudgedTombsOfOthers(t *testing.T) {
	l := fullHistory()[26]
	a := auditorOf(l.Leaves)
	erased := 0
	for row := range int64(impl.MaxRows) {
		for field := range int64(impl.MaxFields) {
			w := impl.AnswerOf(l, row, field)
			for _, ofRow := range logRows() {
				for _, ofField := range logFields() {
					want := judgeIn(a, ofRow, ofField, w)
					if w.Tomb.Leaf != "" && want != impl.VdBad && (ofRow != row || ofField != field) {
						t.Error("a Tomb of another Field is not bad")
					}
					wantJudged(t, "a Tomb", a, ofRow, ofField, w, want)
					if want == impl.VdErased {
						erased++
					}
				}
			}
		}
	}
	if erased == 0 {
		t.Error("no Field was erased")
	}
}

// Promise 24.

func TestSizesOfOneLogNeverClash(t *testing.T) {
	for h, logs := range append(someHistories(), fullHistory()) {
		l := logs[len(logs)-1]
		for size := int64(1); size <= int64(len(l.Leaves)); size++ {
			now := auditorOf(l.Leaves[:size])
			for old := int64(1); old <= size; old++ {
				what := fmt.Sprintf("history %d, %d and %d", h, old, size)
				wantClash(t, what, auditorOf(l.Leaves[:old]), now, proofFrom(l.Leaves[:size], int(old), true), false)
			}
		}
	}
	logs := fullHistory()
	for i, l := range logs {
		for _, was := range logs[:i] {
			if len(was.Leaves) > 0 {
				a := impl.HearHead(newAuditor(), impl.HeadText(was), impl.HeadSign(was, auditSeed, 0), nil).Auditor
				b := impl.HearHead(newAuditor(), impl.HeadText(l), impl.HeadSign(l, auditSeed, 3), nil).Auditor
				wantClash(t, "by the proof of the log", a, b, impl.Extend(l, a.Size), false)
			}
		}
	}
}

func TestSizesOfGreatTreesNeverClash(t *testing.T) {
	entries := entriesOf(impl.MaxLeaves)
	for size := 1; size <= impl.MaxLeaves; size += 3 {
		for old := 1; old <= size; old++ {
			proof := proofFrom(entries[:size], old, true)
			a, b := auditorOf(entries[:old]), auditorOf(entries[:size])
			wantClash(t, "great trees", a, b, proof, false)
			// Of one size no proof is asked.
			wantClash(t, "great trees, another proof", a, b, append(slices.Clone(proof), mixed(1, 32)), old != size)
			wantClash(t, "great trees, another root", ofRoot(a, turned(a.Root, old)), b, proof, true)
		}
	}
}

// Logs that went on otherwise, from whatever size on.
func TestForksClash(t *testing.T) {
	whole := fullHistory()[20].Leaves
	for from := range whole {
		for behind := 1; from+behind <= len(whole); behind += 2 {
			size := from + behind
			other := append(slices.Clone(whole[:from]), someDigests(uint64(from), behind)...)
			a, b := auditorOf(whole[:size]), auditorOf(other)
			for _, proof := range [][]string{nil, someDigests(1, 1), proofFrom(whole, size, true), someDigests(1, impl.MaxList)} {
				wantClash(t, fmt.Sprintf("a fork at %d, of size %d", from, size), a, b, proof, true)
				wantClash(t, "itself", b, b, proof, false)
			}
			wantClash(t, "too long a proof", a, b, someDigests(1, impl.MaxList+1), false)
			if size < len(whole) {
				wantClash(t, "a fork and all", b, auditorOf(whole), proofFrom(whole, size, true), true)
				wantClash(t, "a beginning and all", a, auditorOf(whole), proofFrom(whole, size, true), false)
			}
		}
	}
}

func TestForkedLogsClash(t *testing.T) {
	histories := someHistories()
	clashed := 0
	for h, logs := range histories {
		mine, other := logs[len(logs)-1], histories[(h+1)%len(histories)]
		for _, l := range other {
			size := min(len(l.Leaves), len(mine.Leaves))
			if size == 0 {
				continue
			}
			a, b := auditorOf(mine.Leaves[:size]), auditorOf(l.Leaves[:size])
			wantClash(t, "two logs of one size", a, b, nil, a.Root != b.Root)
			if a.Root != b.Root {
				clashed++
			}
		}
	}
	if clashed < 100 {
		t.Errorf("%d clashed: the test looks at less than it should", clashed)
	}
	base := baseLog()
	one, two := auditorOf(withGone(base, 0, 0, 1).Leaves), auditorOf(withGone(base, 0, 0, 2).Leaves)
	wantClash(t, "forgotten for another reason", one, two, nil, true)
	wantClash(t, "the base and one of both", auditorOf(base.Leaves), one, impl.Extend(withGone(base, 0, 0, 1), 7), false)
	wantClash(t, "the base and the other one's proof", auditorOf(base.Leaves), one, impl.Extend(withGone(base, 0, 0, 2), 7), true)
}

func TestOthersDoNotClash(t *testing.T) {
	whole := baseLog().Leaves
	a, b := auditorOf(whole), ofRoot(auditorOf(whole), mixed(1, 32))
	wantClash(t, "as they are", a, b, nil, true)
	small := auditorOf(whole[:3])
	wantClash(t, "as they are, without a proof", small, a, nil, true)
	wantClash(t, "of other keys", a, ofKey(b, mixed(1, 32)), nil, false)
	wantClash(t, "of other keys, other sizes", small, ofKey(a, turned(a.Key, 31)), nil, false)
	wantClash(t, "of another key, both", ofKey(a, mixed(2, 32)), ofKey(b, mixed(2, 32)), nil, true)
	wantClash(t, "one without a size", newAuditor(), a, nil, false)
	wantClash(t, "both without a size", newAuditor(), newAuditor(), someDigests(1, 2), false)
	for _, wrong := range wrongAuditors() {
		for _, proof := range [][]string{nil, proofFrom(whole, 3, true)} {
			wantClash(t, "a wrong one", wrong, a, proof, false)
			wantClash(t, "a wrong one and a small one", wrong, small, proof, false)
			wantClash(t, "two wrong ones", wrong, wrong, proof, false)
			wantClash(t, "two wrong ones of unlike roots", wrong, ofRoot(wrong, wrong.Root+"x"), proof, false)
		}
	}
}

func TestClashOfWrongProofs(t *testing.T) {
	whole := entriesOf(23)
	now := auditorOf(whole)
	for _, old := range []int{1, 4, 6, 11, 16, 22} {
		was, proof := auditorOf(whole[:old]), proofFrom(whole, old, true)
		for at := range proof {
			wantClash(t, "one lacks", was, now, slices.Delete(slices.Clone(proof), at, at+1), true)
			wantClash(t, "one turned", was, now, turnedIn(proof, at, at), true)
			for _, text := range sized(proof[at]) {
				wantClash(t, "one of another length", was, now, putIn(proof, at, text), true)
			}
		}
		wantClash(t, "none", was, now, nil, true)
		wantClash(t, "as many as may be", was, now, someDigests(1, impl.MaxList), true)
		wantClash(t, "one too many", was, now, someDigests(1, impl.MaxList+1), false)
		for _, size := range []int64{1, 2, 5, 12, 23, 24, 64} {
			if size != int64(old) {
				wantClash(t, "another size", ofSize(was, size), now, proof, true)
			}
		}
	}
}

// What is handed in stays, and what was handed back.

func roomyProof(p impl.Proof) impl.Proof {
	p.Path = roomy(p.Path)
	return p
}

func roomyAnswer(w impl.Answer) impl.Answer {
	shown := w.Shown
	shown.Names, shown.Commits = roomy(shown.Names), roomy(shown.Commits)
	return impl.Answer{Row: roomyProof(w.Row), Shown: shown, Tomb: roomyProof(w.Tomb)}
}

func listsOfAnswer(w impl.Answer) [][]string {
	return [][]string{w.Row.Path, w.Tomb.Path, w.Shown.Names, w.Shown.Commits}
}

func textsOfAnswer(w impl.Answer) []string {
	out := append(textsOfShown(w.Shown), w.Row.Leaf, w.Tomb.Leaf)
	return longEnough(slices.Concat(out, w.Row.Path, w.Tomb.Path))
}

func askedAnswers() []impl.Answer {
	l := fullHistory()[17]
	out := []impl.Answer{{}, {Row: impl.Proof{Leaf: "x"}}, {Shown: impl.Shown{Names: []string{"a"}}}}
	for row := range int64(impl.MaxRows) {
		w := answerIn(l, row, row%3)
		out = append(out, w, impl.Answer{Row: w.Tomb, Tomb: w.Row, Shown: w.Shown})
	}
	return out
}

func TestAnswersAreLeftAlone(t *testing.T) {
	a := auditorOf(fullHistory()[17].Leaves)
	for _, w := range askedAnswers() {
		given := roomyAnswer(w)
		for field := range int64(3) {
			impl.Judge(a, 0, field, given)
			impl.Judge(newAuditor(), 0, field, given)
		}
		for i, list := range listsOfAnswer(given) {
			wantUntouched(t, "a list of an answer", list, listsOfAnswer(w)[i])
		}
	}
	for _, l := range askedLogs() {
		given := roomyLog(l)
		for row := range int64(4) {
			for _, list := range listsOfAnswer(impl.AnswerOf(given, row, row%2)) {
				spoilTexts(list)
			}
		}
		wantLogUntouched(t, "a log", given, l)
	}
}

func TestHeardAreLeftAlone(t *testing.T) {
	entries := entriesOf(21)
	now := auditorOf(entries)
	head, s := signedHead(now, 1)
	for _, old := range []int{1, 2, 7, 8, 20, 21} {
		was, before := auditorOf(entries[:old]), proofFrom(entries, old, true)
		proof, sig := roomy(before), impl.Sig{Key: s.Key, Ends: roomy(s.Ends), Path: roomy(s.Path)}
		for _, a := range []impl.Auditor{was, newAuditor(), {}, ofRoot(was, mixed(1, 32))} {
			impl.HearHead(a, head, sig, proof)
			impl.Clash(a, now, proof)
			impl.Clash(now, a, proof)
		}
		wantUntouched(t, "a proof", proof, before)
		wantUntouched(t, "ends", sig.Ends, s.Ends)
		wantUntouched(t, "a path", sig.Path, s.Path)
	}
}

// What was told stays, when another answer is changed, or what was handed in.
func TestAnswersAreNewMemory(t *testing.T) {
	for _, l := range []impl.Log{baseLog(), fullHistory()[17]} {
		for row := range int64(len(l.Rows)) {
			for field := range int64(len(l.Rows[row].Fields)) {
				want, given := answerIn(l, row, field), copyOfLog(l)
				told := impl.AnswerOf(given, row, field)
				wantNewMemory(t, "AnswerOf", textsOfAnswer(told), textsOfLog(given))
				for _, list := range listsOfAnswer(impl.AnswerOf(given, row, field)) {
					spoilTexts(list)
				}
				wantAnswer(t, "behind another one is spoiled", told, want)
				spoilLog(given)
				wantAnswer(t, "behind its argument is spoiled", told, want)
				for i := range listsOfAnswer(told) {
					got := impl.AnswerOf(l, row, field)
					spoilTexts(listsOfAnswer(got)[i])
					for j, list := range listsOfAnswer(got) {
						if j != i {
							wantTexts(t, "a list behind another one is spoiled", list, listsOfAnswer(want)[j])
						}
					}
				}
			}
		}
	}
}

func TestHeardAreNewMemory(t *testing.T) {
	entries := entriesOf(21)
	was, now := auditorOf(entries[:9]), auditorOf(entries)
	head, s := signedHead(now, 1)
	proof := proofFrom(entries, 9, true)
	for _, a := range []impl.Auditor{was, now, newAuditor()} {
		given := proof
		if a.Size == now.Size {
			given = nil
		}
		out := impl.HearHead(a, head, s, given)
		wantAuditor(t, "heard", out, impl.AuditorOut{Auditor: now})
		told, all := out.Auditor, append([]string{a.Key, a.Root, head}, proof...)
		wantNewMemory(t, "HearHead", []string{told.Key, told.Root}, append(slices.Concat(all, s.Ends), s.Path...))
	}
	read := impl.HeadRead(head).Auditor
	wantNewMemory(t, "HeadRead", []string{read.Root}, []string{head})
}

// Nothing is kept: the same calls tell the same, whatever came between.
func TestAuditorsHaveNoMemory(t *testing.T) {
	l := baseLog()
	a, was := auditorOf(l.Leaves), auditorOf(l.Leaves[:4])
	head, s := signedHead(a, 0)
	proof := proofFrom(l.Leaves, 4, true)
	tell := func() string {
		return fmt.Sprintf("%q", []any{impl.HearHead(was, head, s, proof), impl.HeadRead(head), impl.AnswerOf(l, 0, 1), impl.Clash(a, was, proof),
			impl.Judge(a, 0, 1, answerIn(l, 0, 1)), impl.Judge(a, 0, 0, answerIn(l, 0, 0)), impl.Judge(a, 9, 9, impl.Answer{}), impl.Judge(a, 0, 0, answerIn(l, 0, 1))})
	}
	before := tell()
	for _, w := range askedAnswers() {
		impl.Judge(a, 0, 1, w)
		impl.Judge(was, 0, 0, w)
	}
	for _, wrong := range wrongAuditors() {
		impl.HearHead(wrong, head, s, proof)
		impl.HearHead(a, headOf(1, wrong.Root), s, proof)
		impl.Clash(wrong, a, nil)
	}
	for _, other := range askedLogs() {
		impl.AnswerOf(other, 0, 0)
	}
	wantBytes(t, "the same again", tell(), before)
}
