package tests

import (
	"encoding/binary"
	"math"
	"slices"
	"strconv"
	"strings"
	"testing"

	"loop.example/g00633/impl"
)

const (
	chainCount = 6
	chainSteps = 15
	keyCount   = 4
)

// stepped, chainOf, publicOf, digitsIn and sigOf are a second reckoning, by
// the standard library.
func stepped(text string, count int) string {
	for range count {
		text = sha(text)
	}
	return text
}

func chainOf(seed string, key, chain int64) string {
	text := binary.AppendVarint(binary.AppendVarint(nil, key), chain)
	return shaMac(seed, string(text))
}

func publicOf(seed string, key int64) string {
	all := ""
	for chain := range int64(chainCount) {
		all += stepped(chainOf(seed, key, chain), chainSteps)
	}
	return sha(all)
}

func publicsOf(seed string) []string {
	var out []string
	for key := range int64(keyCount) {
		out = append(out, publicOf(seed, key))
	}
	return out
}

func digitsIn(text string) [chainCount]int {
	first := binary.BigEndian.Uint16([]byte(sha(text)))
	a, b, c, d := int(first>>12), int(first>>8&15), int(first>>4&15), int(first&15)
	rest := 60 - a - b - c - d
	return [chainCount]int{a, b, c, d, rest / 16, rest % 16}
}

func sigOf(seed string, key int64, text string) impl.Sig {
	s := impl.Sig{Key: key, Path: levelsPath(publicsOf(seed), int(key))}
	for chain, digit := range digitsIn(text) {
		s.Ends = append(s.Ends, stepped(chainOf(seed, key, int64(chain)), digit))
	}
	return s
}

// madeRoot is the root to which a Sig would lead, if nobody looked at how many
// there are and how long they are.
func madeRoot(text string, s impl.Sig) string {
	all := ""
	digits := digitsIn(text)
	for chain, end := range s.Ends {
		left := 0
		if chain < chainCount {
			left = chainSteps - digits[chain]
		}
		all += stepped(end, left)
	}
	root := leafOf(sha(all))
	for level, p := range s.Path {
		if s.Key>>level&1 == 1 {
			root = nodeOf(p, root)
		} else {
			root = nodeOf(root, p)
		}
	}
	return root
}

func sameSig(a, b impl.Sig) bool {
	return a.Key == b.Key && slices.Equal(a.Ends, b.Ends) && slices.Equal(a.Path, b.Path)
}

func withKey(s impl.Sig, key int64) impl.Sig {
	return impl.Sig{Key: key, Ends: s.Ends, Path: s.Path}
}

func withEnds(s impl.Sig, ends []string) impl.Sig {
	return impl.Sig{Key: s.Key, Ends: ends, Path: s.Path}
}

func withPath(s impl.Sig, path []string) impl.Sig {
	return impl.Sig{Key: s.Key, Ends: s.Ends, Path: path}
}

func putIn(list []string, at int, text string) []string {
	out := slices.Clone(list)
	out[at] = text
	return out
}

func wantSig(t *testing.T, what string, got, want impl.Sig) {
	t.Helper()
	if !sameSig(got, want) {
		t.Errorf("%s: got %d %x %x, want %d %x %x", what, got.Key, got.Ends, got.Path, want.Key, want.Ends, want.Path)
	}
}

func wantVerified(t *testing.T, what, root, text string, s impl.Sig, want bool) {
	t.Helper()
	if got := impl.Verify(root, text, s); got != want {
		t.Errorf("%s: Verify of %.20q (%d bytes) by key %d: got %t", what, text, len(text), s.Key, got)
	}
}

func wantSigRight(t *testing.T, what string, s impl.Sig, want bool) {
	t.Helper()
	if got := impl.SigRight(s); got != want {
		t.Errorf("%s: SigRight of key %d, %d Ends, %d in Path: got %t", what, s.Key, len(s.Ends), len(s.Path), got)
	}
}

// rightSeeds: no two of them alike when they are filled up with bytes 0.
func rightSeeds() []string {
	return []string{"s", "seed", "desk", "\x00", "\xff\x00\x80", mixed(1, 31), mixed(2, 32), mixed(3, 63), mixed(4, 64)}
}

func wrongSeeds() []string {
	return []string{"", mixed(1, 65), mixed(1, 66), mixed(1, 128), mixed(1, impl.MaxBytes), mixed(1, impl.MaxBytes+1)}
}

func signedTexts() []string {
	return []string{"", "text", "\x00", mixed(5, 64), mixed(6, impl.MaxBytes)}
}

// wrongKeys: each of them is 0 to 3 when it is cut to fewer bits.
func wrongKeys() []int64 {
	return []int64{-1, 4, 5, -4, 8, 256, 1 << 16, 1 << 32, 1<<32 + 3, math.MinInt64, math.MaxInt64}
}

// textWith is a text of that beginning of which the digest begins so.
func textWith(t *testing.T, beginning, first string) string {
	t.Helper()
	for i := range 2000000 {
		text := beginning + strconv.Itoa(i)
		if strings.HasPrefix(sha(text), first) {
			return text
		}
	}
	t.Fatalf("no text with a digest that begins with %x", first)
	return ""
}

func TestSignConstants(t *testing.T) {
	if impl.MaxKeys != 4 {
		t.Error("a limit is not the document's")
	}
}

// Reckoned from the chapter by another program, in another language.
func TestKnownSignatures(t *testing.T) {
	for seed, want := range map[string]string{
		"seed":                  "3fc49e280695f8bcfc14cbcd4d4c57857b03cd36f13603337c715814d6046f34",
		"desk":                  "3ec6314508f3e4ecb857198bb2ae0beee63339f428ddec30d7840ee33e2e1d24",
		"x":                     "d894daefcaaa3353c9b6ba92c5cf16e7c066f97d229ed090e88f62057193b9ff",
		"\x00":                  "8f1486a52fad81306a5c6291925f9eb370939e93c8f9f7d8c6f6e7fe5d910b58",
		strings.Repeat("s", 64): "136e09648b3a9555a38e69cea9ed90419972088bf5fefe3fe516e1e2076e1c5f",
	} {
		wantBytes(t, "a known root", impl.KeyRoot(seed), unhex(t, want))
	}
	s := impl.Sign("seed", 2, "text")
	for chain, want := range []string{
		"bb7c2815d7f3d88e851120394a89b4ee25d7fd9791abcf31207b281345531d93",
		"7419736e7546e06f6e8827b55a1fc85323b421e7b689b25aad3274806f7694b1",
		"9cceef10ac3021416e1a77401debf931dfe096f72048d93bed4cbfe18004a5dd",
		"fb95aa2e1a09783896e5a56808f209b9c386917050fd3a3dbd8bad33e07389d8",
		"3574ac6c140fb7948dfb34a040341fc7f73e804a74c9fe961454baa525f0a3bb",
		"65c6728fb1b1e3417a594671e186537413a873bd65410225371b2d2820555a6c",
	} {
		wantBytes(t, "a known end", s.Ends[chain], unhex(t, want))
	}
	wantTexts(t, "a known path", s.Path, []string{
		unhex(t, "1ebb3032aa9ab5375f4cad49da377790c3772d93b68e6e41fb06137579852711"),
		unhex(t, "fcfc3e39f0b5deca259dffc01ac54f5a0d958ca334ca015878d9385d780f86d8"),
	})
}

func TestKeyRoots(t *testing.T) {
	seen := map[string]string{}
	for _, seed := range rightSeeds() {
		root := impl.KeyRoot(seed)
		wantBytes(t, "root", root, levelsRoot(publicsOf(seed)))
		wantBytes(t, "root by the tree", root, impl.TreeHash(publicsOf(seed)))
		if other, there := seen[root]; there {
			t.Errorf("the seeds %q and %q have one root", seed, other)
		}
		seen[root] = seed
	}
	for size := 1; size <= 64; size++ {
		seed := strings.Repeat("z", size)
		wantBytes(t, "root of a seed of each length", impl.KeyRoot(seed), levelsRoot(publicsOf(seed)))
	}
	// A mac's key is filled up with bytes 0: so is a seed.
	wantBytes(t, "a seed and its filling", impl.KeyRoot("s"), impl.KeyRoot("s\x00"))
}

func TestWrongSeeds(t *testing.T) {
	for _, seed := range wrongSeeds() {
		wantBytes(t, "root of a wrong seed", impl.KeyRoot(seed), "")
		for _, key := range []int64{0, 1, 2, 3, -1, 4} {
			for _, text := range []string{"", "text", mixed(1, impl.MaxBytes+1)} {
				wantSig(t, "signed by a wrong seed", impl.Sign(seed, key, text), impl.Sig{})
			}
		}
	}
}

func TestWrongKeys(t *testing.T) {
	for _, key := range wrongKeys() {
		for _, seed := range []string{"seed", mixed(1, 64), ""} {
			for _, text := range []string{"", "text", mixed(1, impl.MaxBytes), mixed(1, impl.MaxBytes+1)} {
				wantSig(t, "signed by a wrong key", impl.Sign(seed, key, text), impl.Sig{})
			}
		}
	}
}

func TestTextsTooLong(t *testing.T) {
	long := mixed(1, impl.MaxBytes+1)
	root := impl.KeyRoot("seed")
	for key := range int64(keyCount) {
		for _, text := range []string{long, long + long} {
			wantSig(t, "a text too long", impl.Sign("seed", key, text), impl.Sig{})
			s := sigOf("seed", key, text)
			if madeRoot(text, s) != root {
				t.Fatal("the second reckoning does not lead to the root")
			}
			wantVerified(t, "a text too long", root, text, s, false)
		}
		whole := long[:impl.MaxBytes]
		wantVerified(t, "a text as long as may be", root, whole, impl.Sign("seed", key, whole), true)
	}
}

// Promise 6.

func TestWhatIsSignedIsVerified(t *testing.T) {
	for _, seed := range rightSeeds() {
		root := impl.KeyRoot(seed)
		for key := range int64(keyCount) {
			for _, text := range signedTexts() {
				s := impl.Sign(seed, key, text)
				wantSig(t, "signed", s, sigOf(seed, key, text))
				wantSigRight(t, "signed", s, true)
				wantVerified(t, "signed", root, text, s, true)
			}
		}
	}
}

func TestManyTextsAreVerified(t *testing.T) {
	root := impl.KeyRoot("many")
	for i := range 300 {
		key, text := int64(i%keyCount), mixed(uint64(i), i)
		s := impl.Sign("many", key, text)
		wantSig(t, "signed", s, sigOf("many", key, text))
		wantVerified(t, "signed", root, text, s, true)
	}
}

func TestAnotherRootIsNotVerified(t *testing.T) {
	seeds := rightSeeds()
	for i, seed := range seeds {
		key := int64(i % keyCount)
		s := impl.Sign(seed, key, "text")
		for other := range seeds {
			wantVerified(t, "another seed's root", impl.KeyRoot(seeds[other]), "text", s, other == i)
		}
	}
	for key := range int64(keyCount) {
		s := impl.Sign("seed", key, "text")
		wantVerified(t, "its own leaf", leafOf(publicOf("seed", key)), "text", s, false)
		wantVerified(t, "its public text", publicOf("seed", key), "text", s, false)
	}
}

func TestVerifyTakesEachByte(t *testing.T) {
	root := impl.KeyRoot("seed")
	for key := range int64(keyCount) {
		s := impl.Sign("seed", key, "text")
		for at := range 32 {
			wantVerified(t, "a byte of the root", turned(root, at), "text", s, false)
			for e := range s.Ends {
				wantVerified(t, "a byte of an end", root, "text", withEnds(s, turnedIn(s.Ends, e, at)), false)
			}
			for p := range s.Path {
				wantVerified(t, "a byte of the path", root, "text", withPath(s, turnedIn(s.Path, p, at)), false)
			}
		}
	}
}

func TestAnotherKeyIsNotVerified(t *testing.T) {
	root := impl.KeyRoot("seed")
	for key := range int64(keyCount) {
		s := impl.Sign("seed", key, "text")
		for other := range int64(keyCount) {
			wantVerified(t, "another key", root, "text", withKey(s, other), other == key)
			o := impl.Sign("seed", other, "text")
			wantVerified(t, "another key's ends", root, "text", withEnds(s, o.Ends), other == key)
			wantVerified(t, "another key's path", root, "text", withPath(s, o.Path), other == key)
		}
		for _, wrong := range wrongKeys() {
			wantVerified(t, "a wrong key", root, "text", withKey(s, wrong), false)
		}
	}
}

// Each of Ends belongs to its own chain, and stands as far as its digit says.
func TestEndsElsewhereAreNotVerified(t *testing.T) {
	root := impl.KeyRoot("seed")
	s := impl.Sign("seed", 1, "text")
	for e := range s.Ends {
		further := putIn(s.Ends, e, impl.Digest(s.Ends[e]))
		wantVerified(t, "an end a step further", root, "text", withEnds(s, further), false)
		wantVerified(t, "an end at its beginning", root, "text",
			withEnds(s, putIn(s.Ends, e, chainOf("seed", 1, int64(e)))), digitsIn("text")[e] == 0)
		for o := range e {
			swapped := slices.Clone(s.Ends)
			swapped[e], swapped[o] = swapped[o], swapped[e]
			wantVerified(t, "two ends swapped", root, "text", withEnds(s, swapped), false)
		}
	}
	wantVerified(t, "the path turned round", root, "text", withPath(s, []string{s.Path[1], s.Path[0]}), false)
}

func TestOtherTextsAreNotVerified(t *testing.T) {
	root := impl.KeyRoot("seed")
	s := impl.Sign("seed", 3, "text")
	alike := 0
	for i := range 5000 {
		text := "t" + strconv.Itoa(i)
		same := digitsIn(text) == digitsIn("text")
		wantVerified(t, "another text", root, text, s, same)
		if same {
			alike++
		}
	}
	if alike > 5 {
		t.Errorf("%d of 5000 texts have the same digits", alike)
	}
}

// Of a digest its first two bytes count, and no others.
func TestTextsOfTheSameDigits(t *testing.T) {
	root := impl.KeyRoot("seed")
	first := sha("text")[:2]
	same := textWith(t, "t", first)
	for key := range int64(keyCount) {
		s := impl.Sign("seed", key, "text")
		wantVerified(t, "a text of the same digits", root, same, s, true)
		wantSig(t, "signed", impl.Sign("seed", key, same), s)
	}
	for bit := range 16 {
		near := []byte(first)
		near[bit/8] ^= 1 << (bit % 8)
		wantVerified(t, "a text of digits a bit away", root, textWith(t, "n", string(near)), impl.Sign("seed", 0, "text"), false)
	}
}

func TestDigitsAtTheirEdges(t *testing.T) {
	for _, c := range []struct {
		first string
		want  [chainCount]int
	}{
		{"\x00\x00", [chainCount]int{0, 0, 0, 0, 3, 12}},
		{"\xff\xff", [chainCount]int{15, 15, 15, 15, 0, 0}},
		{"\xf0\x00", [chainCount]int{15, 0, 0, 0, 2, 13}},
		{"\x0f\x00", [chainCount]int{0, 15, 0, 0, 2, 13}},
		{"\x00\xf0", [chainCount]int{0, 0, 15, 0, 2, 13}},
		{"\x00\x0f", [chainCount]int{0, 0, 0, 15, 2, 13}},
		{"\xff\xe0", [chainCount]int{15, 15, 14, 0, 1, 0}},
		{"\xff\xe1", [chainCount]int{15, 15, 14, 1, 0, 15}},
		{"\x12\x34", [chainCount]int{1, 2, 3, 4, 3, 2}},
	} {
		text := textWith(t, "t", c.first)
		for key := range int64(keyCount) {
			s := impl.Sign("seed", key, text)
			for chain, digit := range c.want {
				wantBytes(t, "an end", s.Ends[chain], stepped(chainOf("seed", key, int64(chain)), digit))
			}
			wantVerified(t, "digits at an edge", impl.KeyRoot("seed"), text, s, true)
			wantVerified(t, "other digits", impl.KeyRoot("seed"), "text", s, false)
		}
	}
}

// Who has a signature can go on with its chains, but cannot go back: of the
// last two digits one is less, if those ahead of them are greater.
func TestSignaturesAreNotCarriedOn(t *testing.T) {
	root := impl.KeyRoot("seed")
	low, high := textWith(t, "t", "\x00\x00"), textWith(t, "t", "\xff\xff")
	s := impl.Sign("seed", 0, low)
	var ends []string
	for chain, digit := range digitsIn(high) {
		ends = append(ends, stepped(s.Ends[chain], max(0, digit-digitsIn(low)[chain])))
	}
	wantVerified(t, "carried on", root, high, withEnds(s, ends), false)
	wantVerified(t, "signed", root, high, impl.Sign("seed", 0, high), true)
}

func TestSigRight(t *testing.T) {
	for key := range int64(keyCount) {
		wantSigRight(t, "any digests", impl.Sig{Key: key, Ends: someDigests(1, 6), Path: someDigests(2, 2)}, true)
	}
	wantSigRight(t, "the zero one", impl.Sig{}, false)
	right := impl.Sign("seed", 2, "text")
	for _, key := range wrongKeys() {
		wantSigRight(t, "a wrong key", withKey(right, key), false)
	}
	for _, count := range []int{0, 1, 2, 5, 6, 7, 12, impl.MaxList, impl.MaxList + 1} {
		wantSigRight(t, "so many ends", withEnds(right, someDigests(1, count)), count == 6)
	}
	for _, count := range []int{0, 1, 2, 3, 4, 6, impl.MaxList, impl.MaxList + 1} {
		wantSigRight(t, "so many in the path", withPath(right, someDigests(1, count)), count == 2)
	}
	for e := range right.Ends {
		for _, wrong := range sized(right.Ends[e]) {
			wantSigRight(t, "a wrong end", withEnds(right, putIn(right.Ends, e, wrong)), false)
		}
	}
	for p := range right.Path {
		for _, wrong := range sized(right.Path[p]) {
			wantSigRight(t, "a wrong path", withPath(right, putIn(right.Path, p, wrong)), false)
		}
	}
}

// wrongSigs: of a right one those of too few or too many, or with one of
// another length.
func wrongSigs(s impl.Sig) []impl.Sig {
	more := mixed(9, 32)
	wrong := []impl.Sig{{}, withEnds(s, nil), withPath(s, nil)}
	for e := range s.Ends {
		wrong = append(wrong,
			withEnds(s, slices.Delete(slices.Clone(s.Ends), e, e+1)),
			withEnds(s, slices.Insert(slices.Clone(s.Ends), e, more)))
		for _, text := range sized(s.Ends[e]) {
			wrong = append(wrong, withEnds(s, putIn(s.Ends, e, text)))
		}
	}
	for p := range s.Path {
		wrong = append(wrong,
			withPath(s, slices.Delete(slices.Clone(s.Path), p, p+1)),
			withPath(s, slices.Insert(slices.Clone(s.Path), p, more)))
		for _, text := range sized(s.Path[p]) {
			wrong = append(wrong, withPath(s, putIn(s.Path, p, text)))
		}
	}
	return append(wrong,
		withEnds(s, append(slices.Clone(s.Ends), more)),
		withEnds(s, append(slices.Clone(s.Ends), "")),
		withPath(s, append(slices.Clone(s.Path), more)),
		withPath(s, append(slices.Clone(s.Path), "")))
}

func TestWrongSigsAreNotVerified(t *testing.T) {
	root := impl.KeyRoot("seed")
	for key := range int64(keyCount) {
		right := impl.Sign("seed", key, "text")
		if madeRoot("text", right) != root {
			t.Fatal("the second reckoning does not lead to the root")
		}
		for _, s := range wrongSigs(right) {
			wantVerified(t, "a wrong one", root, "text", s, false)
			wantVerified(t, "a wrong one to its own root", madeRoot("text", s), "text", s, false)
			wantVerified(t, "a wrong one to no root", "", "text", s, false)
		}
	}
}

func TestWrongRootsAreNotVerified(t *testing.T) {
	root := impl.KeyRoot("seed")
	s := impl.Sign("seed", 1, "text")
	for _, wrong := range sized(root) {
		wantVerified(t, "a wrong root", wrong, "text", s, false)
		wantVerified(t, "a wrong root, and no Sig", wrong, "text", impl.Sig{}, false)
		wantVerified(t, "a wrong root, and a text too long", wrong, mixed(1, impl.MaxBytes+1), s, false)
	}
	wantVerified(t, "the root as it is", root, "text", s, true)
}

// What is handed in stays as it is, and so does what was told before.
func TestSignaturesAreLeftAlone(t *testing.T) {
	root := impl.KeyRoot("seed")
	right := impl.Sign("seed", 2, "text")
	for _, before := range append(wrongSigs(right), right) {
		given := impl.Sig{Key: before.Key, Ends: roomy(before.Ends), Path: roomy(before.Path)}
		impl.SigRight(given)
		for _, text := range []string{"text", "other", mixed(1, impl.MaxBytes+1)} {
			impl.Verify(root, text, given)
		}
		impl.Verify("", "text", given)
		wantUntouched(t, "ends", given.Ends, before.Ends)
		wantUntouched(t, "a path", given.Path, before.Path)
	}
	wantSig(t, "what was told before", right, sigOf("seed", 2, "text"))
}

func TestEarlierSignaturesStay(t *testing.T) {
	var told []impl.Sig
	for key := range int64(keyCount) {
		told = append(told, impl.Sign("seed", key, "text"))
	}
	root := impl.KeyRoot("seed")
	for key := range int64(keyCount) {
		for _, text := range []string{"text", "other"} {
			later := impl.Sign("seed", key, text)
			impl.Verify(root, text, later)
			_ = append(later.Ends, "x")
			_ = append(later.Path, "x")
			clear(later.Ends)
			clear(later.Path)
		}
		impl.Sign("other", key, "text")
		impl.KeyRoot("other")
	}
	for key, s := range told {
		wantSig(t, "an earlier one", s, sigOf("seed", int64(key), "text"))
	}
}

// The two lists of one answer share nothing, nor do they reach into each other.
func TestSignaturesAreNewMemory(t *testing.T) {
	// Digits 0: an end is then the beginning of its chain, as it is.
	for _, text := range []string{"text", "", textWith(t, "t", "\x00\x00"), textWith(t, "t", "\xff\xff")} {
		s := impl.Sign("seed", 0, text)
		want := sigOf("seed", 0, text)
		all := append(slices.Clone(s.Ends), s.Path...)
		for i := range all {
			for j := range i {
				if shares(all[i], all[j]) || shares(all[j], all[i]) {
					t.Errorf("the texts %d and %d of a Sig share memory", j, i)
				}
			}
		}
		clear(s.Ends[:cap(s.Ends)])
		wantTexts(t, "the path behind cleared ends", s.Path, want.Path)
		s = impl.Sign("seed", 0, text)
		clear(s.Path[:cap(s.Path)])
		wantTexts(t, "the ends behind a cleared path", s.Ends, want.Ends)
	}
}

// Nothing is kept: a key signs again and again, and always the same.
func TestSigningHasNoMemory(t *testing.T) {
	root, s := impl.KeyRoot("seed"), impl.Sign("seed", 0, "text")
	for _, seed := range append(rightSeeds(), wrongSeeds()...) {
		impl.KeyRoot(seed)
		impl.Sign(seed, 0, "other")
		impl.Sign(seed, 4, "text")
		impl.Verify(root, "other", s)
		impl.Verify("", "", impl.Sig{})
	}
	wantBytes(t, "the same root again", impl.KeyRoot("seed"), root)
	wantSig(t, "the same again", impl.Sign("seed", 0, "text"), s)
	wantVerified(t, "the same again", root, "text", s, true)
}
