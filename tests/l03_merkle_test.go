package tests

import (
	"math"
	"math/bits"
	"slices"
	"strings"
	"testing"

	"loop.example/g00633/impl"
)

// entriesOf makes count entries, unlike each other, of 0 bytes up to MaxEntry.
func entriesOf(count int) []string {
	entries := make([]string, count)
	for i := range entries {
		entries[i] = mixed(uint64(i)+11, (i*37)%(impl.MaxEntry+1))
	}
	return entries
}

func leafOf(entry string) string {
	return sha("\x00" + entry)
}

func nodeOf(left, right string) string {
	return sha("\x01" + left + right)
}

// levelsRoot reckons the tree from below, level by level: neighbours are put
// together, and one that is left over goes up as it is.
func levelsRoot(entries []string) string {
	if len(entries) == 0 {
		return sha("")
	}
	var level []string
	for _, entry := range entries {
		level = append(level, leafOf(entry))
	}
	for len(level) > 1 {
		var above []string
		for i := 0; i < len(level); i += 2 {
			if i+1 == len(level) {
				above = append(above, level[i])
			} else {
				above = append(above, nodeOf(level[i], level[i+1]))
			}
		}
		level = above
	}
	return level[0]
}

// levelsPath reckons a path from below, too: the neighbour on each level.
func levelsPath(entries []string, index int) []string {
	var level, path []string
	for _, entry := range entries {
		level = append(level, leafOf(entry))
	}
	for len(level) > 1 {
		if index^1 < len(level) {
			path = append(path, level[index^1])
		}
		var above []string
		for i := 0; i+1 < len(level); i += 2 {
			above = append(above, nodeOf(level[i], level[i+1]))
		}
		if len(level)%2 == 1 {
			above = append(above, level[len(level)-1])
		}
		level, index = above, index/2
	}
	return path
}

// climbed is how RFC 9162 (2.1.3.2) goes up from a leaf; ok tells whether the
// path has the right length.
func climbed(leaf string, index, size int64, path []string) (root string, ok bool) {
	at, last := index, size-1
	root = leaf
	for _, p := range path {
		if last == 0 {
			return "", false
		}
		if at&1 == 1 || at == last {
			root = nodeOf(p, root)
			for at&1 == 0 && at != 0 {
				at, last = at>>1, last>>1
			}
		} else {
			root = nodeOf(root, p)
		}
		at, last = at>>1, last>>1
	}
	return root, last == 0
}

// grown is how RFC 9162 (2.1.4.2) makes both roots of a proof, of old below
// size; ok tells whether the proof has the right length.
func grown(old, size int64, proof []string, given string) (was, root string, ok bool) {
	if old&(old-1) == 0 {
		proof = append([]string{given}, proof...)
	}
	if len(proof) == 0 {
		return "", "", false
	}
	at, last := old-1, size-1
	for at&1 == 1 {
		at, last = at>>1, last>>1
	}
	was, root = proof[0], proof[0]
	for _, p := range proof[1:] {
		if last == 0 {
			return "", "", false
		}
		if at&1 == 1 || at == last {
			was, root = nodeOf(p, was), nodeOf(p, root)
			for at&1 == 0 && at != 0 {
				at, last = at>>1, last>>1
			}
		} else {
			root = nodeOf(root, p)
		}
		at, last = at>>1, last>>1
	}
	return was, root, last == 0
}

// someDigests makes count texts of 32 bytes.
func someDigests(seed uint64, count int) []string {
	out := make([]string, count)
	for i := range out {
		out[i] = mixed(seed*1000+uint64(i), 32)
	}
	return out
}

func turned(text string, at int) string {
	out := []byte(text)
	out[at%len(out)] ^= 1 << (at % 8)
	return string(out)
}

// turnedIn is the list with a byte of one of its texts turned.
func turnedIn(list []string, which, at int) []string {
	out := slices.Clone(list)
	out[which] = turned(out[which], at)
	return out
}

func wantIncluded(t *testing.T, what string, leaf string, index, size int64, path []string, root string, want bool) {
	t.Helper()
	if got := impl.Included(leaf, index, size, path, root); got != want {
		t.Errorf("%s: Included at %d of %d by a path of %d: got %t", what, index, size, len(path), got)
	}
}

func wantConsistent(t *testing.T, what string, old, size int64, proof []string, was, root string, want bool) {
	t.Helper()
	if got := impl.Consistent(old, size, proof, was, root); got != want {
		t.Errorf("%s: Consistent of %d and %d by a proof of %d: got %t", what, old, size, len(proof), got)
	}
}

func wantTexts(t *testing.T, what string, got, want []string) {
	t.Helper()
	if !slices.Equal(got, want) {
		t.Errorf("%s: got %x, want %x", what, got, want)
	}
}

func sameRange(a, b impl.Range) bool {
	return a.Size == b.Size && slices.Equal(a.Nodes, b.Nodes)
}

func TestMerkleConstants(t *testing.T) {
	if impl.MaxLeaves != 64 || impl.MaxEntry != 100 {
		t.Error("a limit is not the document's")
	}
}

// The trees, as others that keep to RFC 6962 have them for these entries.
func TestKnownTrees(t *testing.T) {
	entries := []string{"", "\x00", "\x10", "\x20\x21", "\x30\x31", "\x40\x41\x42\x43",
		"\x50\x51\x52\x53\x54\x55\x56\x57", "\x60\x61\x62\x63\x64\x65\x66\x67\x68\x69\x6a\x6b\x6c\x6d\x6e\x6f"}
	for count, want := range []string{
		"e3b0c44298fc1c149afbf4c8996fb92427ae41e4649b934ca495991b7852b855",
		"6e340b9cffb37a989ca544e6bb780a2c78901d3fb33738768511a30617afa01d",
		"fac54203e7cc696cf0dfcb42c92a1d9dbaf70ad9e621f4bd8d98662f00e3c125",
		"aeb6bcfe274b70a14fb067a5e5578264db0fa9b51af5e0ba159158f329e06e77",
		"d37ee418976dd95753c1c73862b9398fa2a2cf9b4ff0fdfe8b30cd95209614b7",
		"4e3bbb1f7b478dcfe71fb631631519a3bca12c9aefca1612bfce4c13a86264d4",
		"76e67dadbcdf1e10e1b74ddc608abd2f98dfb16fbce75277b5232a127f2087ef",
		"ddb89be403809e325750d3d263cd78929c2942b7942a34b77e122c9594a74c8c",
		"5dc9da79a70659a9ad559cb701ded9a2ab9d823aad2f4960cfe370eff4604328",
	} {
		wantBytes(t, "a known tree", impl.TreeHash(entries[:count]), unhex(t, want))
	}
	wantTexts(t, "a known path", impl.PathOf(entries, 5), []string{
		unhex(t, "bc1a0643b12e4d2d7c77918f44e0f4f79a838b6cf9ec5b5c283e1f4d88599e6b"),
		unhex(t, "ca854ea128ed050b41b35ffc1b87b8eb2bde461e9e3b5596ece6b9d5975a0ae0"),
		unhex(t, "d37ee418976dd95753c1c73862b9398fa2a2cf9b4ff0fdfe8b30cd95209614b7"),
	})
	wantTexts(t, "a known proof", impl.ProofOf(entries[:7], 6), []string{
		unhex(t, "0ebc5d3437fbe2db158b9f126a1d118e308181031d0a949f8dededebc558ef6a"),
		unhex(t, "b08693ec2e721597130641e8211e7eedccb4c26413963eee6c1e2ed16ffb1a5f"),
		unhex(t, "d37ee418976dd95753c1c73862b9398fa2a2cf9b4ff0fdfe8b30cd95209614b7"),
	})
}

func TestLeafHash(t *testing.T) {
	for size := range impl.MaxEntry + 1 {
		text := mixed(uint64(size), size)
		wantBytes(t, "leaf", impl.LeafHash(text), leafOf(text))
	}
	for _, size := range []int{impl.MaxEntry + 1, impl.MaxEntry + 2, impl.MaxBytes, impl.MaxBytes + 1} {
		wantBytes(t, "leaf of too many bytes", impl.LeafHash(mixed(1, size)), "")
	}
}

func TestNodeHash(t *testing.T) {
	left, right := mixed(1, 32), mixed(2, 32)
	wantBytes(t, "node", impl.NodeHash(left, right), nodeOf(left, right))
	wantBytes(t, "node, turned round", impl.NodeHash(right, left), nodeOf(right, left))
	for _, size := range []int{0, 1, 31, 33, 64, impl.MaxBytes, impl.MaxBytes + 1} {
		wrong := mixed(3, size)
		wantBytes(t, "node of a wrong left one", impl.NodeHash(wrong, right), "")
		wantBytes(t, "node of a wrong right one", impl.NodeHash(left, wrong), "")
		wantBytes(t, "node of two wrong ones", impl.NodeHash(wrong, wrong), "")
	}
	// Together they have 64 bytes, but not 32 each.
	wantBytes(t, "node of 31 and 33", impl.NodeHash(mixed(4, 31), mixed(5, 33)), "")
}

func TestTreesOfAllCounts(t *testing.T) {
	for count := range impl.MaxLeaves + 1 {
		entries := entriesOf(count)
		wantBytes(t, "tree", impl.TreeHash(entries), levelsRoot(entries))
	}
	wantBytes(t, "tree of none", impl.TreeHash(nil), sha(""))
	wantBytes(t, "tree of an empty list", impl.TreeHash([]string{}), sha(""))
	wantBytes(t, "tree of one empty entry", impl.TreeHash([]string{""}), sha("\x00"))
	whole := strings.Repeat("e", impl.MaxEntry)
	alike := slices.Repeat([]string{whole}, impl.MaxLeaves)
	wantBytes(t, "tree of entries alike", impl.TreeHash(alike), levelsRoot(alike))
}

// wrongEntries: too many, or one of them too long, wherever it stands.
func wrongEntries() [][]string {
	var wrong [][]string
	for _, count := range []int{65, 66, 128, impl.MaxList, impl.MaxList + 1} {
		wrong = append(wrong, entriesOf(count), make([]string, count))
	}
	for _, size := range []int{impl.MaxEntry + 1, impl.MaxBytes + 1} {
		long := mixed(1, size)
		wrong = append(wrong, []string{long})
		for _, count := range []int{2, 5, 64} {
			for _, at := range []int{0, count / 2, count - 1} {
				entries := entriesOf(count)
				entries[at] = long
				wrong = append(wrong, entries)
			}
		}
	}
	return wrong
}

func TestWrongEntries(t *testing.T) {
	for _, entries := range wrongEntries() {
		wantBytes(t, "tree of wrong entries", impl.TreeHash(entries), "")
		for _, at := range []int64{-1, 0, 1, 2, int64(len(entries)) - 1, int64(len(entries))} {
			wantTexts(t, "path in wrong entries", impl.PathOf(entries, at), nil)
			wantTexts(t, "proof in wrong entries", impl.ProofOf(entries, at), nil)
		}
	}
}

// Promise 4.

func TestEachEntryIsIncluded(t *testing.T) {
	for count := 1; count <= impl.MaxLeaves; count++ {
		entries := entriesOf(count)
		root := impl.TreeHash(entries)
		size := int64(count)
		for i := range count {
			index := int64(i)
			leaf := impl.LeafHash(entries[i])
			path := impl.PathOf(entries, index)
			wantTexts(t, "path", path, levelsPath(entries, i))
			wantIncluded(t, "its path", leaf, index, size, path, root, true)
			turn := count + 7*i
			wantIncluded(t, "another leaf", turned(leaf, turn), index, size, path, root, false)
			wantIncluded(t, "another root", leaf, index, size, path, turned(root, turn), false)
			for p := range path {
				wantIncluded(t, "another path", leaf, index, size, turnedIn(path, p, turn+p), root, false)
				wantIncluded(t, "a path lacking one", leaf, index, size, slices.Delete(slices.Clone(path), p, p+1), root, false)
				wantIncluded(t, "a path too long", leaf, index, size, slices.Insert(slices.Clone(path), p, path[p]), root, false)
			}
			wantIncluded(t, "a path too long", leaf, index, size, append(slices.Clone(path), root), root, false)
			wantIncluded(t, "no path", leaf, index, size, nil, root, count == 1)
			for other := range count {
				if other != i {
					wantIncluded(t, "another index", leaf, int64(other), size, path, root, false)
				}
			}
		}
	}
}

// Each byte of all that leads from a leaf to its tree counts.
func TestIncludedTakesEachByte(t *testing.T) {
	entries := entriesOf(11)
	root := impl.TreeHash(entries)
	for _, i := range []int{0, 7, 10} {
		leaf, path := impl.LeafHash(entries[i]), impl.PathOf(entries, int64(i))
		for at := range 32 {
			wantIncluded(t, "a byte of the leaf", turned(leaf, at), int64(i), 11, path, root, false)
			wantIncluded(t, "a byte of the root", leaf, int64(i), 11, path, turned(root, at), false)
			for p := range path {
				wantIncluded(t, "a byte of the path", leaf, int64(i), 11, turnedIn(path, p, at), root, false)
			}
		}
	}
}

func TestPathOfWrongIndex(t *testing.T) {
	for _, count := range []int{0, 1, 2, 3, 63, 64} {
		entries := entriesOf(count)
		n := int64(count)
		for _, index := range []int64{-1, -2, math.MinInt64, n, n + 1, 1 << 32, math.MaxInt64} {
			wantTexts(t, "path of a wrong index", impl.PathOf(entries, index), nil)
		}
	}
	wantTexts(t, "path of one", impl.PathOf([]string{"a"}, 0), nil)
	for _, c := range []struct {
		count, index int64
		steps        int
	}{{2, 0, 1}, {2, 1, 1}, {3, 2, 1}, {63, 0, 6}, {63, 62, 5}, {64, 0, 6}, {64, 63, 6}} {
		if got := len(impl.PathOf(entriesOf(int(c.count)), c.index)); got != c.steps {
			t.Errorf("the path at %d of %d has %d steps, want %d", c.index, c.count, got, c.steps)
		}
	}
}

func TestIncludedOfWrongNumbers(t *testing.T) {
	entries := entriesOf(5)
	root := impl.TreeHash(entries)
	for i, entry := range entries {
		leaf, path := impl.LeafHash(entry), impl.PathOf(entries, int64(i))
		for _, index := range []int64{-1, 5, 6, math.MinInt64, math.MaxInt64} {
			wantIncluded(t, "a wrong index", leaf, index, 5, path, root, false)
		}
		for _, size := range []int64{int64(i), 0, -1, math.MinInt64} {
			wantIncluded(t, "a wrong size", leaf, int64(i), size, path, root, false)
		}
	}
	one := impl.LeafHash("a")
	wantIncluded(t, "one", one, 0, 1, nil, one, true)
	wantIncluded(t, "one, an empty list", one, 0, 1, []string{}, one, true)
	wantIncluded(t, "none", sha(""), 0, 0, nil, sha(""), false)
	wantIncluded(t, "below none", one, -1, 0, nil, one, false)
	wantIncluded(t, "below none", one, -2, -1, nil, one, false)
	wantIncluded(t, "far below", one, math.MinInt64, math.MinInt64+1, nil, one, false)
}

// sized has what is of 32 bytes in other lengths.
func sized(text string) []string {
	return []string{"", text[:31], text + "\x00", text + text, mixed(1, impl.MaxBytes), mixed(1, impl.MaxBytes+1)}
}

func TestIncludedOfWrongDigests(t *testing.T) {
	entries := entriesOf(6)
	leaf, path, root := impl.LeafHash(entries[4]), impl.PathOf(entries, 4), impl.TreeHash(entries)
	wantIncluded(t, "as it is", leaf, 4, 6, path, root, true)
	for i := range sized(leaf) {
		wantIncluded(t, "a wrong leaf", sized(leaf)[i], 4, 6, path, root, false)
		wantIncluded(t, "a wrong root", leaf, 4, 6, path, sized(root)[i], false)
		wantIncluded(t, "two alike", sized(leaf)[i], 0, 1, nil, sized(leaf)[i], false)
		for p := range path {
			wrong := slices.Clone(path)
			wrong[p] = sized(path[p])[i]
			wantIncluded(t, "a wrong path", leaf, 4, 6, wrong, root, false)
			// What would come of it, if lengths were not looked at.
			made, _ := climbed(leaf, 4, 6, wrong)
			wantIncluded(t, "a wrong path to its own root", leaf, 4, 6, wrong, made, false)
		}
	}
	// What leads nowhere doesn't lead to nothing.
	wantIncluded(t, "a path too short to an empty root", leaf, 4, 6, path[:len(path)-1], "", false)
	wantIncluded(t, "no path to an empty root", leaf, 4, 6, nil, "", false)
	long := append([]string{"x"}, path...)
	wantIncluded(t, "a path with a wrong one ahead", leaf, 4, 6, long, root, false)
}

// bigSizes: around powers of two, up to the greatest int64.
func bigSizes() []int64 {
	sizes := []int64{2, 3, 65, 1000, 999999, 1000001, math.MaxInt64 - 1, math.MaxInt64}
	for bit := 2; bit < 63; bit += 6 {
		p := int64(1) << bit
		sizes = append(sizes, p-1, p, p+1, p+p/2+1)
	}
	return sizes
}

func TestIncludedInGreatTrees(t *testing.T) {
	for s, size := range bigSizes() {
		for _, index := range []int64{0, 1, size / 3, size / 2, size - 2, size - 1} {
			leaf := mixed(uint64(s), 32)
			good := 0
			for steps := range 66 {
				path := someDigests(uint64(s), steps)
				root, ok := climbed(leaf, index, size, path)
				if !ok {
					wantIncluded(t, "a wrong length", leaf, index, size, path, mixed(2, 32), false)
					continue
				}
				good++
				wantIncluded(t, "a great tree", leaf, index, size, path, root, true)
				wantIncluded(t, "another root", leaf, index, size, path, turned(root, steps), false)
				wantIncluded(t, "one more", leaf, index, size, append(slices.Clone(path), root), root, false)
				for p := range path {
					wantIncluded(t, "another path", leaf, index, size, turnedIn(path, p, s+p), root, false)
				}
			}
			if good != 1 {
				t.Errorf("at %d of %d, %d lengths lead somewhere", index, size, good)
			}
		}
	}
}

func TestIncludedByTheLongestPath(t *testing.T) {
	leaf := mixed(1, 32)
	path := someDigests(9, 63)
	root, ok := climbed(leaf, 0, math.MaxInt64, path)
	if !ok {
		t.Fatal("a path of 63 is none")
	}
	wantIncluded(t, "63", leaf, 0, math.MaxInt64, path, root, true)
	more := append(path, mixed(2, 32))
	wantIncluded(t, "64", leaf, 0, math.MaxInt64, more, root, false)
	wantIncluded(t, "64, put together", leaf, 0, math.MaxInt64, more, nodeOf(root, more[63]), false)
	wantIncluded(t, "401", leaf, 0, math.MaxInt64, someDigests(3, impl.MaxList+1), root, false)
	wantIncluded(t, "the greatest size as index", leaf, math.MaxInt64, math.MaxInt64, path, root, false)
}

// Promise 5.

func TestEachBeginningIsTold(t *testing.T) {
	var roots []string
	for count := range impl.MaxLeaves + 1 {
		roots = append(roots, impl.TreeHash(entriesOf(count)))
	}
	for count := 1; count <= impl.MaxLeaves; count++ {
		entries := entriesOf(count)
		root := roots[count]
		size := int64(count)
		for old := int64(1); old <= size; old++ {
			was := roots[old]
			proof := impl.ProofOf(entries, old)
			wantConsistent(t, "its proof", old, size, proof, was, root, true)
			turn := count + 5*int(old)
			wantConsistent(t, "another was", old, size, proof, turned(was, turn), root, false)
			wantConsistent(t, "another root", old, size, proof, was, turned(root, turn), false)
			for p := range proof {
				wantConsistent(t, "another proof", old, size, turnedIn(proof, p, turn+p), was, root, false)
				wantConsistent(t, "a proof lacking one", old, size, slices.Delete(slices.Clone(proof), p, p+1), was, root, false)
				wantConsistent(t, "a proof too long", old, size, slices.Insert(slices.Clone(proof), p, proof[p]), was, root, false)
			}
			wantConsistent(t, "a proof too long", old, size, append(slices.Clone(proof), root), was, root, false)
			wantConsistent(t, "no proof", old, size, nil, was, root, old == size)
			for other := int64(1); other <= size; other++ {
				if other != old {
					wantConsistent(t, "another beginning", old, size, proof, roots[other], root, false)
				}
			}
		}
	}
}

// proofFrom is the proof as the document words it, of trees reckoned level by
// level.
func proofFrom(entries []string, old int, whole bool) []string {
	n := len(entries)
	if old == n && whole {
		return nil
	}
	if old == n {
		return []string{levelsRoot(entries)}
	}
	k := 1
	for 2*k < n {
		k *= 2
	}
	if old <= k {
		return append(proofFrom(entries[:k], old, whole), levelsRoot(entries[k:]))
	}
	return append(proofFrom(entries[k:], old-k, false), levelsRoot(entries[:k]))
}

func TestProofsAreTheDocuments(t *testing.T) {
	for count := 1; count <= impl.MaxLeaves; count++ {
		entries := entriesOf(count)
		for old := 1; old <= count; old++ {
			proof := impl.ProofOf(entries, int64(old))
			wantTexts(t, "proof", proof, proofFrom(entries, old, true))
			if old == count {
				continue
			}
			was, root, ok := grown(int64(old), int64(count), proof, levelsRoot(entries[:old]))
			if !ok || was != levelsRoot(entries[:old]) || root != levelsRoot(entries) {
				t.Errorf("the proof of %d of %d doesn't tell it", old, count)
			}
		}
	}
	// The example of RFC 6962 (2.1.3), of seven entries.
	seven := entriesOf(7)
	a, b, c, d := leafOf(seven[0]), leafOf(seven[1]), leafOf(seven[2]), leafOf(seven[3])
	e, f, j := leafOf(seven[4]), leafOf(seven[5]), leafOf(seven[6])
	g, h, i := nodeOf(a, b), nodeOf(c, d), nodeOf(e, f)
	k, l := nodeOf(g, h), nodeOf(i, j)
	wantTexts(t, "proof of 3 of 7", impl.ProofOf(seven, 3), []string{c, d, g, l})
	wantTexts(t, "proof of 4 of 7", impl.ProofOf(seven, 4), []string{l})
	wantTexts(t, "proof of 6 of 7", impl.ProofOf(seven, 6), []string{i, j, k})
	wantTexts(t, "proof of 7 of 7", impl.ProofOf(seven, 7), nil)
}

func TestConsistentTakesEachByte(t *testing.T) {
	entries := entriesOf(13)
	root := impl.TreeHash(entries)
	for _, old := range []int64{1, 6, 8, 11, 13} {
		was, proof := impl.TreeHash(entries[:old]), impl.ProofOf(entries, old)
		for at := range 32 {
			wantConsistent(t, "a byte of was", old, 13, proof, turned(was, at), root, false)
			wantConsistent(t, "a byte of the root", old, 13, proof, was, turned(root, at), false)
			for p := range proof {
				wantConsistent(t, "a byte of the proof", old, 13, turnedIn(proof, p, at), was, root, false)
			}
		}
	}
}

// An entry more, less or other among the first ones is no beginning.
func TestAnotherBeginningIsNotTold(t *testing.T) {
	entries := entriesOf(20)
	root := impl.TreeHash(entries)
	for old := int64(1); old <= 20; old++ {
		proof := impl.ProofOf(entries, old)
		for at := range old {
			other := slices.Clone(entries[:old])
			other[at] += "x"
			if len(other[at]) > impl.MaxEntry {
				other[at] = "x"
			}
			wantConsistent(t, "another entry", old, 20, proof, impl.TreeHash(other), root, false)
			later := append(other, entries[old:]...)
			wantConsistent(t, "another entry by its own proof", old, 20, impl.ProofOf(later, old), impl.TreeHash(entries[:old]), impl.TreeHash(later), false)
		}
	}
}

func TestProofOfWrongOld(t *testing.T) {
	for _, count := range []int{0, 1, 2, 3, 63, 64} {
		entries := entriesOf(count)
		n := int64(count)
		for _, old := range []int64{0, -1, math.MinInt64, n + 1, n + 2, 1 << 32, math.MaxInt64} {
			wantTexts(t, "proof of a wrong old", impl.ProofOf(entries, old), nil)
		}
		if count > 0 {
			wantTexts(t, "proof of all", impl.ProofOf(entries, n), nil)
		}
	}
	for _, c := range []struct {
		count, old int64
		steps      int
	}{{2, 1, 1}, {3, 1, 2}, {3, 2, 1}, {64, 1, 6}, {64, 32, 1}, {64, 33, 7}, {64, 63, 7}, {63, 32, 1}, {63, 62, 6}} {
		if got := len(impl.ProofOf(entriesOf(int(c.count)), c.old)); got != c.steps {
			t.Errorf("the proof of %d of %d has %d steps, want %d", c.old, c.count, got, c.steps)
		}
	}
}

func TestConsistentOfWrongNumbers(t *testing.T) {
	entries := entriesOf(6)
	root := impl.TreeHash(entries)
	for old := int64(1); old <= 6; old++ {
		was, proof := impl.TreeHash(entries[:old]), impl.ProofOf(entries, old)
		for _, wrong := range []int64{0, -1, 7, math.MinInt64, math.MaxInt64} {
			wantConsistent(t, "a wrong old", wrong, 6, proof, was, root, false)
		}
		for _, wrong := range []int64{old - 1, 0, -1, math.MinInt64} {
			wantConsistent(t, "a wrong size", old, wrong, proof, was, root, false)
		}
	}
	empty := sha("")
	wantConsistent(t, "none of none", 0, 0, nil, empty, empty, false)
	wantConsistent(t, "none of one", 0, 1, nil, empty, impl.LeafHash("a"), false)
	wantConsistent(t, "below none", -1, -1, nil, empty, empty, false)
	wantConsistent(t, "far below", math.MinInt64, math.MinInt64, nil, empty, empty, false)
}

func TestConsistentOfSizesAlike(t *testing.T) {
	root, other := mixed(1, 32), mixed(2, 32)
	for _, size := range append(bigSizes(), 1) {
		wantConsistent(t, "all", size, size, nil, root, root, true)
		wantConsistent(t, "all, an empty list", size, size, []string{}, root, root, true)
		wantConsistent(t, "another root", size, size, nil, root, other, false)
		wantConsistent(t, "a proof that isn't needed", size, size, []string{root}, root, root, false)
		wantConsistent(t, "another proof", size, size, []string{other}, root, root, false)
		wantConsistent(t, "two in the proof", size, size, []string{root, other}, root, nodeOf(root, other), false)
	}
	for _, wrong := range sized(root) {
		wantConsistent(t, "wrong ones alike", 5, 5, nil, wrong, wrong, false)
	}
}

func TestConsistentOfWrongDigests(t *testing.T) {
	entries := entriesOf(7)
	root := impl.TreeHash(entries)
	for _, old := range []int64{3, 4} {
		was, proof := impl.TreeHash(entries[:old]), impl.ProofOf(entries, old)
		wantConsistent(t, "a proof too short of empty trees", old, 7, proof[:len(proof)-1], "", "", false)
		wantConsistent(t, "a proof too short of an empty root", old, 7, proof[:len(proof)-1], was, "", false)
		wantConsistent(t, "no proof of empty trees", old, 7, nil, "", "", false)
		for i := range sized(was) {
			wantConsistent(t, "a wrong was", old, 7, proof, sized(was)[i], root, false)
			wantConsistent(t, "a wrong root", old, 7, proof, was, sized(root)[i], false)
			for p := range proof {
				wrong := slices.Clone(proof)
				wrong[p] = sized(proof[p])[i]
				wantConsistent(t, "a wrong proof", old, 7, wrong, was, root, false)
				madeWas, madeRoot, _ := grown(old, 7, wrong, was)
				wantConsistent(t, "a wrong proof of its own trees", old, 7, wrong, madeWas, madeRoot, false)
			}
		}
	}
}

func TestConsistentInGreatTrees(t *testing.T) {
	for s, size := range bigSizes() {
		for _, old := range []int64{1, 2, size/3 + 1, size / 2, size/2 + 1, size - 1} {
			if old >= size {
				continue // sizes alike have a test of their own
			}
			given := mixed(uint64(s)+5, 32)
			good := 0
			for steps := range 67 {
				proof := someDigests(uint64(s)+1, steps)
				was, root, ok := grown(old, size, proof, given)
				if !ok {
					wantConsistent(t, "a wrong length", old, size, proof, given, mixed(2, 32), false)
					continue
				}
				good++
				wantConsistent(t, "a great tree", old, size, proof, was, root, true)
				wantConsistent(t, "another was", old, size, proof, turned(was, steps), root, false)
				wantConsistent(t, "another root", old, size, proof, was, turned(root, steps), false)
				wantConsistent(t, "one more", old, size, append(slices.Clone(proof), root), was, root, false)
				for p := range proof {
					wantConsistent(t, "another proof", old, size, turnedIn(proof, p, s+p), was, root, false)
				}
			}
			if good != 1 {
				t.Errorf("of %d of %d, %d lengths lead somewhere", old, size, good)
			}
		}
	}
}

func TestConsistentByTheLongestProof(t *testing.T) {
	const old, size = 1<<62 + 1, math.MaxInt64
	proof := someDigests(4, 64)
	was, root, ok := grown(old, size, proof, "")
	if !ok {
		t.Fatal("a proof of 64 is none")
	}
	wantConsistent(t, "64", old, size, proof, was, root, true)
	more := append(proof, mixed(2, 32))
	wantConsistent(t, "65", old, size, more, was, root, false)
	wantConsistent(t, "65, put together", old, size, more, nodeOf(more[64], was), nodeOf(more[64], root), false)
	wantConsistent(t, "401", old, size, someDigests(3, impl.MaxList+1), was, root, false)
}

// Ranges.

func TestRangesComeToTheTree(t *testing.T) {
	var r impl.Range
	for count := range impl.MaxLeaves + 1 {
		entries := entriesOf(count)
		wantBytes(t, "root of a range", impl.RangeRoot(r), levelsRoot(entries))
		if r.Size != int64(count) || len(r.Nodes) != bits.OnesCount(uint(count)) {
			t.Fatalf("behind %d: a Size of %d, %d Nodes", count, r.Size, len(r.Nodes))
		}
		rest := entries
		for i := range r.Nodes {
			k := 1 << (bits.Len(uint(len(rest))) - 1)
			wantBytes(t, "a node of a range", r.Nodes[i], levelsRoot(rest[:k]))
			rest = rest[k:]
		}
		r = impl.RangeAdd(r, entriesOf(count + 1)[count])
	}
}

// rangeOf is a Range of so many Nodes as size has bits 1.
func rangeOf(size int64) impl.Range {
	return impl.Range{Size: size, Nodes: someDigests(uint64(size), bits.OnesCount64(uint64(size)))}
}

func foldedRoot(nodes []string) string {
	root := nodes[len(nodes)-1]
	for i := len(nodes) - 2; i >= 0; i-- {
		root = nodeOf(nodes[i], root)
	}
	return root
}

func TestRangesOfGreatSizes(t *testing.T) {
	for _, size := range []int64{1, 2, 3, 63, 64, 65, 524287, 524288, 524289, 999998, 999999, 1000000} {
		r := rangeOf(size)
		wantBytes(t, "root of a great range", impl.RangeRoot(r), foldedRoot(r.Nodes))
	}
	for _, size := range []int64{1, 7, 64, 524287, 524288, 999998, 999999} {
		r := rangeOf(size)
		got := impl.RangeAdd(r, "more")
		node, nodes := leafOf("more"), slices.Clone(r.Nodes)
		for range bits.TrailingZeros64(^uint64(size)) {
			node = nodeOf(nodes[len(nodes)-1], node)
			nodes = nodes[:len(nodes)-1]
		}
		if want := (impl.Range{Size: size + 1, Nodes: append(nodes, node)}); !sameRange(got, want) {
			t.Errorf("an entry more than %d: got %d with %d nodes, want %d nodes", size, got.Size, len(got.Nodes), len(want.Nodes))
		}
	}
	full := rangeOf(1000000)
	if got := impl.RangeAdd(full, "more"); !sameRange(got, full) {
		t.Errorf("a full range has grown to %d", got.Size)
	}
}

// A tree of a range that has grown to its end is proved as each other one is.
func TestRangeGrowsFromGreatSizes(t *testing.T) {
	r := rangeOf(999980)
	for r.Size < 1000000 {
		was := impl.RangeRoot(r)
		next := impl.RangeAdd(r, "e")
		// The path of the last entry is the nodes ahead of it, the nearest first.
		path := slices.Clone(r.Nodes)
		slices.Reverse(path)
		wantIncluded(t, "the last one", impl.LeafHash("e"), r.Size, next.Size, path, impl.RangeRoot(next), true)
		if was == impl.RangeRoot(next) {
			t.Error("an entry more has changed nothing")
		}
		r = next
	}
}

func wrongRanges() []impl.Range {
	wrong := []impl.Range{{Size: -1}, {Size: -1, Nodes: someDigests(1, 64)}, {Size: 0, Nodes: someDigests(1, 1)},
		{Size: 1}, {Size: 2}, {Size: math.MinInt64}, {Size: math.MinInt64, Nodes: someDigests(1, 1)},
		{Size: math.MaxInt64}, {Size: math.MaxInt64, Nodes: someDigests(1, 63)},
		rangeOf(1000001), rangeOf(1 << 20), rangeOf(1 << 32), rangeOf(1<<32 + 1),
		{Size: 0, Nodes: someDigests(1, impl.MaxList+1)}}
	for _, size := range []int64{1, 2, 3, 100, 999999, 1000000, 1000001} {
		r := rangeOf(size)
		wrong = append(wrong, impl.Range{Size: size, Nodes: r.Nodes[1:]},
			impl.Range{Size: size, Nodes: append(slices.Clone(r.Nodes), mixed(1, 32))})
		for _, node := range sized(r.Nodes[0]) {
			for _, at := range []int{0, len(r.Nodes) - 1} {
				nodes := slices.Clone(r.Nodes)
				nodes[at] = node
				wrong = append(wrong, impl.Range{Size: size, Nodes: nodes})
			}
		}
	}
	return wrong
}

func TestWrongRanges(t *testing.T) {
	for _, r := range wrongRanges() {
		if got := impl.RangeRoot(r); got != "" {
			t.Errorf("a wrong range of Size %d, %d Nodes has the root %x", r.Size, len(r.Nodes), got)
		}
		for _, size := range []int{0, 1, impl.MaxEntry, impl.MaxEntry + 1, impl.MaxBytes} {
			if got := impl.RangeAdd(r, mixed(1, size)); !sameRange(got, r) {
				t.Errorf("a wrong range of Size %d, %d Nodes has become one of %d, %d", r.Size, len(r.Nodes), got.Size, len(got.Nodes))
			}
		}
		if got := impl.RangeAdd(r, mixed(1, impl.MaxBytes+1)); !sameRange(got, impl.Range{}) {
			t.Errorf("a text too long: a wrong range of Size %d is not refused with zero", r.Size)
		}
	}
}

func TestRangeAddOfLongTexts(t *testing.T) {
	for _, size := range []int64{0, 1, 3, 999999, 1000000} {
		r := rangeOf(size)
		for _, long := range []int{impl.MaxEntry + 1, impl.MaxEntry + 2, impl.MaxBytes} {
			if got := impl.RangeAdd(r, mixed(1, long)); !sameRange(got, r) {
				t.Errorf("a text of %d bytes has changed a range of %d", long, size)
			}
		}
		if got := impl.RangeAdd(r, mixed(1, impl.MaxBytes+1)); !sameRange(got, impl.Range{}) {
			t.Errorf("a text of more than MaxBytes isn't refused by a range of %d", size)
		}
	}
	for _, text := range []string{"", mixed(1, impl.MaxEntry)} {
		wantBytes(t, "a range of one", impl.RangeRoot(impl.RangeAdd(impl.Range{}, text)), leafOf(text))
	}
	wantBytes(t, "a range of none", impl.RangeRoot(impl.Range{}), sha(""))
	wantBytes(t, "a range of none, an empty list", impl.RangeRoot(impl.Range{Nodes: []string{}}), sha(""))
}

// What is handed in stays, and what was handed back.

// roomy is a copy of the list, with room behind it that is marked.
func roomy(list []string) []string {
	out := append(make([]string, 0, len(list)+70), list...)
	for i := len(list); i < cap(out); i++ {
		out[:cap(out)][i] = "mark"
	}
	return out
}

func wantUntouched(t *testing.T, what string, list, before []string) {
	t.Helper()
	wantTexts(t, what, list, before)
	for _, text := range list[len(list):cap(list)] {
		if text != "mark" {
			t.Errorf("%s: what stands behind it is %q", what, text)
		}
	}
}

func TestTreesLeaveEntriesAlone(t *testing.T) {
	for _, count := range []int{0, 1, 2, 7, 63, 64, 65} {
		before := entriesOf(count)
		entries := roomy(before)
		impl.TreeHash(entries)
		for i := range int64(count) + 2 {
			path, proof := impl.PathOf(entries, i), impl.ProofOf(entries, i)
			clear(path)
			clear(proof)
		}
		wantUntouched(t, "entries", entries, before)
	}
}

func TestProofsAreLeftAlone(t *testing.T) {
	entries := entriesOf(21)
	root := impl.TreeHash(entries)
	for i := range int64(21) {
		path, proof := impl.PathOf(entries, i), impl.ProofOf(entries, i+1)
		givenPath, givenProof := roomy(path), roomy(proof)
		impl.Included(impl.LeafHash(entries[i]), i, 21, givenPath, root)
		impl.Included(impl.LeafHash(entries[i]), i, 20, givenPath, root)
		impl.Consistent(i+1, 21, givenProof, impl.TreeHash(entries[:i+1]), root)
		impl.Consistent(i+1, 22, givenProof, impl.TreeHash(entries[:i+1]), root)
		wantUntouched(t, "a path", givenPath, path)
		wantUntouched(t, "a proof", givenProof, proof)
	}
}

func TestEarlierPathsStay(t *testing.T) {
	entries, others := entriesOf(33), entriesOf(64)
	var paths, proofs, kept [][]string
	for i := range int64(33) {
		paths = append(paths, impl.PathOf(entries, i))
		proofs = append(proofs, impl.ProofOf(entries, i+1))
		kept = append(kept, slices.Clone(paths[i]), slices.Clone(proofs[i]))
	}
	for i := range int64(64) {
		clear(impl.PathOf(others, i))
		clear(impl.ProofOf(others, i))
		_ = append(impl.PathOf(entries, i), "x")
	}
	for i := range paths {
		wantTexts(t, "an earlier path", paths[i], kept[2*i])
		wantTexts(t, "an earlier proof", proofs[i], kept[2*i+1])
	}
}

func TestRangesAreLeftAlone(t *testing.T) {
	for _, r := range append(wrongRanges(), rangeOf(0), rangeOf(6), rangeOf(7), rangeOf(999999), rangeOf(1000000)) {
		given := impl.Range{Size: r.Size, Nodes: roomy(r.Nodes)}
		impl.RangeRoot(given)
		for _, size := range []int{1, impl.MaxEntry + 1, impl.MaxBytes + 1} {
			first := impl.RangeAdd(given, mixed(1, size))
			kept := impl.Range{Size: first.Size, Nodes: slices.Clone(first.Nodes)}
			second := impl.RangeAdd(given, mixed(2, size))
			impl.RangeAdd(first, "further")
			if !sameRange(first, kept) {
				t.Errorf("what came of a range of %d is changed by a later call", r.Size)
			}
			clear(second.Nodes)
			clear(first.Nodes)
			wantUntouched(t, "a range", given.Nodes, r.Nodes)
		}
	}
}

func TestRangesAreNewMemory(t *testing.T) {
	r := rangeOf(12)
	for _, got := range []impl.Range{impl.RangeAdd(r, "a"), impl.RangeAdd(r, mixed(1, impl.MaxEntry+1))} {
		for i := range r.Nodes {
			if shares(got.Nodes[i], r.Nodes[i]) {
				t.Error("RangeAdd answers with its argument's memory")
			}
		}
	}
	one := rangeOf(8)
	if shares(impl.RangeRoot(one), one.Nodes[0]) {
		t.Error("RangeRoot answers with its argument's memory")
	}
}

// Nothing is kept: the same calls tell the same, whatever came between.
func TestTreesHaveNoMemory(t *testing.T) {
	entries := entriesOf(10)
	tell := func() []string {
		told := []string{impl.TreeHash(entries), impl.LeafHash("a"), impl.RangeRoot(rangeOf(10))}
		told = append(told, impl.PathOf(entries, 3)...)
		return append(told, impl.ProofOf(entries, 7)...)
	}
	before := tell()
	impl.TreeHash(entriesOf(65))
	impl.PathOf(entriesOf(64), 63)
	impl.ProofOf(entriesOf(64), 64)
	impl.Included("", 0, 0, nil, "")
	impl.RangeAdd(impl.Range{Size: -1}, "x")
	wantTexts(t, "the same again", tell(), before)
}
