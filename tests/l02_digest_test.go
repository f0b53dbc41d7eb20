package tests

import (
	"crypto/hmac"
	"crypto/sha256"
	"encoding/hex"
	"math"
	"strings"
	"testing"

	"loop.example/g00633/impl"
)

func unhex(t *testing.T, text string) string {
	t.Helper()
	out, err := hex.DecodeString(text)
	if err != nil {
		t.Fatal(err)
	}
	return string(out)
}

func sha(text string) string {
	sum := sha256.Sum256([]byte(text))
	return string(sum[:])
}

func shaMac(key, text string) string {
	h := hmac.New(sha256.New, []byte(key))
	h.Write([]byte(text))
	return string(h.Sum(nil))
}

// masked is the key filled up to 64 bytes, each put together with mask.
func masked(key string, mask byte) string {
	out := make([]byte, 64)
	copy(out, key)
	for i := range out {
		out[i] ^= mask
	}
	return string(out)
}

func wantBytes(t *testing.T, what, got, want string) {
	t.Helper()
	if got != want {
		t.Errorf("%.60q: got %x, want %x", what, got, want)
	}
}

// Promise 3.

func TestKnownDigests(t *testing.T) {
	for _, c := range []struct{ text, want string }{
		{"", "e3b0c44298fc1c149afbf4c8996fb92427ae41e4649b934ca495991b7852b855"},
		{"abc", "ba7816bf8f01cfea414140de5dae2223b00361a396177a9cb410ff61f20015ad"},
		{"abcdbcdecdefdefgefghfghighijhijkijkljklmklmnlmnomnopnopq",
			"248d6a61d20638b8e5c026930c3e6039a33ce45964ff2167f6ecedd419db06c1"},
		{"abcdefghbcdefghicdefghijdefghijkefghijklfghijklmghijklmnhijklmnoijklmnopjklmnopqklmnopqrlmnopqrsmnopqrstnopqrstu",
			"cf5b16a778af8380036ce59e7b0492370b249b11e8f07a51afac45037afee9d1"},
		{"a", "ca978112ca1bbdcafac231b39a23dc4da786eff8147c4e72b9807785afee48bb"},
		{"\xbd", "68325720aabd7c82f30f554b313d0570c95accbb7dc4b5aae11204c08ffe732b"},
		{strings.Repeat("\x00", 55), "02779466cdec163811d078815c633f21901413081449002f24aa3e80f0b88ef7"},
		{strings.Repeat("\x00", 56), "d4817aa5497628e7c77e6b606107042bbba3130888c5f47a375e6179be789fbb"},
		{strings.Repeat("\x00", 64), "f5a5fd42d16a20302798ef6ed309979b43003d2320d9f0e8ea9831a92759fb4b"},
		{strings.Repeat("\x00", 1000), "541b3e9daa09b20bf85fa273e5cbd3e80185aa4ec298e765db87742b70138a53"},
		{strings.Repeat("A", 1000), "c2e686823489ced2017f6059b8b239318b6364f6dcd835d0a519105a1eadd6e4"},
	} {
		wantBytes(t, "digest of "+c.text, impl.Digest(c.text), unhex(t, c.want))
	}
}

func TestDigestsOfAllLengths(t *testing.T) {
	for size := range 260 {
		text := mixed(uint64(size)+1, size)
		wantBytes(t, "digest of a text", impl.Digest(text), sha(text))
		ones := strings.Repeat("\xff", size)
		wantBytes(t, "digest of ones", impl.Digest(ones), sha(ones))
	}
	for _, size := range []int{1023, 1024, 1025, 4095, 4096, 7999, impl.MaxBytes} {
		text := mixed(uint64(size), size)
		wantBytes(t, "digest of a long text", impl.Digest(text), sha(text))
	}
}

func TestDigestOfTooManyBytes(t *testing.T) {
	for _, size := range []int{impl.MaxBytes + 1, impl.MaxBytes + 64, 3 * impl.MaxBytes} {
		wantBytes(t, "digest of too many bytes", impl.Digest(mixed(9, size)), "")
	}
}

// The test cases of RFC 4231 for HMAC (RFC 2104) with SHA-256.
func TestKnownMacs(t *testing.T) {
	long := strings.Repeat("\xaa", 131)
	for _, c := range []struct{ key, text, want string }{
		{strings.Repeat("\x0b", 20), "Hi There",
			"b0344c61d8db38535ca8afceaf0bf12b881dc200c9833da726e9376c2e32cff7"},
		{"Jefe", "what do ya want for nothing?",
			"5bdcc146bf60754e6a042426089575c75a003f089d2739839dec58b964ec3843"},
		{strings.Repeat("\xaa", 20), strings.Repeat("\xdd", 50),
			"773ea91e36800e46854db8ebd09181a72959098b3ef8c122d9635514ced565fe"},
		{"\x01\x02\x03\x04\x05\x06\x07\x08\x09\x0a\x0b\x0c\x0d\x0e\x0f\x10\x11\x12\x13\x14\x15\x16\x17\x18\x19",
			strings.Repeat("\xcd", 50),
			"82558a389a443c0ea4cc819899f2083a85f0faa3e578f8077a2e3ff46729665b"},
		{long, "Test Using Larger Than Block-Size Key - Hash Key First",
			"60e431591ee0b67f0d8a26aacbf5b77f8e0bc6213728c5140546040f0ee37f54"},
		{long, "This is a test using a larger than block-size key and a larger than block-size data. " +
			"The key needs to be hashed before being used by the HMAC algorithm.",
			"9b09ffa71b942fcb27635fbcd5b0e944bfdc63644f0713938a7f51535c3a35e2"},
		{"", "", "b613679a0814d9ec772f95d778c35fc5ff1697c493715653c6c712144292c5ad"},
	} {
		wantBytes(t, "mac of "+c.text, impl.Mac(c.key, c.text), unhex(t, c.want))
	}
}

func TestMacsOfManyKeysAndTexts(t *testing.T) {
	for _, keySize := range []int{0, 1, 32, 62, 63, 64, 65, 66, 127, 128, 129, 7999, impl.MaxBytes} {
		key := mixed(uint64(keySize), keySize)
		for _, size := range []int{0, 1, 54, 55, 56, 63, 64, 65, 119, 120, 128, 7935, 7936, 7937, 7999, impl.MaxBytes} {
			text := mixed(uint64(size)+77, size)
			wantBytes(t, "mac", impl.Mac(key, text), shaMac(key, text))
		}
	}
}

// The mac is put together from digests, as far as these take so many bytes.
func TestMacIsMadeOfDigests(t *testing.T) {
	for _, keySize := range []int{0, 1, 63, 64, 65, 100, impl.MaxBytes} {
		key := mixed(uint64(keySize), keySize)
		short := key
		if keySize > 64 {
			short = impl.Digest(key)
			wantBytes(t, "mac under the digest of a key", impl.Mac(key, "t"), impl.Mac(short, "t"))
		}
		for _, size := range []int{0, 1, 64, 500, impl.MaxBytes - 64} {
			text := mixed(uint64(size), size)
			inner := impl.Digest(masked(short, 54) + text)
			wantBytes(t, "mac of digests", impl.Mac(key, text), impl.Digest(masked(short, 92)+inner))
		}
	}
}

// A key is filled up with bytes 0, up to a whole block and no further.
func TestMacKeysFilledUp(t *testing.T) {
	wantBytes(t, "a key and its filling", impl.Mac("k", "t"), impl.Mac("k\x00", "t"))
	key := mixed(3, 63)
	wantBytes(t, "a key of 63 bytes and its filling", impl.Mac(key, "t"), impl.Mac(key+"\x00", "t"))
	if impl.Mac(key, "t") == impl.Mac(key+"\x00\x00", "t") {
		t.Error("a key of 65 bytes stands for one of 63")
	}
	if impl.Mac("k", "t") == impl.Mac("\x00k", "t") || impl.Mac("k", "t") == impl.Mac("t", "k") {
		t.Error("two keys have one mac")
	}
}

func TestMacOfTooManyBytes(t *testing.T) {
	whole, long := mixed(1, impl.MaxBytes), mixed(1, impl.MaxBytes+1)
	for _, c := range [][2]string{{long, ""}, {"", long}, {long, whole}, {whole, long}, {long, long}} {
		wantBytes(t, "mac of too many bytes", impl.Mac(c[0], c[1]), "")
	}
	wantBytes(t, "mac of as many as may be", impl.Mac(whole, whole), shaMac(whole, whole))
}

func TestStretch(t *testing.T) {
	for _, size := range []int{0, 1, 63, 64, 65, impl.MaxBytes} {
		pass := mixed(uint64(size), size)
		want := "salt"
		for rounds := range int64(100) {
			want = shaMac(pass, want)
			wantBytes(t, "stretched", impl.Stretch(pass, rounds+1), want)
		}
	}
	wantBytes(t, "stretched once", impl.Stretch("p", 1), impl.Mac("p", "salt"))
	wantBytes(t, "stretched twice", impl.Stretch("p", 2), impl.Mac("p", impl.Mac("p", "salt")))
	for rounds, want := range map[int64]string{
		1:   "0e089f7621810bfba28af594bed2b459d4023c42f5a16a84403cbbefcf5c1905",
		2:   "a0477fcd8a144e5a72edcbb39e778491fd637d5646325f0ac2e18e5e3e2d4146",
		100: "694b2024ded7f44007c3901397a257a95d78d10c6334a7f07c5e7af8357460c6",
	} {
		wantBytes(t, "known stretched", impl.Stretch("p", rounds), unhex(t, want))
	}
}

func TestStretchOfWrongRounds(t *testing.T) {
	wrong := []int64{0, -1, -2, -100, 101, 102, math.MinInt64, math.MaxInt64, 1 << 32, 1<<32 + 1, 256 + 1}
	for _, pass := range []string{"", "p", mixed(2, impl.MaxBytes), mixed(2, impl.MaxBytes+1)} {
		for _, rounds := range wrong {
			wantBytes(t, "stretched by wrong rounds", impl.Stretch(pass, rounds), "")
		}
	}
	for _, rounds := range []int64{1, 2, 100} {
		wantBytes(t, "a pass of too many bytes", impl.Stretch(mixed(2, impl.MaxBytes+1), rounds), "")
	}
}

func TestDigestsHaveNoMemory(t *testing.T) {
	text := mixed(5, 500)
	before := []string{impl.Digest(text), impl.Mac("k", text), impl.Stretch("p", 3)}
	impl.Digest("other")
	impl.Mac(mixed(6, 90), "other")
	impl.Stretch("other", 100)
	impl.Stretch("other", 0)
	after := []string{impl.Digest(text), impl.Mac("k", text), impl.Stretch("p", 3)}
	for i := range before {
		wantBytes(t, "the same again", after[i], before[i])
	}
}
