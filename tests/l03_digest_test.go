package tests

import (
	"crypto/sha256"
	"encoding"
	"encoding/binary"
	"encoding/hex"
	"math"
	"slices"
	"strings"
	"testing"

	"loop.example/g00397/impl"
)

// Promise 3: A digest is SHA-256.

const mostWord = 4294967295

// blockSizes are lengths that just fill a block, and a byte fewer and more.
var blockSizes = []int{0, 1, 54, 55, 56, 57, 63, 64, 65, 118, 119, 120, 127, 128, 129}

// rightDigest is what the library tells.
func rightDigest(text string) string {
	sum := sha256.Sum256([]byte(text))
	return string(sum[:])
}

// digestTexts have every length up to five blocks, in several kinds of bytes.
func digestTexts() []string {
	var texts []string
	for size := range 5*impl.BlockSize + 2 {
		texts = append(texts, allBytes(size))
		for _, b := range []string{"\x00", "\x7f", "\x80", "\xff", "a"} {
			texts = append(texts, strings.Repeat(b, size))
		}
	}
	for b := range 256 {
		texts = append(texts, string([]byte{byte(b)}))
	}
	return append(texts, "\xfe é \U0010ffff", allBytes(impl.MaxText), allBytes(impl.MaxText+1))
}

// libraryState is a state of the library's SHA-256 as it writes itself down.
func libraryState(state []int) []byte {
	b := []byte("sha\x03")
	for _, n := range state {
		b = binary.BigEndian.AppendUint32(b, uint32(n))
	}
	return append(b, make([]byte, impl.BlockSize+8)...)
}

// rightBlock is what the library makes of eight numbers and a block.
func rightBlock(t *testing.T, state []int, block string) []int {
	t.Helper()
	h := sha256.New()
	if err := h.(encoding.BinaryUnmarshaler).UnmarshalBinary(libraryState(state)); err != nil {
		t.Fatal(err)
	}
	h.Write([]byte(block))
	b, err := h.(encoding.BinaryMarshaler).MarshalBinary()
	if err != nil {
		t.Fatal(err)
	}
	var behind []int
	for i := range 8 {
		behind = append(behind, int(binary.BigEndian.Uint32(b[4+4*i:])))
	}
	return behind
}

// someStates are eight numbers of 32 bits, among them the ends at each place.
func someStates() [][]int {
	states := [][]int{
		impl.ShaStart(),
		{0, 0, 0, 0, 0, 0, 0, 0},
		{1, 2, 3, 4, 5, 6, 7, 8},
		{mostWord, mostWord, mostWord, mostWord, mostWord, mostWord, mostWord, mostWord},
		{1 << 31, 1<<31 - 1, mostWord, 0, 1, mostWord - 1, 0x12345678, 0xdeadbeef},
	}
	for at := range 8 {
		for _, n := range []int{0, 1, 1 << 31, mostWord - 1, mostWord} {
			states = append(states, withNumber(impl.ShaStart(), at, n))
		}
	}
	return states
}

func withNumber(state []int, at, n int) []int {
	state = slices.Clone(state)
	state[at] = n
	return state
}

func someBlocks() []string {
	return []string{
		strings.Repeat("\x00", impl.BlockSize),
		strings.Repeat("\xff", impl.BlockSize),
		strings.Repeat("\x7f\x80", impl.BlockSize/2),
		allBytes(impl.BlockSize),
		allBytes(256)[256-impl.BlockSize:],
		impl.PadText("abc"),
	}
}

func TestDigestConstants(t *testing.T) {
	if impl.DigestSize != 32 || impl.BlockSize != 64 {
		t.Error("a size of chapter 3 is not the document's")
	}
}

func TestKnownDigests(t *testing.T) {
	for _, c := range []struct{ text, hex string }{
		{"", "e3b0c44298fc1c149afbf4c8996fb92427ae41e4649b934ca495991b7852b855"},
		{"a", "ca978112ca1bbdcafac231b39a23dc4da786eff8147c4e72b9807785afee48bb"},
		{"abc", "ba7816bf8f01cfea414140de5dae2223b00361a396177a9cb410ff61f20015ad"},
		{"abcdbcdecdefdefgefghfghighijhijkijkljklmklmnlmnomnopnopq", "248d6a61d20638b8e5c026930c3e6039a33ce45964ff2167f6ecedd419db06c1"},
		{"abcdefghbcdefghicdefghijdefghijkefghijklfghijklmghijklmnhijklmnoijklmnopjklmnopqklmnopqrlmnopqrsmnopqrstnopqrstu", "cf5b16a778af8380036ce59e7b0492370b249b11e8f07a51afac45037afee9d1"},
		{strings.Repeat("a", 1000000), "cdc76e5c9914fb9281a1c7e284d73e67f1809a48a497200e046d39ccc7112cd0"},
	} {
		if got := impl.DigestHex(c.text); got != c.hex {
			t.Errorf("DigestHex(%q) = %q; want %q", cut(c.text), got, c.hex)
		}
		want, err := hex.DecodeString(c.hex)
		if err != nil {
			t.Fatal(err)
		}
		if got := impl.Digest(c.text); got != string(want) {
			t.Errorf("Digest(%q) = %q; want %q", cut(c.text), got, want)
		}
	}
}

func TestDigestIsSha256(t *testing.T) {
	for _, text := range digestTexts() {
		want := rightDigest(text)
		if got := impl.Digest(text); got != want {
			t.Errorf("Digest of %d bytes, %q, = %x; want %x", len(text), cut(text), got, want)
		}
		if got := impl.DigestHex(text); got != hex.EncodeToString([]byte(want)) {
			t.Errorf("DigestHex of %d bytes, %q, = %q; want %x", len(text), cut(text), got, want)
		}
	}
}

func TestDigestOfEachByteAtEachPlace(t *testing.T) {
	text := strings.Repeat("\x00", impl.BlockSize+1)
	for at := range len(text) {
		for _, b := range []int{1, 127, 128, 255} {
			if other := turned(text, at, b); impl.Digest(other) != rightDigest(other) {
				t.Errorf("Digest with byte %d at place %d is not SHA-256", b, at)
			}
		}
	}
}

func TestPadTextFillsBlocks(t *testing.T) {
	for _, c := range []struct{ size, blocks int }{
		{0, 1}, {1, 1}, {54, 1}, {55, 1}, {56, 2}, {57, 2}, {63, 2}, {64, 2}, {65, 2}, {118, 2}, {119, 2}, {120, 3}, {127, 3}, {128, 3}, {129, 3}, {183, 3}, {184, 4},
	} {
		if got := len(impl.PadText(allBytes(c.size))); got != c.blocks*impl.BlockSize {
			t.Errorf("PadText of %d bytes has %d; want %d blocks", c.size, got, c.blocks)
		}
	}
	if got, want := impl.PadText(""), "\x80"+strings.Repeat("\x00", 63); got != want {
		t.Errorf("PadText of nothing = %q; want %q", got, want)
	}
	if got, want := impl.PadText("abc"), "abc\x80"+strings.Repeat("\x00", 59)+"\x18"; got != want {
		t.Errorf("PadText(\"abc\") = %q; want %q", got, want)
	}
	if got, want := impl.PadText(allBytes(55)), allBytes(55)+"\x80\x00\x00\x00\x00\x00\x00\x01\xb8"; got != want {
		t.Errorf("PadText of 55 bytes = %q; want %q", got, want)
	}
	if got, want := impl.PadText(allBytes(56)), allBytes(56)+"\x80"+strings.Repeat("\x00", 69)+"\x01\xc0"; got != want {
		t.Errorf("PadText of 56 bytes = %q; want %q", got, want)
	}
	if got, want := impl.PadText(allBytes(64)), allBytes(64)+"\x80"+strings.Repeat("\x00", 61)+"\x02\x00"; got != want {
		t.Errorf("PadText of 64 bytes = %q; want %q", got, want)
	}
}

func TestPadTextEndsInTheLength(t *testing.T) {
	texts := append(digestTexts(), allBytes(8191), allBytes(8192), allBytes(65536), allBytes(2097152))
	for _, text := range texts {
		padded := impl.PadText(text)
		if len(padded)%impl.BlockSize != 0 || len(padded) < len(text)+9 || len(padded) >= len(text)+9+impl.BlockSize {
			t.Errorf("PadText of %d bytes has %d", len(text), len(padded))
			continue
		}
		behind := len(padded) - 8
		if !strings.HasPrefix(padded, text+"\x80") || strings.Trim(padded[len(text)+1:behind], "\x00") != "" {
			t.Errorf("PadText of %d bytes, %q, has other bytes between text and length", len(text), cut(text))
		}
		if got := binary.BigEndian.Uint64([]byte(padded[behind:])); got != 8*uint64(len(text)) {
			t.Errorf("PadText of %d bytes tells the length %d", len(text), got)
		}
	}
}

func TestShaStart(t *testing.T) {
	want := []int{1779033703, 3144134277, 1013904242, 2773480762, 1359893119, 2600822924, 528734635, 1541459225}
	if got := impl.ShaStart(); !slices.Equal(got, want) {
		t.Errorf("ShaStart() = %v; want %v", got, want)
	}
}

func TestShaBlockIsSha256(t *testing.T) {
	for _, state := range someStates() {
		for _, block := range someBlocks() {
			if got, want := impl.ShaBlock(state, block), rightBlock(t, state, block); !slices.Equal(got, want) {
				t.Errorf("ShaBlock(%v, %q) = %v; want %v", state, cut(block), got, want)
			}
		}
	}
}

// afterBlocks is ShaBlock of each block, and the eight numbers in bytes.
func afterBlocks(padded string) string {
	state := impl.ShaStart()
	for at := 0; at+impl.BlockSize <= len(padded); at += impl.BlockSize {
		state = impl.ShaBlock(state, padded[at:at+impl.BlockSize])
	}
	text := ""
	for _, n := range state {
		text += highestFirst(uint32(n))
	}
	return text
}

func TestDigestIsShaBlockOfEachBlock(t *testing.T) {
	for _, size := range append([]int{3, 200, 1000, impl.MaxText}, blockSizes...) {
		text := allBytes(size)
		if got, want := impl.Digest(text), afterBlocks(impl.PadText(text)); got != want || got != rightDigest(text) {
			t.Errorf("Digest of %d bytes = %x, but block by block %x", size, got, want)
		}
	}
}

// staysAsItIs tells that ShaBlock answers with the numbers that it was given.
func staysAsItIs(t *testing.T, state []int, block string) {
	t.Helper()
	if got := impl.ShaBlock(state, block); !slices.Equal(got, state) {
		t.Errorf("ShaBlock(%v, %d bytes) = %v; want it as it is", state, len(block), got)
	}
}

func TestShaBlockOfOtherStates(t *testing.T) {
	for _, block := range someBlocks() {
		staysAsItIs(t, nil, block)
		staysAsItIs(t, []int{}, block)
		staysAsItIs(t, impl.ShaStart()[:1], block)
		staysAsItIs(t, impl.ShaStart()[:7], block)
		staysAsItIs(t, append(impl.ShaStart(), 0), block)
		staysAsItIs(t, append(impl.ShaStart(), impl.ShaStart()...), block)
		for at := range 8 {
			for _, n := range []int{math.MinInt, math.MinInt + 1, -mostWord - 1, -1 << 31, -2, -1, mostWord + 1, mostWord + 2, 1 << 33, 1 << 62, math.MaxInt - 1, math.MaxInt} {
				staysAsItIs(t, withNumber(impl.ShaStart(), at, n), block)
				staysAsItIs(t, withNumber(make([]int, 8), at, n), block)
			}
		}
	}
}

func TestShaBlockOfOtherBlocks(t *testing.T) {
	for _, state := range someStates() {
		for _, size := range []int{0, 1, 8, 32, 63, 65, 127, 128, 1000} {
			staysAsItIs(t, state, allBytes(size))
		}
	}
	// Neither is as it should be.
	staysAsItIs(t, nil, "")
	staysAsItIs(t, []int{-1}, allBytes(63))
	staysAsItIs(t, withNumber(impl.ShaStart(), 3, -1), allBytes(65))
}

func TestShaBlockWritesIntoNoArgument(t *testing.T) {
	for _, block := range append(someBlocks(), "", allBytes(63), allBytes(65)) {
		for _, size := range []int{0, 1, 7, 8, 9} {
			room := slices.Repeat([]int{77}, 20)
			copy(room, append(impl.ShaStart(), 5)[:size])
			before := slices.Clone(room)
			got := impl.ShaBlock(room[:size], block)
			_ = append(got, 99)
			for i := range got {
				got[i] = -5
			}
			if !slices.Equal(room, before) {
				t.Errorf("ShaBlock of %d numbers and %d bytes shares memory with its argument: %v; it was %v", size, len(block), room, before)
			}
		}
	}
}

func TestDigestAnswersAreNewMemory(t *testing.T) {
	first, second := impl.ShaStart(), impl.ShaStart()
	want := slices.Clone(second)
	for i := range first {
		first[i] = -1
	}
	if !slices.Equal(second, want) || !slices.Equal(impl.ShaStart(), want) {
		t.Error("two calls of ShaStart share memory")
	}
	if impl.DigestHex("") != "e3b0c44298fc1c149afbf4c8996fb92427ae41e4649b934ca495991b7852b855" {
		t.Error("what ShaStart answers is what Digest begins with")
	}
	state, block := impl.ShaStart(), allBytes(impl.BlockSize)
	once, again := impl.ShaBlock(state, block), impl.ShaBlock(state, block)
	kept := slices.Clone(again)
	for i := range once {
		once[i] = 0
	}
	if !slices.Equal(again, kept) {
		t.Error("two calls of ShaBlock share memory")
	}
}

func TestCutDigest(t *testing.T) {
	for _, text := range []string{"", "a", "abc", allBytes(55), allBytes(56), allBytes(64), allBytes(1000)} {
		whole := rightDigest(text)
		for w := 1; w <= impl.DigestSize; w++ {
			if got := impl.CutDigest(text, w); got != whole[:w] {
				t.Errorf("CutDigest(%q, %d) = %x; want %x", cut(text), w, got, whole[:w])
			}
		}
		for _, w := range append([]int{0, impl.DigestSize + 1, impl.DigestSize + 2, impl.BlockSize, 256 + 1}, farPlaces...) {
			if got := impl.CutDigest(text, w); got != "" {
				t.Errorf("CutDigest(%q, %d) = %x; want nothing", cut(text), w, got)
			}
		}
	}
	if got := impl.CutDigest("abc", 2); got != "\xba\x78" {
		t.Errorf("CutDigest(\"abc\", 2) = %q", got)
	}
}

// Whatever comes in, a call answers, and the same each time.
func TestDigestAnswersAtEveryArgument(t *testing.T) {
	for _, text := range []string{"", "\x00", "\xff", allBytes(64), allBytes(impl.MaxText + 1), allBytes(1 << 20)} {
		if len(impl.Digest(text)) != impl.DigestSize || len(impl.DigestHex(text)) != 2*impl.DigestSize {
			t.Errorf("a digest of %d bytes is not of its size", len(text))
		}
		if impl.Digest(text) != impl.Digest(strings.Clone(text)) || impl.PadText(text) != impl.PadText(strings.Clone(text)) {
			t.Errorf("two calls with the same %d bytes answer differently", len(text))
		}
		for _, state := range [][]int{nil, {}, {0}, impl.ShaStart(), make([]int, 100)} {
			if got := impl.ShaBlock(state, text); len(got) != len(state) {
				t.Errorf("ShaBlock of %d numbers answers %d", len(state), len(got))
			}
		}
	}
}
