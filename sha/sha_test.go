package sha_test

import (
	"crypto/sha256"
	"encoding/hex"
	"math/rand"
	"strings"
	"testing"

	"cooperage/sha"
)

// bytesOf are so many bytes from a fixed seed.
func bytesOf(size int) string {
	r := rand.New(rand.NewSource(int64(size)))
	b := make([]byte, size)
	for i := range b {
		b[i] = byte(r.Intn(256))
	}
	return string(b)
}

// edges are the lengths at which padding takes another block or another byte of the length, and those beside them.
func edges() []int {
	var l []int
	for size := range 260 {
		l = append(l, size)
	}
	for _, middle := range []int{32 * 64, 32*64 + 55, 32*64 + 56, 1<<13 + 64, 1<<13 + 55, 1 << 16, 1<<16 + 55, 1<<21 + 56} {
		l = append(l, middle-1, middle, middle+1)
	}
	return l
}

func wantSum(t *testing.T, what string, got [32]byte, s string) {
	t.Helper()
	if want := sha256.Sum256([]byte(s)); got != want {
		t.Errorf("%s: the sum of %d bytes is %x; want %x", what, len(s), got, want)
	}
}

// wantStream asks a Stream that has received the bytes of s, twice, for an answer must not change it.
func wantStream(t *testing.T, what string, x *sha.Stream, s string) {
	t.Helper()
	for range 2 {
		wantSum(t, what, x.Sum(), s)
		if got := x.Len(); got != len(s) {
			t.Errorf("%s: Len() = %d; want %d", what, got, len(s))
		}
	}
}

func TestSh1Known(t *testing.T) {
	for _, x := range [][2]string{
		{"", "e3b0c44298fc1c149afbf4c8996fb92427ae41e4649b934ca495991b7852b855"},
		{"abc", "ba7816bf8f01cfea414140de5dae2223b00361a396177a9cb410ff61f20015ad"},
		{"abcdbcdecdefdefgefghfghighijhijkijkljklmklmnlmnomnopnopq", "248d6a61d20638b8e5c026930c3e6039a33ce45964ff2167f6ecedd419db06c1"},
		{strings.Repeat("a", 1000000), "cdc76e5c9914fb9281a1c7e284d73e67f1809a48a497200e046d39ccc7112cd0"},
	} {
		sum := sha.Sum(x[0])
		if got := hex.EncodeToString(sum[:]); got != x[1] {
			t.Errorf("Sum of %d bytes = %s; want %s", len(x[0]), got, x[1])
		}
		var s sha.Stream
		s.Add(x[0])
		wantStream(t, "in one part", &s, x[0])
	}
}

func TestSh1AllLengths(t *testing.T) {
	for _, size := range edges() {
		for _, s := range []string{bytesOf(size), strings.Repeat("\x00", size), strings.Repeat("\xff", size), strings.Repeat("\x80", size)} {
			wantSum(t, "Sum", sha.Sum(s), s)
			var x sha.Stream
			x.Add(s)
			wantStream(t, "in one part", &x, s)
		}
	}
}

// Each single byte, and each place of a bit in a block, must matter.
func TestSh1AllBits(t *testing.T) {
	for b := range 256 {
		s := string([]byte{byte(b)})
		wantSum(t, "Sum", sha.Sum(s), s)
	}
	for bit := range 8 * 64 {
		b := make([]byte, 64)
		b[bit/8] = 1 << (bit % 8)
		wantSum(t, "Sum", sha.Sum(string(b)), string(b))
	}
}

// The number of bits is written in eight bytes: of half a gigabyte it needs five.
func TestSh1LongStream(t *testing.T) {
	part := bytesOf(1 << 20)
	var x sha.Stream
	want := sha256.New()
	for range 1<<9 + 1 {
		x.Add(part)
		want.Write([]byte(part))
	}
	if got := x.Len(); got != 1<<29+1<<20 {
		t.Errorf("Len() = %d", got)
	}
	if got := x.Sum(); string(got[:]) != string(want.Sum(nil)) {
		t.Errorf("Sum() = %x; want %x", got, want.Sum(nil))
	}
}

func TestSh1ZeroStream(t *testing.T) {
	var x sha.Stream
	wantStream(t, "the zero one", &x, "")
	x.Add("")
	wantStream(t, "with an empty part", &x, "")
	x.Reset()
	wantStream(t, "reset with no bytes", &x, "")
	x.Add("abc")
	wantStream(t, "later", &x, "abc")
}

// A Stream that is asked after each byte answers for the bytes so far, and goes on as if it had not been asked.
func TestSh1SumBetweenParts(t *testing.T) {
	s := bytesOf(200)
	var x, unasked sha.Stream
	for i := range len(s) {
		wantStream(t, "so far", &x, s[:i])
		x.Add(s[i : i+1])
		unasked.Add(s[i : i+1])
		if x != unasked {
			t.Fatalf("%d bytes: asking changed the Stream", i+1)
		}
	}
	wantStream(t, "in the end", &x, s)
	wantStream(t, "unasked", &unasked, s)
}

func TestSh1Reset(t *testing.T) {
	for _, size := range []int{0, 1, 3, 54, 55, 56, 57, 63, 64, 65, 119, 120, 127, 128, 129, 1000} {
		var x sha.Stream
		x.Add(bytesOf(size))
		x.Reset()
		if x != (sha.Stream{}) {
			t.Errorf("reset after %d bytes: not like the zero one", size)
		}
		wantStream(t, "reset", &x, "")
		for _, again := range []int{1, 55, 56, 64, 100} {
			x.Add(bytesOf(again))
			wantStream(t, "after Reset", &x, bytesOf(again))
			x.Sum()
			x.Reset()
		}
		x.Reset()
		wantStream(t, "reset twice", &x, "")
	}
}

func TestSh1NilStream(t *testing.T) {
	var x *sha.Stream
	wantStream(t, "nil", x, "")
	x.Add("")
	x.Add("abc")
	x.Add(bytesOf(200))
	wantStream(t, "nil, after Add", x, "")
	x.Reset()
	wantStream(t, "nil, after Reset", x, "")
	var y sha.Stream
	wantStream(t, "another", &y, "")
}

// Streams share nothing: not with each other, and not with a copy of themselves.
func TestSh1StreamsApart(t *testing.T) {
	one, other := bytesOf(150), bytesOf(151)
	var x, y sha.Stream
	for i := range len(one) {
		x.Add(one[i : i+1])
		y.Add(other[i : i+1])
		wantSum(t, "Sum", sha.Sum(one[:i]), one[:i])
	}
	copied := x
	x.Add("more")
	copied.Add("others")
	y.Reset()
	wantStream(t, "one", &x, one+"more")
	wantStream(t, "the copy", &copied, one+"others")
	wantStream(t, "the other", &y, "")
}

// Every way to divide the bytes into two parts, round two blocks, with empty parts between them.
func TestSh2TwoParts(t *testing.T) {
	for _, size := range []int{0, 1, 2, 54, 55, 56, 63, 64, 65, 118, 119, 120, 127, 128, 129, 200} {
		s := bytesOf(size)
		for cut := range size + 1 {
			var x sha.Stream
			for _, part := range []string{"", s[:cut], "", "", s[cut:], ""} {
				x.Add(part)
			}
			wantStream(t, "in two parts", &x, s)
			if x.Sum() != sha.Sum(s) {
				t.Errorf("%d bytes, cut at %d: not the sum of the whole", size, cut)
			}
		}
	}
}

func TestSh2EqualParts(t *testing.T) {
	s := bytesOf(1000)
	for size := 1; size <= len(s); size++ {
		var x sha.Stream
		for i := 0; i < len(s); i += size {
			x.Add(s[i:min(i+size, len(s))])
		}
		wantStream(t, "in equal parts", &x, s)
	}
}

// Parts from a fixed seed, small and great, empty ones among them, asked for the sum now and then.
func TestSh2ManyParts(t *testing.T) {
	r := rand.New(rand.NewSource(3))
	for range 500 {
		s := bytesOf(r.Intn(2000))
		most := 1 + r.Intn(300)
		var x sha.Stream
		for at := 0; at < len(s); {
			end := min(at+r.Intn(most), len(s))
			x.Add(s[at:end])
			at = end
			if r.Intn(10) == 0 {
				wantStream(t, "so far", &x, s[:at])
			}
			if most == 1 { // then no part would have a byte
				most = 2
			}
		}
		wantStream(t, "in many parts", &x, s)
	}
}
