package digest_test

import (
	"crypto/sha256"
	"encoding/hex"
	"math/rand"
	"strings"
	"sync"
	"testing"

	"cooperage/api"
	"cooperage/digest"
)

const ofNone = "sha256:e3b0c44298fc1c149afbf4c8996fb92427ae41e4649b934ca495991b7852b855"

// want is the digest as Go's library has it.
func want(s string) string {
	sum := sha256.Sum256([]byte(s))
	return "sha256:" + hex.EncodeToString(sum[:])
}

// samples are bytes of many lengths and kinds.
func samples() []string {
	r := rand.New(rand.NewSource(3))
	l := []string{"", "a", "abc", "\x00", "\x00\x00", "\xff\xfe", "sha256:", ofNone, "é", strings.Repeat("a", 1000000)}
	for size := range 140 {
		b := make([]byte, size)
		for i := range b {
			b[i] = byte(r.Intn(256))
		}
		l = append(l, string(b))
	}
	return l
}

func TestDt1Of(t *testing.T) {
	for s, text := range map[string]string{
		"":    ofNone,
		"abc": "sha256:ba7816bf8f01cfea414140de5dae2223b00361a396177a9cb410ff61f20015ad",
	} {
		if got := digest.Of(s); got != text {
			t.Errorf("Of(%q) = %q; want %q", s, got, text)
		}
	}
	for _, s := range samples() {
		if got := digest.Of(s); got != want(s) {
			t.Errorf("Of of %d bytes = %q; want %q", len(s), got, want(s))
		}
	}
}

func TestDt1CheckDigests(t *testing.T) {
	for _, text := range []string{
		ofNone,
		"sha256:" + strings.Repeat("0", 64), // of bytes that nobody knows, and a digest all the same
		"sha256:" + strings.Repeat("f", 64),
		"sha256:" + strings.Repeat("0123456789abcdef", 4),
	} {
		if e := digest.Check(text); e != api.OK {
			t.Errorf("Check(%q) = %d; want OK", text, e)
		}
	}
}

func wantBad(t *testing.T, text string) {
	t.Helper()
	if e := digest.Check(text); e != api.ErrBad {
		t.Errorf("Check(%q) = %d; want ErrBad", text, e)
	}
}

func TestDt1CheckLengths(t *testing.T) {
	long := ofNone + strings.Repeat("0", 80)
	for size := range len(long) + 1 {
		if size != len(ofNone) {
			wantBad(t, long[:size])
		}
	}
	wantBad(t, "sha256:"+strings.Repeat("0", 1<<20))
	for from := 1; from < len(ofNone); from++ {
		wantBad(t, ofNone[from:])
	}
}

func TestDt1CheckWords(t *testing.T) {
	digits := strings.TrimPrefix(ofNone, "sha256:")
	for _, word := range []string{
		"", ":", "sha256", "sha256::", "sha256: ", " sha256:", "sha25:", "sha255:", "sha512:", "sha256;", "sha2560",
		"SHA256:", "Sha256:", "sha-256:", "md5:", "sha1:", "xsha256:", "sha256:sha256:",
	} {
		wantBad(t, word+digits)
	}
	wantBad(t, " "+ofNone)
	wantBad(t, ofNone+" ")
	wantBad(t, ofNone+"\n")
	wantBad(t, strings.ToUpper(ofNone))
	wantBad(t, "sha256:"+strings.ToUpper(digits))
	wantBad(t, digits+":sha256")
}

func TestDt1CheckBytes(t *testing.T) {
	for at := range len(ofNone) {
		for c := range 256 {
			text := ofNone[:at] + string([]byte{byte(c)}) + ofNone[at+1:]
			ok := byte(c) == ofNone[at]
			if at >= len("sha256:") {
				ok = strings.IndexByte("0123456789abcdef", byte(c)) >= 0
			}
			if e := digest.Check(text); (e == api.OK) != ok || e != api.OK && e != api.ErrBad {
				t.Errorf("Check(%q) = %d; a digest: %t", text, e, ok)
			}
		}
	}
}

func TestDt1Is(t *testing.T) {
	l := samples()
	for i, s := range l {
		text := want(s)
		if !digest.Is(text, s) {
			t.Errorf("Is(%q, %d bytes) is false", text, len(s))
		}
		if other := l[(i+1)%len(l)]; digest.Is(text, other) {
			t.Errorf("Is(%q, %d other bytes) is true", text, len(other))
		}
		for _, wrong := range []string{
			"", s, text[:len(text)-1], text + "0", text[7:], strings.ToUpper(text), "sha256:" + strings.ToUpper(text[7:]),
			text[:len(text)-1] + "g", "sha257:" + text[7:], " " + text,
		} {
			if digest.Is(wrong, s) {
				t.Errorf("Is(%q, %d bytes) is true", wrong, len(s))
			}
		}
	}
	if digest.Is("", "") {
		t.Error("Is of two empty texts is true")
	}
}

// wantLazy asks all but Text, twice, for an answer must not change it.
func wantLazy(t *testing.T, what string, l *digest.Lazy, s string, made int) {
	t.Helper()
	for range 2 {
		if got := l.Bytes(); got != s {
			t.Errorf("%s: Bytes() = %q; want %q", what, got, s)
		}
		if got := l.Made(); got != made {
			t.Errorf("%s: Made() = %d; want %d", what, got, made)
		}
	}
}

func wantText(t *testing.T, what string, l *digest.Lazy, s string) {
	t.Helper()
	if got := l.Text(); got != want(s) {
		t.Errorf("%s: Text() = %q; want %q", what, got, want(s))
	}
}

func TestDt2Lazy(t *testing.T) {
	for _, s := range samples() {
		l := digest.New(s)
		wantLazy(t, "ahead of Text", l, s, 0)
		wantText(t, "first", l, s)
		wantLazy(t, "behind the first Text", l, s, 1)
		wantText(t, "second", l, s)
		wantLazy(t, "behind the second Text", l, s, 1)
	}
}

func TestDt2Zero(t *testing.T) {
	var l digest.Lazy
	wantLazy(t, "zero, ahead of Text", &l, "", 0)
	wantText(t, "zero, first", &l, "")
	wantLazy(t, "zero, behind the first Text", &l, "", 1)
	wantText(t, "zero, second", &l, "")
	wantLazy(t, "zero, behind the second Text", &l, "", 1)
}

func TestDt2Nil(t *testing.T) {
	var l *digest.Lazy
	for range 3 {
		wantLazy(t, "nil", l, "", 0)
		wantText(t, "nil", l, "")
	}
	wantLazy(t, "nil, behind Text", l, "", 0)
}

func TestDt2Apart(t *testing.T) {
	a, b, c := digest.New("abc"), digest.New("abc"), digest.New("x")
	wantText(t, "one", a, "abc")
	wantLazy(t, "one", a, "abc", 1)
	wantLazy(t, "another of the same bytes", b, "abc", 0)
	wantText(t, "a third", c, "x")
	wantLazy(t, "another of the same bytes, later", b, "abc", 0)
	wantText(t, "another of the same bytes", b, "abc")
	wantLazy(t, "another of the same bytes, asked", b, "abc", 1)
	wantText(t, "one, again", a, "abc")
}

func TestDt3CheckOf(t *testing.T) {
	for _, s := range samples() {
		if e := digest.Check(digest.Of(s)); e != api.OK {
			t.Errorf("Check(Of(%d bytes)) = %d; want OK", len(s), e)
		}
	}
}

func TestDt3Once(t *testing.T) {
	s := strings.Repeat("cooperage", 1000)
	l := digest.New(s)
	first := l.Text()
	for range 100 {
		if got := l.Text(); got != first || got != digest.Of(s) {
			t.Fatalf("Text() = %q, ahead of it %q", got, first)
		}
	}
	wantLazy(t, "behind many", l, s, 1)
	if n := testing.AllocsPerRun(100, func() { l.Text() }); n != 0 {
		t.Errorf("each later Text takes new memory, %g times: it is reckoned again", n)
	}
}

func TestDt3AtOneTime(t *testing.T) {
	s := strings.Repeat("x", 1<<16)
	var zero digest.Lazy
	for _, x := range []struct {
		l *digest.Lazy
		s string
	}{{digest.New(s), s}, {&zero, ""}} {
		var texts [16]string
		var made [16]int
		var all sync.WaitGroup
		for i := range texts {
			all.Add(1)
			go func() {
				defer all.Done()
				texts[i] = x.l.Text()
				made[i] = x.l.Made()
			}()
		}
		all.Wait()
		for i := range texts {
			if texts[i] != want(x.s) || made[i] != 1 {
				t.Errorf("goroutine %d: Text() = %q, Made() = %d", i, texts[i], made[i])
			}
		}
		wantLazy(t, "asked by many at one time", x.l, x.s, 1)
	}
}
