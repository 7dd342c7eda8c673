package record_test

import (
	"fmt"
	"math/rand"
	"strings"
	"testing"

	"cooperage/api"
	"cooperage/quote"
	"cooperage/record"
)

// kept are the two functions of a thing that has a text of its own.
type kept[T any] struct {
	put  func(T) (string, api.Errno)
	take func(string) (T, api.Errno)
}

func claims() kept[api.Claim]   { return kept[api.Claim]{record.PutClaim, record.TakeClaim} }
func moves() kept[[]api.Move]   { return kept[[]api.Move]{record.PutMoves, record.TakeMoves} }
func mounts() kept[[]api.Mount] { return kept[[]api.Mount]{record.PutMounts, record.TakeMounts} }

// has holds a thing and its text against each other.
func (k kept[T]) has(t *testing.T, thing T, s string) {
	t.Helper()
	if got, e := k.put(thing); got != s || e != api.OK {
		t.Errorf("Put of %#v: %q, %d, want %q", thing, got, e, s)
	}
	if got, e := k.take(s); e != api.OK || !isSame(got, thing) {
		t.Errorf("Take of %q: %#v, %d, want %#v", s, got, e, thing)
	}
}

// lacks holds things that may not be against what is answered of them.
func (k kept[T]) lacks(t *testing.T, things ...T) {
	t.Helper()
	for _, thing := range things {
		if s, e := k.put(thing); s != "" || e != api.ErrArg {
			t.Errorf("Put of %.200q: %q, %d, want ErrArg", fmt.Sprint(thing), s, e)
		}
	}
}

// refuses does it with texts.
func (k kept[T]) refuses(t *testing.T, texts ...string) {
	t.Helper()
	var none T
	for _, s := range texts {
		if thing, e := k.take(s); e != api.ErrBad || !isSame(thing, none) {
			t.Errorf("Take of %.200q: %#v, %d, want ErrBad", s, thing, e)
		}
	}
}

// onlyText goes through nearly the text of a thing: what is read there has it as its text.
func (k kept[T]) onlyText(t *testing.T, thing T) {
	t.Helper()
	s, e := k.put(thing)
	if e != api.OK {
		t.Fatalf("Put of %#v: %d", thing, e)
	}
	for _, text := range mutants(s) {
		back, e := k.take(text)
		if e != api.OK {
			k.refuses(t, text)
			continue
		}
		if again, e := k.put(back); again != text || e != api.OK || isSame(back, thing) != (text == s) {
			t.Errorf("Take of %q: %#v, whose text is %q, %d", text, back, again, e)
		}
	}
}

// noTexts are no texts, or those of values that stand for nothing here.
func noTexts() []string {
	return []string{
		"", " ", "null", "true", "0", `""`, "[]", "{}", "[{}]", "{", "}", "\x00", "\xff", `{"":0}`, `{"x":[]}`,
		strings.Repeat(" ", api.MaxText+1), strings.Repeat("[", api.MaxText), strings.Repeat("[", 40) + strings.Repeat("]", 40),
	}
}

func TestRc2Claims(t *testing.T) {
	claims().has(t, api.Claim{Pid: 7, Birth: 3}, `{"birth":3,"pid":7,"stamp":0}`)
	for _, n := range []int{1, 2, 9, 10, 1 << 31, 1 << 32, maxCount - 1, maxCount} {
		claims().has(t, api.Claim{Pid: n, Birth: 1}, fmt.Sprintf(`{"birth":1,"pid":%d,"stamp":0}`, n))
		claims().has(t, api.Claim{Pid: 1, Birth: n}, fmt.Sprintf(`{"birth":%d,"pid":1,"stamp":0}`, n))
		claims().has(t, api.Claim{Pid: 1, Birth: 1, Stamp: n}, fmt.Sprintf(`{"birth":1,"pid":1,"stamp":%d}`, n))
		claims().has(t, api.Claim{Pid: n, Birth: n, Stamp: n}, fmt.Sprintf(`{"birth":%d,"pid":%d,"stamp":%d}`, n, n, n))
	}
	for _, n := range []int{-1, -maxCount, maxCount + 1, api.MaxInt, -api.MaxInt - 1} {
		claims().lacks(t, api.Claim{Pid: n, Birth: 1}, api.Claim{Pid: 1, Birth: n}, api.Claim{Pid: 1, Birth: 1, Stamp: n}, api.Claim{Pid: n, Birth: n, Stamp: n})
	}
	claims().lacks(t, api.Claim{}, api.Claim{Pid: 1}, api.Claim{Birth: 1}, api.Claim{Stamp: 1}, api.Claim{Pid: 1, Stamp: 1}, api.Claim{Birth: 1, Stamp: 1})
}

func TestRc2TakeClaims(t *testing.T) {
	claims().refuses(t, noTexts()...)
	claims().refuses(t,
		`{"birth":0,"pid":7,"stamp":0}`, `{"birth":3,"pid":0,"stamp":0}`, `{"birth":3,"pid":7,"stamp":-1}`, `{"birth":-3,"pid":7,"stamp":0}`, `{"birth":3,"pid":-7,"stamp":0}`,
		`{"birth":9007199254740993,"pid":7,"stamp":0}`, `{"birth":3,"pid":9007199254740993,"stamp":0}`, `{"birth":3,"pid":7,"stamp":9007199254740993}`, `{"birth":3,"pid":7,"stamp":18446744073709551616}`,
		`{"birth":3,"pid":7}`, `{"birth":3,"stamp":0}`, `{"pid":7,"stamp":0}`, `{"birth":3,"pid":7,"stamp":0,"x":0}`, `{"birth":3,"pid":7,"stamp":0,"stamp":0}`,
		`{"pid":7,"birth":3,"stamp":0}`, `{"birth":3,"stamp":0,"pid":7}`, `{"birth":3, "pid":7,"stamp":0}`, `{"birth":3,"pid":7,"stamp":0} `, ` {"birth":3,"pid":7,"stamp":0}`, "{\"birth\":3,\"pid\":7,\"stamp\":0}\n",
		`{"birth":"3","pid":7,"stamp":0}`, `{"birth":3.0,"pid":7,"stamp":0}`, `{"birth":3e0,"pid":7,"stamp":0}`, `{"birth":3,"pid":7,"stamp":-0}`, `{"birth":3,"pid":7,"stamp":null}`, `{"birth":3,"pid":7,"stamp":""}`, `{"birth":3,"pid":7,"stamp":false}`, `{"birth":3,"pid":7,"stamp":[]}`,
		`{"b\u0069rth":3,"pid":7,"stamp":0}`, `[{"birth":3,"pid":7,"stamp":0}]`, `{"moves":[]}`, `{"mounts":[]}`,
	)
	claims().onlyText(t, api.Claim{Pid: 7, Birth: 3})
	claims().onlyText(t, api.Claim{Pid: maxCount, Birth: 10, Stamp: maxCount})
}

// toldMoves is the text of moves, in which layer 4 quotes the paths.
func toldMoves(l []api.Move) string {
	var texts []string
	for _, m := range l {
		from, _ := quote.Quote(m.From)
		to, _ := quote.Quote(m.To)
		texts = append(texts, `{"from":`+from+`,"to":`+to+`}`)
	}
	return `{"moves":[` + strings.Join(texts, ",") + `]}`
}

func TestRc2Moves(t *testing.T) {
	moves().has(t, nil, `{"moves":[]}`)
	moves().has(t, []api.Move{}, `{"moves":[]}`)
	moves().has(t, []api.Move{{From: "tmp/1", To: "db/l"}}, `{"moves":[{"from":"tmp/1","to":"db/l"}]}`)
	moves().has(t, []api.Move{{From: "b", To: "b"}, {From: "a", To: "b"}, {From: "a", To: "b"}}, `{"moves":[{"from":"b","to":"b"},{"from":"a","to":"b"},{"from":"a","to":"b"}]}`)
	moves().has(t, []api.Move{{From: "\n\"\\/\x00", To: "\x7f\u00e9<>&\u2028\U0001f600"}}, `{"moves":[{"from":"\n\"\\/\u0000","to":"\u007f`+"\u00e9<>&\u2028\U0001f600"+`"}]}`)
	for _, path := range []string{"a", "/", ".", "..", " ", "\x00", "\xc3\xa9", strings.Repeat("p", 96), strings.Repeat("\x01", 96), strings.Repeat("\u00e9", 48), strings.Repeat("\u20ac", 32), strings.Repeat("\U0010ffff", 24)} {
		for _, m := range []api.Move{{From: path, To: "a"}, {From: "a", To: path}, {From: path, To: path}} {
			moves().has(t, []api.Move{m}, toldMoves([]api.Move{m}))
		}
	}
	for _, path := range []string{"", strings.Repeat("p", 97), strings.Repeat("\u00e9", 48) + "p", strings.Repeat("\u00e9", 49), "\xff", "a\x80", "\xed\xa0\x80", "\xc0\x80", "\xf4\x90\x80\x80", "\xe2\x82", strings.Repeat("p", 1<<17)} {
		for _, m := range []api.Move{{From: path, To: "a"}, {From: "a", To: path}, {From: path, To: path}} {
			moves().lacks(t, []api.Move{m}, []api.Move{{From: "a", To: "b"}, m}, []api.Move{m, {From: "a", To: "b"}})
		}
	}
	var l []api.Move
	for i := range 16 {
		moves().has(t, l, toldMoves(l))
		path := fmt.Sprintf("%s%02d", strings.Repeat("\x7f", 94), i)
		l = append(l, api.Move{From: path, To: path})
	}
	moves().has(t, l, toldMoves(l))
	moves().lacks(t, append(l, l[0]), append(l, l...))
}

func TestRc2TakeMoves(t *testing.T) {
	moves().refuses(t, noTexts()...)
	moves().refuses(t,
		`{"moves":null}`, `{"moves":{}}`, `{"moves":""}`, `{"moves":0}`, `{"moves":[[]]}`, `{"moves":[{}]}`, `{"moves":[null]}`, `{"moves":[""]}`, `{"Moves":[]}`, `{"moves":[],"n":0}`, `{"moves":[],"moves":[]}`, `[{"from":"a","to":"b"}]`,
		`{"moves":[{"from":"","to":"b"}]}`, `{"moves":[{"from":"a","to":""}]}`, `{"moves":[{"from":"a"}]}`, `{"moves":[{"to":"a"}]}`, `{"moves":[{"from":"a","to":null}]}`, `{"moves":[{"from":1,"to":2}]}`, `{"moves":[{"from":"a","to":["b"]}]}`, `{"moves":[{"to":"b","from":"a"}]}`,
		`{"moves":[{"from":"a","to":"b","x":0}]}`, `{"moves":[{"from":"\u0061","to":"b"}]}`, `{"moves":[{"from":"\/","to":"b"}]}`, `{"moves":[{"from":"\u000a","to":"b"}]}`, "{\"moves\":[{\"from\":\"\x7f\",\"to\":\"b\"}]}", `{"moves":[{"from":"\u007F","to":"b"}]}`, `{"moves":[{"from":"\ud800","to":"b"}]}`, "{\"moves\":[{\"from\":\"\xff\",\"to\":\"b\"}]}",
		`{"moves":[ ]}`, `{"moves":[]} `, `{"moves":[{"from":"a", "to":"b"}]}`,
		`{"moves":[{"from":"`+strings.Repeat("p", 97)+`","to":"b"}]}`,
		`{"moves":[`+strings.Repeat(`{"from":"a","to":"b"},`, 16)+`{"from":"a","to":"b"}]}`,
		`{"moves":[`+strings.Repeat(`{},`, 20000)+`{}]}`, `{"mounts":[]}`, `{"gen":0,"layers":[]}`, `{"birth":3,"pid":7,"stamp":0}`,
	)
	moves().onlyText(t, nil)
	moves().onlyText(t, []api.Move{{From: "tmp/1", To: "db/l"}, {From: "\n/\x7f", To: "a\u00e9"}})
}

// toldMounts is the text of mounts.
func toldMounts(l []api.Mount) string {
	var texts []string
	for _, m := range l {
		texts = append(texts, fmt.Sprintf(`{"id":"%s","n":%d}`, m.Id, m.N))
	}
	return `{"mounts":[` + strings.Join(texts, ",") + `]}`
}

func TestRc2Mounts(t *testing.T) {
	mounts().has(t, nil, `{"mounts":[]}`)
	mounts().has(t, []api.Mount{}, `{"mounts":[]}`)
	mounts().has(t, []api.Mount{{Id: "000001", N: 2}, {Id: "00000a", N: 1}}, `{"mounts":[{"id":"000001","n":2},{"id":"00000a","n":1}]}`)
	for _, n := range []int{1, 999, 1000, 1001, maxCount - 1, maxCount} {
		l := []api.Mount{{Id: "000001", N: n}}
		mounts().has(t, l, toldMounts(l))
	}
	one := api.Mount{Id: "00000a", N: 1}
	for _, n := range []int{0, -1, maxCount + 1, api.MaxInt, -api.MaxInt - 1} {
		mounts().lacks(t, []api.Mount{{Id: "000001", N: n}}, []api.Mount{{Id: "000001", N: n}, one}, []api.Mount{one, {Id: "0000aa", N: n}})
	}
	for _, id := range []string{"", "1", "00001", "0000010", "00000A", "00000g", "\x00", strings.Repeat("0", 1<<17)} {
		mounts().lacks(t, []api.Mount{{Id: id, N: 1}}, []api.Mount{one, {Id: id, N: 1}}, []api.Mount{{Id: id, N: 1}, one})
	}
	mounts().lacks(t, []api.Mount{one, one}, []api.Mount{one, {Id: "000001", N: 1}}, []api.Mount{{Id: "000000", N: 1}, one, {Id: "00000a", N: 2}}, []api.Mount{{Id: "000000", N: 1}, one, {Id: "000009", N: 2}})
	var l []api.Mount
	for i := range 33 {
		mounts().has(t, l, toldMounts(l))
		l = append(l, api.Mount{Id: fmt.Sprintf("%06x", 0xff00+i), N: maxCount - i})
	}
	mounts().lacks(t, l)
	mounts().has(t, l[1:], toldMounts(l[1:]))
}

func TestRc2TakeMounts(t *testing.T) {
	mounts().refuses(t, noTexts()...)
	mounts().refuses(t,
		`{"mounts":null}`, `{"mounts":{}}`, `{"mounts":""}`, `{"mounts":0}`, `{"mounts":[[]]}`, `{"mounts":[{}]}`, `{"mounts":[null]}`, `{"mounts":[1]}`, `{"mounts":[],"n":0}`, `{"mounts":[],"mounts":[]}`, `[{"id":"000001","n":1}]`,
		`{"mounts":[{"id":"000001","n":0}]}`, `{"mounts":[{"id":"000001","n":-1}]}`, `{"mounts":[{"id":"000001","n":9007199254740993}]}`, `{"mounts":[{"id":"000001","n":"1"}]}`, `{"mounts":[{"id":"000001","n":1.0}]}`, `{"mounts":[{"id":"000001","n":1e0}]}`, `{"mounts":[{"id":"000001"}]}`, `{"mounts":[{"n":1}]}`,
		`{"mounts":[{"id":"00001","n":1}]}`, `{"mounts":[{"id":"","n":1}]}`, `{"mounts":[{"id":"00000A","n":1}]}`, `{"mounts":[{"id":100000,"n":1}]}`, `{"mounts":[{"id":"00000\u0031","n":1}]}`, `{"mounts":[{"n":1,"id":"000001"}]}`, `{"mounts":[{"id":"000001","n":1,"x":0}]}`,
		`{"mounts":[{"id":"000001","n":1},{"id":"000001","n":1}]}`, `{"mounts":[{"id":"000002","n":1},{"id":"000001","n":1}]}`,
		`{"mounts":[ ]}`, `{"mounts":[]} `, `{"mounts":[{"id":"000001", "n":1}]}`, `{"moves":[]}`, `{"birth":3,"pid":7,"stamp":0}`,
		`{"mounts":[`+strings.Repeat(`{},`, 20000)+`{}]}`,
	)
	var l []api.Mount
	for i := range 33 {
		l = append(l, api.Mount{Id: fmt.Sprintf("%06x", i), N: 1})
	}
	mounts().refuses(t, toldMounts(l))
	mounts().onlyText(t, nil)
	mounts().onlyText(t, []api.Mount{{Id: "000001", N: 2}, {Id: "00000a", N: maxCount}})
}

// What is written is read as it was, and unlike things have unlike texts.
func TestRc3Small(t *testing.T) {
	r := rand.New(rand.NewSource(67))
	letters := []rune("ab/.\x00\n\"\\\x7f\u00e9\u20ac\U0001f600")
	path := func() string {
		s := string(letters[r.Intn(len(letters))])
		for range r.Intn(20) {
			s += string(letters[r.Intn(len(letters))])
		}
		return s
	}
	for range 3000 {
		c := api.Claim{Pid: number(r, 1, maxCount), Birth: number(r, 1, maxCount), Stamp: number(r, 0, maxCount)}
		claims().has(t, c, fmt.Sprintf(`{"birth":%d,"pid":%d,"stamp":%d}`, c.Birth, c.Pid, c.Stamp))
		var l []api.Move
		for range r.Intn(17) {
			l = append(l, api.Move{From: path(), To: path()})
		}
		moves().has(t, l, toldMoves(l))
		var m []api.Mount
		for _, id := range someIds(r, r.Intn(33)) {
			m = append(m, api.Mount{Id: id, N: number(r, 1, maxCount)})
		}
		mounts().has(t, m, toldMounts(m))
	}
}

// Arguments stay as they are, with what is behind them, and answers share nothing.
func TestOwnSmall(t *testing.T) {
	all := []api.Move{{From: "c", To: "d"}, {From: "a", To: "b"}, {From: "\xff"}}
	s, _ := record.PutMoves(all[:2])
	if want := []api.Move{{From: "c", To: "d"}, {From: "a", To: "b"}, {From: "\xff"}}; !isSame(all, want) {
		t.Errorf("the moves were changed: %#v", all)
	}
	first, _ := record.TakeMoves(s)
	first[0], first[1] = api.Move{}, api.Move{}
	moves().has(t, all[:2], s)
	some := []api.Mount{{Id: "000001", N: 2}, {Id: "000002", N: 1}, {Id: "000000"}}
	s, _ = record.PutMounts(some[:2])
	if want := []api.Mount{{Id: "000001", N: 2}, {Id: "000002", N: 1}, {Id: "000000"}}; !isSame(some, want) {
		t.Errorf("the mounts were changed: %#v", some)
	}
	second, _ := record.TakeMounts(s)
	second[0], second[1] = api.Mount{}, api.Mount{}
	mounts().has(t, some[:2], s)
}
