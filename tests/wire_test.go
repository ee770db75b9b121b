package tests

import (
	"fmt"
	"math"
	"math/rand/v2"
	"reflect"
	"regexp"
	"slices"
	"strconv"
	"strings"
	"testing"

	"loop.example/g00784/impl"
)

var letterKinds = []int64{impl.LtInit, impl.LtResp, impl.LtCookie, impl.LtData}

var kindWords = map[int64]string{impl.LtInit: "init", impl.LtResp: "resp", impl.LtCookie: "cookie", impl.LtData: "data"}

var kindParts = map[int64]int{impl.LtInit: 3, impl.LtResp: 2, impl.LtCookie: 1, impl.LtData: 1}

// firstRight is what may stand ahead of the parts in a letter's line.
var firstRight = regexp.MustCompile(strings.NewReplacer("END", "[1-9][0-9]{0,2}", "TIME", "(?:0|[1-9][0-9]{0,5}|1000000)").Replace(`\A(?:init END 0 0|resp END END 0|cookie 0 END 0|data 0 END TIME)\z`))

func hasMacs(kind int64) bool {
	return kind == impl.LtInit || kind == impl.LtResp
}

func termByHand(text string) bool {
	return deepByHand(text) > 0
}

// firstByHand is what stands ahead of the parts in the letter's line.
func firstByHand(m impl.Letter) string {
	return fmt.Sprint(kindWords[m.Kind], " ", m.From, " ", m.To, " ", m.Count)
}

// letterByHand says what LetterRight has to say.
func letterByHand(m impl.Letter) bool {
	if !firstRight.MatchString(firstByHand(m)) || len(m.Parts) != kindParts[m.Kind] {
		return false
	}
	for _, part := range m.Parts {
		if !termByHand(part) {
			return false
		}
	}
	switch {
	case m.Mac1 == "" && m.Mac2 == "":
		return true
	case m.Mac1 != "" && m.Mac2 == "":
		return hasMacs(m.Kind) && termByHand(m.Mac1)
	}
	return hasMacs(m.Kind) && termByHand(m.Mac1) && termByHand(m.Mac2)
}

// bodyByHand is the term of the parts.
func bodyByHand(parts []string) string {
	if len(parts) == 1 {
		return parts[0]
	}
	return written("pair", parts[0], bodyByHand(parts[1:]))
}

func gateByHand(lock string) string {
	return written("hash", written("pair", "gate", lock))
}

// signByHand says what Sign has to say, where the lock is no more than MaxBytes.
func signByHand(m impl.Letter, lock string) impl.LetterOut {
	if !letterByHand(m) || !hasMacs(m.Kind) || !termByHand(lock) {
		return impl.LetterOut{Code: impl.ErrForm}
	}
	m.Mac1, m.Mac2 = written("mac", gateByHand(lock), bodyByHand(m.Parts)), ""
	if !termByHand(m.Mac1) {
		return impl.LetterOut{Code: impl.ErrFull}
	}
	return impl.LetterOut{Letter: m}
}

// twiceByHand says what SignTwice has to say, where the cookie is no more than MaxBytes.
func twiceByHand(m impl.Letter, cookie string) impl.LetterOut {
	if !letterByHand(m) || m.Mac1 == "" || !termByHand(cookie) {
		return impl.LetterOut{Code: impl.ErrForm}
	}
	m.Mac2 = written("mac", cookie, written("pair", bodyByHand(m.Parts), m.Mac1))
	if !termByHand(m.Mac2) {
		return impl.LetterOut{Code: impl.ErrFull}
	}
	return impl.LetterOut{Letter: m}
}

// lineByHand says what LetterText has to say.
func lineByHand(m impl.Letter) string {
	if !letterByHand(m) {
		return ""
	}
	line := firstByHand(m) + "|" + strings.Join(m.Parts, "|")
	if hasMacs(m.Kind) {
		line += "|" + m.Mac1 + "|" + m.Mac2
	}
	return line
}

// lineReadByHand says what LetterRead has to say of a text that is no more than MaxBytes.
func lineReadByHand(text string) impl.LetterOut {
	no := impl.LetterOut{Code: impl.ErrSyntax}
	pieces := strings.Split(text, "|")
	if !firstRight.MatchString(pieces[0]) {
		return no
	}
	words := strings.Split(pieces[0], " ")
	var m impl.Letter
	for kind, word := range kindWords {
		if word == words[0] {
			m.Kind = kind
		}
	}
	m.From, _ = strconv.ParseInt(words[1], 10, 64)
	m.To, _ = strconv.ParseInt(words[2], 10, 64)
	m.Count, _ = strconv.ParseInt(words[3], 10, 64)
	m.Parts = pieces[1:]
	if hasMacs(m.Kind) {
		if len(m.Parts) < 2 {
			return no
		}
		last := len(m.Parts) - 2
		m.Mac1, m.Mac2, m.Parts = m.Parts[last], m.Parts[last+1], m.Parts[:last]
	}
	if !letterByHand(m) {
		return no
	}
	return impl.LetterOut{Letter: m}
}

// sampleLetter is a right letter of that kind, without macs.
func sampleLetter(kind int64) impl.Letter {
	switch kind {
	case impl.LtInit:
		return impl.Letter{Kind: kind, From: 7, Parts: []string{"[pub e]", "[shut k m]", "z"}}
	case impl.LtResp:
		return impl.Letter{Kind: kind, From: 8, To: 7, Parts: []string{"[pub f]", "[shut c ok]"}}
	case impl.LtCookie:
		return impl.Letter{Kind: kind, To: 7, Parts: []string{"[shut r [pair a b]]"}}
	}
	return impl.Letter{Kind: kind, To: 7, Count: 12, Parts: []string{"[shut s t]"}}
}

// withParts is m with these parts in place of its own.
func withParts(m impl.Letter, parts ...string) impl.Letter {
	m.Parts = parts
	return m
}

func withMacs(m impl.Letter, mac1, mac2 string) impl.Letter {
	m.Mac1, m.Mac2 = mac1, mac2
	return m
}

// sameLetter: an empty list and none are the same.
func sameLetter(one, other impl.Letter) bool {
	parts := slices.Equal(one.Parts, other.Parts)
	one.Parts, other.Parts = nil, nil
	return parts && reflect.DeepEqual(one, other)
}

// shortLetter tells of a letter what fits in a line.
func shortLetter(m impl.Letter) string {
	text := fmt.Sprintf("%+v", m)
	return text[:min(len(text), 300)]
}

func wantLetter(t *testing.T, what string, got, want impl.LetterOut) {
	t.Helper()
	if got.Code != want.Code || !sameLetter(got.Letter, want.Letter) {
		t.Errorf("%s: got code %d and %s, want code %d and %s", what, got.Code, shortLetter(got.Letter), want.Code, shortLetter(want.Letter))
	}
}

func wantLetterRefused(t *testing.T, what string, got impl.LetterOut, code int64) {
	t.Helper()
	wantLetter(t, what, got, impl.LetterOut{Code: code})
}

// wantWrongLetter looks at whether all that takes a letter says that this is none.
func wantWrongLetter(t *testing.T, what string, m impl.Letter) {
	t.Helper()
	if impl.LetterRight(m) {
		t.Errorf("%s: LetterRight of %s: it is not", what, shortLetter(m))
	}
	if got := impl.BodyOf(m); got != "" {
		t.Errorf("%s: BodyOf: got %q", what, head(got))
	}
	if got := impl.LetterText(m); got != "" {
		t.Errorf("%s: LetterText: got %q", what, head(got))
	}
	wantLetterRefused(t, what+": Sign", impl.Sign(m, "b"), impl.ErrForm)
	wantLetterRefused(t, what+": SignTwice", impl.SignTwice(m, "c"), impl.ErrForm)
	// What would fit a right letter does not fit this one.
	fit := withMacs(m, m.Mac1, m.Mac2)
	if len(m.Parts) > 0 && m.Mac1 == "" && m.Mac2 == "" {
		fit.Mac1 = written("mac", gateByHand("b"), bodyByHand(m.Parts))
		fit.Mac2 = written("mac", "c", written("pair", bodyByHand(m.Parts), fit.Mac1))
	}
	if impl.Mac1Fits(fit, "b") || impl.Mac2Fits(fit, "c") {
		t.Errorf("%s: a mac of %s fits", what, shortLetter(fit))
	}
}

// wantRightLetter looks at whether all that takes a letter takes this one, whose macs are none yet.
func wantRightLetter(t *testing.T, what string, m impl.Letter) {
	t.Helper()
	if !impl.LetterRight(m) {
		t.Errorf("%s: LetterRight of %s: it is", what, shortLetter(m))
	}
	if got := impl.BodyOf(m); got != bodyByHand(m.Parts) {
		t.Errorf("%s: BodyOf: got %q", what, head(got))
	}
	if got := impl.LetterText(m); got != lineByHand(m) || got == "" {
		t.Errorf("%s: LetterText: got %q", what, head(got))
	}
	wantLetter(t, what+": LetterRead", impl.LetterRead(lineByHand(m)), impl.LetterOut{Letter: m})
	wantLetter(t, what+": Sign", impl.Sign(m, "b"), signByHand(m, "b"))
}

func TestWireConstants(t *testing.T) {
	if impl.LtInit != 1 || impl.LtResp != 2 || impl.LtCookie != 3 || impl.LtData != 4 {
		t.Error("a kind is not the document's")
	}
}

func TestLetterKinds(t *testing.T) {
	for _, kind := range letterKinds {
		wantRightLetter(t, kindWords[kind], sampleLetter(kind))
		for _, wrong := range []int64{0, 5, -1, kind + 4, kind - 5, kind + 1<<32, math.MinInt64, math.MaxInt64} {
			if wrong < 1 || wrong > 4 {
				m := sampleLetter(kind)
				m.Kind = wrong
				wantWrongLetter(t, fmt.Sprintf("kind %d in place of %d", wrong, kind), m)
			}
		}
	}
	wantWrongLetter(t, "the zero letter", impl.Letter{})
	wantWrongLetter(t, "a letter without a kind", impl.Letter{From: 1, To: 1, Parts: []string{"a"}})
}

// TestLetterNumbers has the limits written out here once more, from chapter 5.
func TestLetterNumbers(t *testing.T) {
	end := [2]int64{1, 999}
	none := [2]int64{0, 0}
	limits := map[int64][3][2]int64{
		impl.LtInit:   {end, none, none},
		impl.LtResp:   {end, end, none},
		impl.LtCookie: {none, end, none},
		impl.LtData:   {none, end, {0, 1000000}},
	}
	numbers := []int64{math.MinInt64, -1000, -999, -1, 0, 1, 2, 998, 999, 1000, 999999, 1000000, 1000001, math.MaxInt64}
	for _, kind := range letterKinds {
		for place := range 3 {
			for _, n := range numbers {
				m := sampleLetter(kind)
				*[]*int64{&m.From, &m.To, &m.Count}[place] = n
				what := fmt.Sprintf("%s with %d in place %d", kindWords[kind], n, place)
				if limits[kind][place][0] <= n && n <= limits[kind][place][1] {
					wantRightLetter(t, what, m)
				} else {
					wantWrongLetter(t, what, m)
				}
			}
		}
	}
}

func TestLetterNumberOfParts(t *testing.T) {
	for _, kind := range letterKinds {
		for _, n := range []int{0, 1, 2, 3, 4, 5, impl.MaxList, impl.MaxList + 1} {
			m := withParts(sampleLetter(kind), manyAtoms(n)...)
			what := fmt.Sprintf("%s with %d parts", kindWords[kind], n)
			if n == kindParts[kind] {
				wantRightLetter(t, what, m)
			} else {
				wantWrongLetter(t, what, m)
			}
		}
	}
}

func TestLetterParts(t *testing.T) {
	right := []string{"a", "[dh a b]", longTerm(3000), deepTerm(24)}
	wrong := []string{"", " ", "A", "abcdefghi", "[pair a]", "[dh b a]", "[pub [pub a]]", " a", "a ", "a|b", "|", "a\n", longTerm(3001), deepTerm(25), longTerm(8001)}
	for _, kind := range letterKinds {
		for place := range kindParts[kind] {
			for _, text := range slices.Concat(right, wrong) {
				m := sampleLetter(kind)
				m.Parts[place] = text
				what := fmt.Sprintf("%s with %q of %d bytes at %d", kindWords[kind], head(text), len(text), place)
				if !slices.Contains(right, text) {
					wantWrongLetter(t, what, m)
				} else if len(lineByHand(m)) <= impl.MaxBytes {
					wantRightLetter(t, what, m)
				}
			}
		}
	}
}

func TestLetterMacs(t *testing.T) {
	right := []string{"a", "[mac a b]", "[pub x]", longTerm(3000), deepTerm(24)}
	wrong := []string{" ", "A", "[mac a]", "[mac a b] ", "|", longTerm(3001), deepTerm(25), longTerm(8001)}
	for _, kind := range letterKinds {
		for _, mac := range right {
			for _, m := range []impl.Letter{withMacs(sampleLetter(kind), mac, ""), withMacs(sampleLetter(kind), mac, "b"), withMacs(sampleLetter(kind), "b", mac)} {
				if hasMacs(kind) {
					wantRightLetter(t, "a mac", m)
				} else {
					wantWrongLetter(t, "a mac where none may be", m)
				}
			}
			wantWrongLetter(t, "the second mac without the first", withMacs(sampleLetter(kind), "", mac))
		}
		for _, mac := range wrong {
			wantWrongLetter(t, "a wrong first mac", withMacs(sampleLetter(kind), mac, ""))
			wantWrongLetter(t, "a wrong first mac", withMacs(sampleLetter(kind), mac, "b"))
			wantWrongLetter(t, "a wrong second mac", withMacs(sampleLetter(kind), "b", mac))
			wantWrongLetter(t, "a wrong second mac without the first", withMacs(sampleLetter(kind), "", mac))
		}
	}
}

func TestBodyOf(t *testing.T) {
	for kind, want := range map[int64]string{
		impl.LtInit:   "[pair [pub e] [pair [shut k m] z]]",
		impl.LtResp:   "[pair [pub f] [shut c ok]]",
		impl.LtCookie: "[shut r [pair a b]]",
		impl.LtData:   "[shut s t]",
	} {
		m := sampleLetter(kind)
		if got := impl.BodyOf(m); got != want {
			t.Errorf("BodyOf of %s: got %q, want %q", kindWords[kind], got, want)
		}
		m.To = 1000
		if got := impl.BodyOf(m); got != "" {
			t.Errorf("BodyOf of what is not right: got %q", got)
		}
	}
	signed := withMacs(sampleLetter(impl.LtResp), "x", "y")
	if got := impl.BodyOf(signed); got != "[pair [pub f] [shut c ok]]" {
		t.Errorf("BodyOf of a signed letter: got %q", got)
	}
}

// The document names no empty text for a body that is too big to be a right term.
func TestBodyOfTooBig(t *testing.T) {
	m := withParts(sampleLetter(impl.LtInit), longTerm(3000), longTerm(2999), longTerm(3000))
	if got := impl.BodyOf(m); got != bodyByHand(m.Parts) {
		t.Errorf("BodyOf of long parts: got %d bytes", len(got))
	}
	m = withParts(sampleLetter(impl.LtResp), "a", deepTerm(24))
	if got := impl.BodyOf(m); got != "[pair a "+deepTerm(24)+"]" {
		t.Errorf("BodyOf of deep parts: got %d bytes", len(got))
	}
}

func TestGateKey(t *testing.T) {
	// 19 bytes and 2 of depth come to those of the lock.
	for _, lock := range []string{"b", "[pub b]", "[pair gate [pub b]]", longTerm(2981), deepTerm(22)} {
		if got := impl.GateKey(lock); got != gateByHand(lock) || !impl.TermRight(got) {
			t.Errorf("GateKey(%q): got %q", head(lock), head(got))
		}
	}
	for _, lock := range []string{"", "B", "[pub]", "[pub b] ", longTerm(2982), deepTerm(23), longTerm(3000), deepTerm(24), longTerm(3001), deepTerm(25), longTerm(8000), longTerm(8001)} {
		if got := impl.GateKey(lock); got != "" {
			t.Errorf("GateKey(%q) of %d bytes: got %q", head(lock), len(lock), head(got))
		}
	}
	if len(gateByHand("b")) != 20 {
		t.Error("a GateKey is of another length than it is taken for here")
	}
}

func TestSign(t *testing.T) {
	resp := sampleLetter(impl.LtResp)
	mac := "[mac [hash [pair gate [pub b]]] [pair [pub f] [shut c ok]]]"
	wantLetter(t, "resp", impl.Sign(resp, "[pub b]"), impl.LetterOut{Letter: withMacs(resp, mac, "")})
	init := sampleLetter(impl.LtInit)
	wantLetter(t, "init", impl.Sign(init, "b"), impl.LetterOut{Letter: withMacs(init, "[mac [hash [pair gate b]] [pair [pub e] [pair [shut k m] z]]]", "")})
	// Macs that are there already count for nothing, but must be right.
	wantLetter(t, "signed ahead", impl.Sign(withMacs(resp, "x", ""), "[pub b]"), impl.LetterOut{Letter: withMacs(resp, mac, "")})
	wantLetter(t, "signed twice ahead", impl.Sign(withMacs(resp, "x", "y"), "[pub b]"), impl.LetterOut{Letter: withMacs(resp, mac, "")})
	wantLetterRefused(t, "a wrong mac ahead", impl.Sign(withMacs(resp, "X", ""), "[pub b]"), impl.ErrForm)
	wantLetterRefused(t, "cookie", impl.Sign(sampleLetter(impl.LtCookie), "b"), impl.ErrForm)
	wantLetterRefused(t, "data", impl.Sign(sampleLetter(impl.LtData), "b"), impl.ErrForm)
	for _, lock := range []string{"", "B", "[pub]", "[pub [pub b]]", longTerm(3001), deepTerm(25), longTerm(8000)} {
		wantLetterRefused(t, fmt.Sprintf("a wrong lock of %d bytes", len(lock)), impl.Sign(resp, lock), impl.ErrForm)
	}
}

// A mac by the lock b has 27 bytes, and 1 of depth, more than the body; one of the parts a and b has 36 bytes, and 3 of depth, more than the lock.
func TestSignFull(t *testing.T) {
	for _, c := range []struct {
		parts []string
		lock  string
		code  int64
	}{
		{[]string{longTerm(1000), longTerm(1965)}, "b", impl.OK},
		{[]string{longTerm(1000), longTerm(1966)}, "b", impl.ErrFull},
		{[]string{"a", longTerm(3000)}, "b", impl.ErrFull},
		{[]string{longTerm(3000), longTerm(3000)}, "b", impl.ErrFull},
		{[]string{deepTerm(22), "a"}, "b", impl.OK},
		{[]string{deepTerm(23), "a"}, "b", impl.ErrFull},
		{[]string{"a", deepTerm(24)}, "b", impl.ErrFull},
		{[]string{"a", "b"}, longTerm(2964), impl.OK},
		{[]string{"a", "b"}, longTerm(2965), impl.ErrFull},
		{[]string{"a", "b"}, longTerm(2982), impl.ErrFull},
		{[]string{"a", "b"}, longTerm(3000), impl.ErrFull},
		{[]string{"a", "b"}, deepTerm(21), impl.OK},
		{[]string{"a", "b"}, deepTerm(22), impl.ErrFull},
		{[]string{"a", "b"}, deepTerm(24), impl.ErrFull},
		{[]string{"a", "b", deepTerm(21)}, "b", impl.OK},
		{[]string{"a", "b", deepTerm(22)}, "b", impl.ErrFull},
		{[]string{"a", longTerm(1000), longTerm(1956)}, "b", impl.OK},
		{[]string{"a", longTerm(1000), longTerm(1957)}, "b", impl.ErrFull},
	} {
		kind := int64(impl.LtResp)
		if len(c.parts) == 3 {
			kind = impl.LtInit
		}
		m := withParts(sampleLetter(kind), c.parts...)
		want := signByHand(m, c.lock)
		if want.Code != c.code {
			t.Fatalf("parts of %d bytes, a lock of %d: the second reading has code %d", len(bodyByHand(c.parts)), len(c.lock), want.Code)
		}
		what := fmt.Sprintf("parts of %d bytes, a lock of %d", len(bodyByHand(c.parts)), len(c.lock))
		wantLetter(t, what, impl.Sign(m, c.lock), want)
		// Where nothing can be put there, nothing that stands there fits.
		m.Mac1 = "a"
		if impl.Mac1Fits(m, c.lock) {
			t.Errorf("%s: another mac fits", what)
		}
	}
}

// A text that is too long is looked for ahead of all else.
func TestSignSize(t *testing.T) {
	for _, m := range []impl.Letter{sampleLetter(impl.LtResp), sampleLetter(impl.LtData), {}, withMacs(sampleLetter(impl.LtInit), "a", "b")} {
		for _, text := range []string{longTerm(8001), filler(8001), strings.Repeat("a", 100000)} {
			wantLetterRefused(t, "Sign by too long a lock", impl.Sign(m, text), impl.ErrSize)
			wantLetterRefused(t, "SignTwice by too long a cookie", impl.SignTwice(m, text), impl.ErrSize)
			if impl.Mac1Fits(m, text) || impl.Mac2Fits(m, text) {
				t.Error("a mac fits what is too long")
			}
		}
		for _, text := range []string{longTerm(8000), filler(8000)} {
			wantLetterRefused(t, "Sign by a wrong lock", impl.Sign(m, text), impl.ErrForm)
			wantLetterRefused(t, "SignTwice by a wrong cookie", impl.SignTwice(m, text), impl.ErrForm)
		}
	}
	// A field is not handed in as such, however long it is.
	for _, m := range []impl.Letter{
		withParts(sampleLetter(impl.LtResp), "a", longTerm(8001)),
		withParts(sampleLetter(impl.LtResp), manyAtoms(impl.MaxList+1)...),
		withMacs(sampleLetter(impl.LtResp), longTerm(8001), ""),
		withMacs(sampleLetter(impl.LtResp), "a", longTerm(8001)),
	} {
		wantLetterRefused(t, "Sign of a long field", impl.Sign(m, "b"), impl.ErrForm)
		wantLetterRefused(t, "SignTwice of a long field", impl.SignTwice(m, "b"), impl.ErrForm)
	}
}

func TestSignTwice(t *testing.T) {
	resp := withMacs(sampleLetter(impl.LtResp), "[mac k x]", "")
	mac := "[mac c [pair [pair [pub f] [shut c ok]] [mac k x]]]"
	wantLetter(t, "resp", impl.SignTwice(resp, "c"), impl.LetterOut{Letter: withMacs(resp, "[mac k x]", mac)})
	init := withMacs(sampleLetter(impl.LtInit), "x", "")
	wantLetter(t, "init", impl.SignTwice(init, "[hash c]"), impl.LetterOut{Letter: withMacs(init, "x", "[mac [hash c] [pair [pair [pub e] [pair [shut k m] z]] x]]")})
	wantLetter(t, "signed twice ahead", impl.SignTwice(withMacs(resp, "[mac k x]", "y"), "c"), impl.LetterOut{Letter: withMacs(resp, "[mac k x]", mac)})
	wantLetterRefused(t, "a wrong mac ahead", impl.SignTwice(withMacs(resp, "x", "Y"), "c"), impl.ErrForm)
	for _, kind := range letterKinds {
		wantLetterRefused(t, kindWords[kind]+" without a mac", impl.SignTwice(sampleLetter(kind), "c"), impl.ErrForm)
		if !hasMacs(kind) {
			wantLetterRefused(t, kindWords[kind]+" with a mac", impl.SignTwice(withMacs(sampleLetter(kind), "x", ""), "c"), impl.ErrForm)
		}
	}
	for _, cookie := range []string{"", "C", "[mac]", "[mac a b] ", longTerm(3001), deepTerm(25), longTerm(8000)} {
		wantLetterRefused(t, fmt.Sprintf("a wrong cookie of %d bytes", len(cookie)), impl.SignTwice(resp, cookie), impl.ErrForm)
	}
}

// A mac by the cookie c, of the parts a and b and the mac m, has 26 bytes more than the one of these four that is long in place of short.
func TestSignTwiceFull(t *testing.T) {
	for _, c := range []struct {
		parts  []string
		mac1   string
		cookie string
		code   int64
	}{
		{[]string{"a", "b"}, longTerm(2974), "c", impl.OK},
		{[]string{"a", "b"}, longTerm(2975), "c", impl.ErrFull},
		{[]string{"a", "b"}, longTerm(3000), "c", impl.ErrFull},
		{[]string{"a", longTerm(2974)}, "m", "c", impl.OK},
		{[]string{"a", longTerm(2975)}, "m", "c", impl.ErrFull},
		{[]string{longTerm(3000), longTerm(3000)}, "m", "c", impl.ErrFull},
		{[]string{"a", "b"}, "m", longTerm(2974), impl.OK},
		{[]string{"a", "b"}, "m", longTerm(2975), impl.ErrFull},
		{[]string{"a", "b"}, "m", longTerm(3000), impl.ErrFull},
		{[]string{"a", "b"}, deepTerm(22), "c", impl.OK},
		{[]string{"a", "b"}, deepTerm(23), "c", impl.ErrFull},
		{[]string{"a", deepTerm(21)}, "m", "c", impl.OK},
		{[]string{"a", deepTerm(22)}, "m", "c", impl.ErrFull},
		{[]string{deepTerm(24), "b"}, "m", "c", impl.ErrFull},
		{[]string{"a", "b"}, "m", deepTerm(23), impl.OK},
		{[]string{"a", "b"}, "m", deepTerm(24), impl.ErrFull},
		{[]string{"a", "b", deepTerm(20)}, "m", "c", impl.OK},
		{[]string{"a", "b", deepTerm(21)}, "m", "c", impl.ErrFull},
	} {
		kind := int64(impl.LtResp)
		if len(c.parts) == 3 {
			kind = impl.LtInit
		}
		m := withMacs(withParts(sampleLetter(kind), c.parts...), c.mac1, "")
		want := twiceByHand(m, c.cookie)
		what := fmt.Sprintf("parts of %d bytes, a mac of %d, a cookie of %d", len(bodyByHand(c.parts)), len(c.mac1), len(c.cookie))
		if want.Code != c.code {
			t.Fatalf("%s: the second reading has code %d", what, want.Code)
		}
		wantLetter(t, what, impl.SignTwice(m, c.cookie), want)
		m.Mac2 = "a"
		if impl.Mac2Fits(m, c.cookie) {
			t.Errorf("%s: another mac fits", what)
		}
	}
}

func wantFits(t *testing.T, what string, m impl.Letter, by string, first, second bool) {
	t.Helper()
	if got := impl.Mac1Fits(m, by); got != first {
		t.Errorf("%s: Mac1Fits by %q: got %v", what, head(by), got)
	}
	if got := impl.Mac2Fits(m, by); got != second {
		t.Errorf("%s: Mac2Fits by %q: got %v", what, head(by), got)
	}
}

func TestMacsFit(t *testing.T) {
	for _, kind := range []int64{impl.LtInit, impl.LtResp} {
		m := sampleLetter(kind)
		wantFits(t, "no mac", m, "b", false, false)
		signed := signByHand(m, "b").Letter
		wantFits(t, "signed", signed, "b", true, false)
		wantFits(t, "signed, by another lock", signed, "c", false, false)
		wantFits(t, "signed, by the gate key", signed, gateByHand("b"), false, false)
		wantFits(t, "signed, by no lock", signed, "", false, false)
		wantFits(t, "signed, by what is none", signed, "B", false, false)
		twice := twiceByHand(signed, "b").Letter
		wantFits(t, "signed twice by one", twice, "b", true, true)
		twice = twiceByHand(signed, "c").Letter
		wantFits(t, "signed twice", twice, "b", true, false)
		wantFits(t, "signed twice", twice, "c", false, true)
		wantFits(t, "signed twice, by another", twice, "d", false, false)
		// Each mac is asked for alone: what the other one is counts only as far as it is signed.
		wantFits(t, "another second mac", withMacs(signed, signed.Mac1, "x"), "b", true, false)
		wantFits(t, "another first mac", withMacs(twice, "x", twice.Mac2), "c", false, false)
		wantFits(t, "another first mac that is signed twice", twiceByHand(withMacs(m, "x", ""), "c").Letter, "c", false, true)
		wantFits(t, "the second mac as the first", withMacs(m, twice.Mac2, ""), "c", false, false)
		wantFits(t, "a mac by the lock itself", withMacs(m, written("mac", "b", bodyByHand(m.Parts)), ""), "b", false, false)
		wantFits(t, "a mac of the body alone", withMacs(signed, signed.Mac1, written("mac", "c", bodyByHand(m.Parts))), "c", false, false)
		other := withParts(signed, slices.Clone(m.Parts)...)
		other.Parts[0] = "x"
		wantFits(t, "another part", other, "b", false, false)
		// The numbers are not signed, but must be right.
		twice.From = 999
		wantFits(t, "another number", twice, "c", false, true)
		twice.From = 1000
		wantFits(t, "a wrong number", twice, "c", false, false)
		wantFits(t, "a wrong number", twice, "b", false, false)
	}
	for _, kind := range []int64{impl.LtCookie, impl.LtData} {
		wantFits(t, "a kind without macs", sampleLetter(kind), "b", false, false)
	}
}

func TestLetterText(t *testing.T) {
	init, resp := sampleLetter(impl.LtInit), sampleLetter(impl.LtResp)
	last := impl.Letter{Kind: impl.LtData, To: 999, Count: 1000000, Parts: []string{"a"}}
	for _, c := range []struct {
		m    impl.Letter
		want string
	}{
		{init, "init 7 0 0|[pub e]|[shut k m]|z||"},
		{withMacs(init, "x", ""), "init 7 0 0|[pub e]|[shut k m]|z|x|"},
		{withMacs(init, "x", "[mac y z]"), "init 7 0 0|[pub e]|[shut k m]|z|x|[mac y z]"},
		{resp, "resp 8 7 0|[pub f]|[shut c ok]||"},
		{withMacs(resp, "x", ""), "resp 8 7 0|[pub f]|[shut c ok]|x|"},
		{withMacs(resp, "x", "y"), "resp 8 7 0|[pub f]|[shut c ok]|x|y"},
		{sampleLetter(impl.LtCookie), "cookie 0 7 0|[shut r [pair a b]]"},
		{sampleLetter(impl.LtData), "data 0 7 12|[shut s t]"},
		{last, "data 0 999 1000000|a"},
	} {
		if got := impl.LetterText(c.m); got != c.want {
			t.Errorf("LetterText: got %q, want %q", got, c.want)
		}
		wantLetter(t, c.want, impl.LetterRead(c.want), impl.LetterOut{Letter: c.m})
	}
	long := withMacs(withParts(init, longTerm(3000), longTerm(3000), longTerm(3000)), longTerm(3000), longTerm(3000))
	if got := impl.LetterText(long); got != lineByHand(long) || len(got) != 15015 {
		t.Errorf("LetterText of the longest: got %d bytes", len(got))
	}
}

func wrongLines() []string {
	return strings.Split(`
init
init 7 0 0
init 7 0 0|a|b|c
init 7 0 0|a|b|c|
init 7 0 0|a|b|c|||
init 7 0 0|a|b||
init 7 0 0|a|b|c|d||
init 7 0 0|a|b|c||y
init 7 0 0|a|b|c|X|
init 7 0 0|a|b|c|x|Y
init 7 0 0|a|b|c|x |
init 7 0 0||b|c||
init 7 0 0 |a|b|c||
init 7 0 0| a|b|c||
init 7 0 0 a|b|c||
init 7 0|a|b|c||
init 7 0 0 0|a|b|c||
init 7  0 0|a|b|c||
init  7 0 0|a|b|c||
 init 7 0 0|a|b|c||
init	7 0 0|a|b|c||
init|7 0 0|a|b|c||
init|7|0|0|a|b|c||
|init 7 0 0|a|b|c||
init 7 0 0||a|b|c||
init 7 0 0|a|b|c|| `+`
init 0 0 0|a|b|c||
init 1000 0 0|a|b|c||
init 07 0 0|a|b|c||
init 007 0 0|a|b|c||
init +7 0 0|a|b|c||
init -7 0 0|a|b|c||
init 7. 0 0|a|b|c||
init 7_0 0 0|a|b|c||
init 0x7 0 0|a|b|c||
init 18446744073709551623 0 0|a|b|c||
init  0 0|a|b|c||
init 7 00 0|a|b|c||
init 7 -0 0|a|b|c||
init 7 +0 0|a|b|c||
init 7 x 0|a|b|c||
init 7  0|a|b|c||
init 7 0 |a|b|c||
init 7 0 00|a|b|c||
init 7 0 -0|a|b|c||
init 7 0 x|a|b|c||
init 7 1 0|a|b|c||
init 7 0 1|a|b|c||
resp 8 0 0|a|b||
resp 0 7 0|a|b||
resp 8 07 0|a|b||
resp 8 7 0|a||
resp 8 7 0|a|b|c||
resp 8 7 0|a|b
resp 8 7 0|a|b|
resp 8 7 0|a|b|||
resp 8 7 1|a|b||
cookie 0 7 0
cookie 0 7 0|
cookie 0 7 0|a|
cookie 0 7 0|a||
cookie 0 7 0|a|x|
cookie 0 7 0|a|x|y
cookie 0 7 0|A
cookie 1 7 0|a
cookie 0 0 0|a
cookie 0 7 1|a
cookie 00 7 0|a
data 0 7 12
data 0 7 12|
data 0 7 12|a|
data 0 7 12|a||
data 0 7 12|a|b
data 0 7 012|a
data 0 7 +12|a
data 0 7 -12|a
data 0 7 1000001|a
data 0 7 1e3|a
data 0 1000 12|a
data 1 7 12|a
date 0 7 12|a
data0 7 12|a
Data 0 7 12|a
DATA 0 7 12|a
dat 0 7 12|a
datas 0 7 12|a
4 0 7 12|a
 0 7 12|a
0 7 12|a
letter 0 7 12|a
 0 0 0|
 0 0 0
0 0 0 0|
|
||||
data 0 7 12|[shut s t
data 0 7 12|[shut s t]]
data 0 7 12|[shut s  t]
data 0 7 12|[pair a|b]`, "\n")
}

func TestLetterReadSyntax(t *testing.T) {
	lines := append(wrongLines(), "data 0 7 12|a\n", "\ndata 0 7 12|a", "data 0 7 12|a\r\n", "data 0 7 12|a\x00", "data\u00a00 7 12|a", "data 0 7 12\n|a", "data 0 7 \uff11|a")
	lines = append(lines, "data 0 7 12|"+longTerm(3001), "data 0 7 12|"+deepTerm(25), strings.Repeat("|", 8000), strings.Repeat(" ", 8000), filler(8000))
	for _, line := range lines {
		wantLetterRefused(t, fmt.Sprintf("LetterRead(%.60q)", line), impl.LetterRead(line), impl.ErrSyntax)
		if got := lineReadByHand(line); got.Code != impl.ErrSyntax {
			t.Errorf("%.60q: the second reading reads it", line)
		}
	}
	for _, line := range []string{"init 7 0 0|a|b|c||", "resp 8 7 0|a|b||", "cookie 0 7 0|a", "data 0 7 12|a", "data 0 7 0|a"} {
		if got := impl.LetterRead(line); got.Code != impl.OK || impl.LetterText(got.Letter) != line {
			t.Errorf("LetterRead(%q): got %+v", line, got)
		}
	}
}

func TestLetterReadSize(t *testing.T) {
	init := withMacs(withParts(sampleLetter(impl.LtInit), longTerm(3000), longTerm(3000), "a"), "m", "")
	fill := 8000 - len(lineByHand(init))
	init.Mac2 = longTerm(fill)
	line := lineByHand(init)
	if len(line) != 8000 || impl.LetterText(init) != line {
		t.Fatalf("a line of %d bytes, not of 8000", len(line))
	}
	wantLetter(t, "a line of 8000 bytes", impl.LetterRead(line), impl.LetterOut{Letter: init})
	init.Mac2 = longTerm(fill + 1)
	line = impl.LetterText(init)
	if len(line) != 8001 || line != lineByHand(init) {
		t.Fatalf("a line of %d bytes, not of 8001", len(line))
	}
	wantLetterRefused(t, "a line of 8001 bytes", impl.LetterRead(line), impl.ErrSize)
	wantLetterRefused(t, "a longer line", impl.LetterRead(line+line), impl.ErrSize)
	for _, fill := range []string{" ", "|", "x", "\n"} {
		wantLetterRefused(t, "8000 bytes of no line", impl.LetterRead(strings.Repeat(fill, 8000)), impl.ErrSyntax)
		wantLetterRefused(t, "8001 bytes of no line", impl.LetterRead(strings.Repeat(fill, 8001)), impl.ErrSize)
	}
}

// anyLetter is a right letter, with macs now and then.
func anyLetter(r *rand.Rand) impl.Letter {
	kind := letterKinds[r.IntN(4)]
	m := impl.Letter{Kind: kind, From: 1 + r.Int64N(999), To: 1 + r.Int64N(999)}
	switch kind {
	case impl.LtInit:
		m.To = 0
	case impl.LtCookie:
		m.From = 0
	case impl.LtData:
		m.From, m.Count = 0, r.Int64N(1000001)>>r.IntN(21)
	}
	for range kindParts[kind] {
		m.Parts = append(m.Parts, anyTerm(r, 1+r.IntN(5)))
	}
	if hasMacs(kind) && r.IntN(2) == 0 {
		m.Mac1 = anyTerm(r, 3)
		if r.IntN(2) == 0 {
			m.Mac2 = anyTerm(r, 3)
		}
	}
	return m
}

// spoiled is m with one field other than it was: right still, now and then.
func spoiled(r *rand.Rand, m impl.Letter) impl.Letter {
	m.Parts = slices.Clone(m.Parts)
	numbers := []int64{-1, 0, 1, 999, 1000, 1000000, 1000001}
	n := numbers[r.IntN(len(numbers))]
	switch r.IntN(8) {
	case 0:
		m.Kind = r.Int64N(7) - 1
	case 1:
		m.From = n
	case 2:
		m.To = n
	case 3:
		m.Count = n
	case 4:
		m.Parts = append(m.Parts, "a")
	case 5:
		at := r.IntN(len(m.Parts))
		m.Parts[at] = turned(r, m.Parts[at])
	case 6:
		m.Mac1 = []string{"", "a", "A"}[r.IntN(3)]
	case 7:
		m.Mac2 = []string{"", "a", "A"}[r.IntN(3)]
	}
	return m
}

// Any letter, right or not, against the second reading of each function.
func TestLettersByHand(t *testing.T) {
	r := rand.New(rand.NewPCG(21, 22))
	right := 0
	for range 10000 {
		m := anyLetter(r)
		for range r.IntN(3) {
			m = spoiled(r, m)
		}
		want := letterByHand(m)
		if want {
			right++
		}
		body := ""
		if want {
			body = bodyByHand(m.Parts)
		}
		if impl.LetterRight(m) != want || impl.BodyOf(m) != body || impl.LetterText(m) != lineByHand(m) {
			t.Fatalf("%+v: got %v, %q, %q", m, impl.LetterRight(m), impl.BodyOf(m), impl.LetterText(m))
		}
		by := turned(r, anyTerm(r, 2))
		if r.IntN(2) == 0 {
			by = anyTerm(r, 3)
		}
		wantLetter(t, fmt.Sprintf("Sign(%+v, %q)", m, by), impl.Sign(m, by), signByHand(m, by))
		wantLetter(t, fmt.Sprintf("SignTwice(%+v, %q)", m, by), impl.SignTwice(m, by), twiceByHand(m, by))
	}
	if right < 2000 || right > 8000 {
		t.Errorf("%d of 10000 were right: too few of one sort", right)
	}
}

// turnedLine is a line with one byte, or one piece, more, fewer or other.
func turnedLine(r *rand.Rand, line string) string {
	pieces := []string{" ", "|", "||", "0", "1", "+", "-", "a", "A", "\n", "init", "resp", "cookie", "data", "|a", " 0", ""}
	at := r.IntN(len(line) + 1)
	if r.IntN(2) == 0 {
		at = min(at, r.IntN(16))
	}
	end := min(len(line), at+r.IntN(3))
	return line[:at] + pieces[r.IntN(len(pieces))] + line[end:]
}

func TestLinesOfAnyShape(t *testing.T) {
	r := rand.New(rand.NewPCG(23, 24))
	right := 0
	for range 20000 {
		line := lineByHand(anyLetter(r))
		for range r.IntN(3) {
			line = turnedLine(r, line)
		}
		want := lineReadByHand(line)
		if want.Code == impl.OK {
			right++
		}
		wantLetter(t, fmt.Sprintf("LetterRead(%q)", line), impl.LetterRead(line), want)
	}
	if right < 4000 || right > 16000 {
		t.Errorf("%d of 20000 were right: too few of one sort", right)
	}
}

// Promise 5: a right letter comes back from its text, where that is no more than MaxBytes bytes.
func TestPromise5ComesBack(t *testing.T) {
	r := rand.New(rand.NewPCG(25, 26))
	for range 5000 {
		m := anyLetter(r)
		if r.IntN(10) == 0 {
			m.Parts[0] = longTerm(1 + r.IntN(3000))
		}
		if r.IntN(10) == 0 && m.Mac1 != "" {
			m.Mac1 = longTerm(1 + r.IntN(3000))
		}
		line := impl.LetterText(m)
		wantLetter(t, fmt.Sprintf("%.200q", line), impl.LetterRead(line), impl.LetterOut{Letter: m})
	}
}

// Promise 5: what is signed fits the lock it is signed with, and no other one; likewise twice.
func TestPromise5Fits(t *testing.T) {
	r := rand.New(rand.NewPCG(27, 28))
	signed, others := 0, 0
	for range 5000 {
		m := anyLetter(r)
		lock, other, cookie := anyTerm(r, 3), anyTerm(r, 3), anyTerm(r, 3)
		if r.IntN(2) == 0 {
			lock = written("pub", anyAtom(r))
			other = written("pub", anyAtom(r))
		}
		first := impl.Sign(m, lock)
		if first.Code != impl.OK {
			continue
		}
		signed++
		second := impl.SignTwice(first.Letter, cookie)
		if second.Code != impl.OK || !impl.LetterRight(first.Letter) || !impl.LetterRight(second.Letter) {
			t.Fatalf("%+v, signed by %s and %s, is not right: %+v", m, lock, cookie, second)
		}
		wantFits(t, "signed", first.Letter, lock, true, false)
		if !impl.Mac1Fits(second.Letter, lock) || !impl.Mac2Fits(second.Letter, cookie) {
			t.Fatalf("%+v does not fit %s and %s", second.Letter, lock, cookie)
		}
		if other != lock {
			others++
			if impl.Mac1Fits(first.Letter, other) || impl.Mac1Fits(second.Letter, other) {
				t.Fatalf("%+v, signed by %s, fits %s", second.Letter, lock, other)
			}
		}
		if other != cookie && impl.Mac2Fits(second.Letter, other) {
			t.Fatalf("%+v, signed twice by %s, fits %s", second.Letter, cookie, other)
		}
	}
	if signed < 1000 || others < 1000 {
		t.Errorf("%d were signed, %d with another lock beside: too few to tell", signed, others)
	}
}

func TestLettersKeepWhatTheyAreGiven(t *testing.T) {
	parts := append(make([]string, 0, 8), "[pub eee]", "[shut kk mm]", "zzz")
	parts[:4][3] = "behind"
	m := withMacs(withParts(sampleLetter(impl.LtInit), parts...), "first", "second")
	before, want := slices.Clone(parts[:4]), impl.Sign(m, "[pub b]")
	line := impl.LetterText(m)
	one, two, read, again := impl.Sign(m, "[pub b]"), impl.SignTwice(m, "cook"), impl.LetterRead(line), impl.LetterRead(line)
	wantLetter(t, "LetterRead", read, impl.LetterOut{Letter: m})
	handed := append([]string{m.Mac1, m.Mac2, line}, parts...)
	for _, told := range []impl.Letter{one.Letter, two.Letter, read.Letter} {
		if sameBytes(append([]string{told.Mac1, told.Mac2}, told.Parts...), handed) {
			t.Error("what is told shares memory with what was handed in")
		}
		for i := range told.Parts[:cap(told.Parts)] {
			told.Parts[:cap(told.Parts)][i] = "changed"
		}
	}
	data := withParts(sampleLetter(impl.LtData), "[hash x]")
	if sameBytes([]string{impl.BodyOf(data)}, data.Parts) {
		t.Error("the body shares memory with the part")
	}
	wantList(t, "what was handed in", parts[:4], before)
	wantLetter(t, "Sign again", impl.Sign(m, "[pub b]"), want)
	wantLetter(t, "LetterRead ahead of the change", again, impl.LetterOut{Letter: m})
}
