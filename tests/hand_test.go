package tests

import (
	"fmt"
	"maps"
	"math"
	"math/rand/v2"
	"regexp"
	"slices"
	"strings"
	"testing"

	"loop.example/g00784/impl"
)

var wholeLock = regexp.MustCompile(`\A\[pub ([a-z0-9]{1,8})\]\z`)

func endByHand(n int64) bool {
	return n >= 1 && n <= 999
}

func pubByHand(atom string) string {
	return written("pub", atom)
}

// dhByHand is the dh of a secret and a lock, which are right.
func dhByHand(secret, lock string) string {
	l := []string{secret, wholeLock.FindStringSubmatch(lock)[1]}
	slices.Sort(l)
	return written("dh", l...)
}

// allByHand mixes all these, one after the other, whether what comes of it is right or not.
func allByHand(chain string, things ...string) string {
	for _, thing := range things {
		chain = written("hash", written("pair", chain, thing))
	}
	return chain
}

// insideByHand is what stands in a shut, if it begins with that key.
func insideByHand(key, part string) (string, bool) {
	inside, ok := strings.CutPrefix(part, "[shut "+key+" ")
	return strings.TrimSuffix(inside, "]"), ok
}

// keysByHand are the keys of who sends by that word, and hears by that one.
func keysByHand(chain, send, hear string) impl.Keys {
	return impl.Keys{Send: allByHand(chain, send), Hear: allByHand(chain, hear), Chain: chain}
}

// wholeByHand is out, or ErrFull, if one of the terms that were made for it is not right.
func wholeByHand(out impl.HandOut, made ...string) impl.HandOut {
	for _, term := range made {
		if !termByHand(term) {
			return impl.HandOut{Code: impl.ErrFull}
		}
	}
	return out
}

func anyTooLong(texts ...string) bool {
	return slices.ContainsFunc(texts, func(text string) bool { return len(text) > 8000 })
}

// mixByHand says what Mix has to say.
func mixByHand(chain, thing string) string {
	if mixed := allByHand(chain, thing); termByHand(chain) && termByHand(thing) && termByHand(mixed) {
		return mixed
	}
	return ""
}

// initByHand says what InitMake has to say.
func initByHand(from int64, me, lock, eph, stamp string) impl.HandOut {
	if anyTooLong(me, lock, eph, stamp) {
		return impl.HandOut{Code: impl.ErrSize}
	}
	if !endByHand(from) || !atomByHand(me) || !wholeLock.MatchString(lock) || !atomByHand(eph) || !termByHand(stamp) {
		return impl.HandOut{Code: impl.ErrForm}
	}
	c2 := allByHand(written("hash", lock), pubByHand(eph), dhByHand(eph, lock))
	c3 := allByHand(c2, dhByHand(me, lock))
	parts := []string{pubByHand(eph), written("shut", c2, pubByHand(me)), written("shut", c3, stamp)}
	m := impl.Letter{Kind: impl.LtInit, From: from, Parts: parts, Mac1: written("mac", gateByHand(lock), bodyByHand(parts))}
	return wholeByHand(impl.HandOut{Letter: m, Eph: eph, Chain: c3}, append(parts, m.Mac1)...)
}

// initReadByHand says what InitRead has to say.
func initReadByHand(me string, m impl.Letter) impl.HandOut {
	switch {
	case anyTooLong(me):
		return impl.HandOut{Code: impl.ErrSize}
	case !atomByHand(me) || m.Kind != 1 || !letterByHand(m):
		return impl.HandOut{Code: impl.ErrForm}
	case !wholeLock.MatchString(m.Parts[0]):
		return impl.HandOut{Code: impl.ErrSyntax}
	}
	eph := m.Parts[0]
	c2 := allByHand(written("hash", pubByHand(me)), eph, dhByHand(me, eph))
	peer, ok := insideByHand(c2, m.Parts[1])
	if !ok || !wholeLock.MatchString(peer) {
		return impl.HandOut{Code: impl.ErrSum}
	}
	c3 := allByHand(c2, dhByHand(me, peer))
	stamp, ok := insideByHand(c3, m.Parts[2])
	if !ok {
		return impl.HandOut{Code: impl.ErrSum}
	}
	return impl.HandOut{Peer: peer, Stamp: stamp, Eph: eph, Chain: c3}
}

// respByHand says what RespMake has to say.
func respByHand(from, to int64, eph, peer, theirs, chain, lock string) impl.HandOut {
	if anyTooLong(eph, peer, theirs, chain, lock) {
		return impl.HandOut{Code: impl.ErrSize}
	}
	for _, text := range []string{peer, theirs, lock} {
		if !wholeLock.MatchString(text) {
			return impl.HandOut{Code: impl.ErrForm}
		}
	}
	if !endByHand(from) || !endByHand(to) || !atomByHand(eph) || !termByHand(chain) {
		return impl.HandOut{Code: impl.ErrForm}
	}
	c6 := allByHand(chain, pubByHand(eph), dhByHand(eph, theirs), dhByHand(eph, peer))
	parts := []string{pubByHand(eph), written("shut", c6, "ok")}
	m := impl.Letter{Kind: impl.LtResp, From: from, To: to, Parts: parts, Mac1: written("mac", gateByHand(peer), bodyByHand(parts))}
	keys := keysByHand(c6, "two", "one")
	return wholeByHand(impl.HandOut{Letter: m, Chain: c6, Keys: keys}, keys.Send, keys.Hear, parts[1], m.Mac1)
}

// respReadByHand says what RespRead has to say.
func respReadByHand(me, eph, chain string, m impl.Letter) impl.HandOut {
	switch {
	case anyTooLong(me, eph, chain):
		return impl.HandOut{Code: impl.ErrSize}
	case !atomByHand(me) || !atomByHand(eph) || !termByHand(chain) || m.Kind != 2 || !letterByHand(m):
		return impl.HandOut{Code: impl.ErrForm}
	case !wholeLock.MatchString(m.Parts[0]):
		return impl.HandOut{Code: impl.ErrSyntax}
	}
	c6 := allByHand(chain, m.Parts[0], dhByHand(eph, m.Parts[0]), dhByHand(me, m.Parts[0]))
	if m.Parts[1] != written("shut", c6, "ok") {
		return impl.HandOut{Code: impl.ErrSum}
	}
	keys := keysByHand(c6, "one", "two")
	return wholeByHand(impl.HandOut{Chain: c6, Keys: keys}, keys.Send, keys.Hear)
}

// sameHand: an empty list and none are the same.
func sameHand(one, other impl.HandOut) bool {
	letters := sameLetter(one.Letter, other.Letter)
	one.Letter, other.Letter = impl.Letter{}, impl.Letter{}
	return letters && fmt.Sprintf("%+v", one) == fmt.Sprintf("%+v", other)
}

func wantHand(t *testing.T, what string, got, want impl.HandOut) {
	t.Helper()
	if !sameHand(got, want) {
		t.Errorf("%s: got code %d and %s, want code %d and %s", what, got.Code, shortHand(got), want.Code, shortHand(want))
	}
}

func shortHand(out impl.HandOut) string {
	text := fmt.Sprintf("%+v", out)
	return text[:min(len(text), 600)]
}

// wantHandRefused looks at whether the code is told, and nothing beside it.
func wantHandRefused(t *testing.T, what string, got impl.HandOut, code int64) {
	t.Helper()
	wantHand(t, what, got, impl.HandOut{Code: code})
}

// asked is what InitMake is given.
type asked struct {
	from                 int64
	me, lock, eph, stamp string
}

func sampleAsked() asked {
	return asked{from: 3, me: "a", lock: "[pub b]", eph: "e", stamp: "17"}
}

func (x asked) make() impl.HandOut {
	return impl.InitMake(x.from, x.me, x.lock, x.eph, x.stamp)
}

func (x asked) byHand() impl.HandOut {
	return initByHand(x.from, x.me, x.lock, x.eph, x.stamp)
}

// texts are the places of all that is a text.
func (x *asked) texts() map[string]*string {
	return map[string]*string{"me": &x.me, "lock": &x.lock, "eph": &x.eph, "stamp": &x.stamp}
}

// answer is what RespMake is given.
type answer struct {
	from, to                       int64
	eph, peer, theirs, chain, lock string
}

// sampleAnswer answers sampleAsked.
func sampleAnswer() answer {
	return answer{from: 4, to: 3, eph: "f", peer: "[pub a]", theirs: "[pub e]", chain: sampleAsked().byHand().Chain, lock: "[pub b]"}
}

func (x answer) make() impl.HandOut {
	return impl.RespMake(x.from, x.to, x.eph, x.peer, x.theirs, x.chain, x.lock)
}

func (x answer) byHand() impl.HandOut {
	return respByHand(x.from, x.to, x.eph, x.peer, x.theirs, x.chain, x.lock)
}

func (x *answer) texts() map[string]*string {
	return map[string]*string{"eph": &x.eph, "peer": &x.peer, "theirs": &x.theirs, "chain": &x.chain, "lock": &x.lock}
}

// heard is what RespRead is given.
type heard struct {
	me, eph, chain string
	letter         impl.Letter
}

// sampleHeard hears sampleAnswer.
func sampleHeard() heard {
	return heard{me: "a", eph: "e", chain: sampleAsked().byHand().Chain, letter: sampleAnswer().byHand().Letter}
}

func (x heard) read() impl.HandOut {
	return impl.RespRead(x.me, x.eph, x.chain, x.letter)
}

func (x heard) byHand() impl.HandOut {
	return respReadByHand(x.me, x.eph, x.chain, x.letter)
}

func (x *heard) texts() map[string]*string {
	return map[string]*string{"me": &x.me, "eph": &x.eph, "chain": &x.chain}
}

// wrongSecrets are texts that are no secrets, and no more than MaxBytes bytes.
func wrongSecrets() []string {
	return []string{"", "A", "a ", " a", "a_", "a\n", "abcdefghi", "[pub a]", "[hash a]", "a b", "é", longTerm(3000), deepTerm(24), strings.Repeat("a", 8000)}
}

// wrongLocks are texts that are no locks, and no more than MaxBytes bytes.
func wrongLocks() []string {
	return []string{"", "a", "pub", "[pub ]", "[pub]", "[pub A]", "[pub a ]", " [pub a]", "[pub a] ", "[pub a", "pub a]", "[pub a b]", "[pub abcdefghi]", "[pub [pub a]]", "[hash a]", "[hash [pub a]]", "[pair a b]", "[dh a b]", "[mac a b]", "[shut a b]", longTerm(3000), deepTerm(24), strings.Repeat("a", 8000)}
}

// wrongTerms are texts that are no right terms, and no more than MaxBytes bytes.
func wrongTerms() []string {
	return []string{"", "A", "a ", " a", "a_", "abcdefghi", "[pub ]", "[dh b a]", "[hash a] ", "[pair a]", "[hash a", "hash a]", "a|b", longTerm(3001), deepTerm(25), strings.Repeat("a", 8000)}
}

// wrongFor are texts that are wrong in the place of that name.
func wrongFor(name string) []string {
	switch name {
	case "me", "eph":
		return wrongSecrets()
	case "lock", "peer", "theirs":
		return wrongLocks()
	}
	return wrongTerms()
}

// wrongEnds are numbers that are no ends.
func wrongEnds() []int64 {
	return []int64{0, 1000, -1, -999, 1001, 1 << 32, 1<<32 + 1, math.MaxInt64, math.MinInt64}
}

func TestMix(t *testing.T) {
	for _, c := range [][3]string{
		{"a", "b", "[hash [pair a b]]"},
		{"b", "a", "[hash [pair b a]]"},
		{"a", "a", "[hash [pair a a]]"},
		{"[hash [pub b]]", "[pub e]", "[hash [pair [hash [pub b]] [pub e]]]"},
		{"[dh a b]", "two", "[hash [pair [dh a b] two]]"},
	} {
		if got := impl.Mix(c[0], c[1]); got != c[2] {
			t.Errorf("Mix(%q, %q): got %q, want %q", c[0], c[1], got, c[2])
		}
	}
}

func TestMixOfWrong(t *testing.T) {
	for _, wrong := range append(wrongTerms(), strings.Repeat("a", 8001), longTerm(8001)) {
		for _, c := range [][2]string{{wrong, "a"}, {"a", wrong}, {wrong, wrong}} {
			if got := impl.Mix(c[0], c[1]); got != "" {
				t.Errorf("Mix(%q, %q): got %q", head(c[0]), head(c[1]), head(got))
			}
		}
	}
}

// TestMixLimits has what is mixed as big as it may be, and a little bigger: it is 15 bytes and a blank
// more than both, and two deeper.
func TestMixLimits(t *testing.T) {
	for size := 2978; size <= 3000; size++ {
		for _, c := range [][2]string{{longTerm(size), "a"}, {"a", longTerm(size)}, {longTerm(1490), longTerm(size - 1490)}} {
			got := impl.Mix(c[0], c[1])
			if want := mixByHand(c[0], c[1]); got != want || (got == "") != (len(c[0])+len(c[1]) > 2985) {
				t.Errorf("Mix of %d and %d bytes: got %d bytes, want %d", len(c[0]), len(c[1]), len(got), len(want))
			}
		}
	}
	for deep := 18; deep <= 24; deep++ {
		for _, c := range [][2]string{{deepTerm(deep), "a"}, {"a", deepTerm(deep)}, {deepTerm(deep), deepTerm(deep)}} {
			got := impl.Mix(c[0], c[1])
			if want := mixByHand(c[0], c[1]); got != want || (got == "") != (deep > 22) {
				t.Errorf("Mix of what is %d deep: got %q, want %q", deep, got, want)
			}
		}
	}
}

func TestInitMake(t *testing.T) {
	c2 := "[hash [pair [hash [pair [hash [pub b]] [pub e]]] [dh b e]]]"
	c3 := "[hash [pair " + c2 + " [dh a b]]]"
	parts := []string{"[pub e]", "[shut " + c2 + " [pub a]]", "[shut " + c3 + " 17]"}
	m := impl.Letter{Kind: impl.LtInit, From: 3, Parts: parts}
	m.Mac1 = "[mac [hash [pair gate [pub b]]] [pair " + parts[0] + " [pair " + parts[1] + " " + parts[2] + "]]]"
	wantHand(t, "InitMake", sampleAsked().make(), impl.HandOut{Letter: m, Eph: "e", Chain: c3})
}

func TestInitMakeOrdinary(t *testing.T) {
	for _, x := range []asked{
		{1, "a", "[pub b]", "e", "0"},
		{999, "a", "[pub b]", "e", "1000000"},
		{12, "zzzzzzzz", "[pub 00000000]", "abcdefgh", "[pair 1 [hash 2]]"},
		{12, "b", "[pub a]", "0", "[shut k m]"},
		{5, "a", "[pub a]", "a", "a"},
		{5, "a", "[pub a]", "b", "[pub a]"},
		{5, "a", "[pub b]", "a", "t"},
		{5, "a", "[pub b]", "b", "[dh a b]"},
	} {
		want := x.byHand()
		if want.Code != impl.OK || !impl.LetterRight(want.Letter) || !impl.Mac1Fits(want.Letter, x.lock) {
			t.Errorf("%+v: what is wanted is %s", x, shortHand(want))
		}
		wantHand(t, fmt.Sprintf("InitMake of %+v", x), x.make(), want)
	}
}

func TestInitMakeForm(t *testing.T) {
	for _, n := range wrongEnds() {
		x := sampleAsked()
		x.from = n
		wantHandRefused(t, fmt.Sprint("InitMake from ", n), x.make(), impl.ErrForm)
	}
	first := sampleAsked()
	for name := range first.texts() {
		for _, wrong := range wrongFor(name) {
			x := sampleAsked()
			*x.texts()[name] = wrong
			wantHandRefused(t, fmt.Sprintf("InitMake where %s is %q", name, head(wrong)), x.make(), impl.ErrForm)
		}
	}
}

// TestInitMakeFull has stamps that are just so big that the mac is a right term.
func TestInitMakeFull(t *testing.T) {
	x := sampleAsked()
	x.stamp = "t"
	most := 3000 - (len(x.make().Letter.Mac1) - 1)
	for size := most - 3; size <= 3000; size++ {
		if size > most+3 && size < 2990 {
			continue
		}
		x.stamp = longTerm(size)
		if (x.make().Code == impl.OK) != (size <= most) {
			t.Errorf("InitMake with a stamp of %d bytes: got code %d", size, x.make().Code)
		}
		wantHand(t, fmt.Sprintf("InitMake with a stamp of %d bytes", size), x.make(), x.byHand())
	}
	for deep := 17; deep <= 24; deep++ {
		x.stamp = deepTerm(deep)
		if (x.make().Code == impl.OK) != (deep <= 20) {
			t.Errorf("InitMake with a stamp %d deep: got code %d", deep, x.make().Code)
		}
		wantHand(t, fmt.Sprintf("InitMake with a stamp %d deep", deep), x.make(), x.byHand())
	}
}

// TestInitMakeOrder has two faults at once.
func TestInitMakeOrder(t *testing.T) {
	x := sampleAsked()
	x.stamp = longTerm(3000)
	wantHandRefused(t, "a stamp that is too big", x.make(), impl.ErrFull)
	x.from = 0
	wantHandRefused(t, "and from nowhere", x.make(), impl.ErrForm)
	first := sampleAsked()
	for name := range first.texts() {
		for _, size := range []int{8001, 8002, 20000} {
			y := sampleAsked()
			*y.texts()[name] = strings.Repeat("a", size)
			wantHandRefused(t, name+" is too long", y.make(), impl.ErrSize)
			y.from = 0
			for other := range y.texts() {
				if other != name {
					*y.texts()[other] = ""
				}
			}
			wantHandRefused(t, name+" is too long, and all else is wrong", y.make(), impl.ErrSize)
		}
	}
}

func TestInitRead(t *testing.T) {
	made := sampleAsked().byHand()
	want := impl.HandOut{Peer: "[pub a]", Stamp: "17", Eph: "[pub e]", Chain: made.Chain}
	wantHand(t, "InitRead", impl.InitRead("b", made.Letter), want)
	// Macs are looked at by the gate, ahead of that.
	for _, macs := range [][2]string{{"", ""}, {"x", ""}, {made.Letter.Mac1, "y"}, {"x", "y"}} {
		wantHand(t, "InitRead with other macs", impl.InitRead("b", withMacs(made.Letter, macs[0], macs[1])), want)
	}
	made.Letter.From = 999
	wantHand(t, "InitRead from elsewhere", impl.InitRead("b", made.Letter), want)
}

// initParts are the parts of a letter to b, which says that it is of the one who has that lock, or of
// a if that is none.
func initParts(eph, peer, stamp string) []string {
	theirs := peer
	if !wholeLock.MatchString(theirs) {
		theirs = "[pub a]"
	}
	c2 := allByHand("[hash [pub b]]", eph, dhByHand("b", eph))
	return []string{eph, written("shut", c2, peer), written("shut", allByHand(c2, dhByHand("b", theirs)), stamp)}
}

// toB is a letter of these parts.
func toB(parts ...string) impl.Letter {
	return withParts(sampleLetter(impl.LtInit), parts...)
}

func TestInitReadOrdinary(t *testing.T) {
	for _, c := range [][3]string{
		{"[pub e]", "[pub a]", "t"},
		{"[pub e]", "[pub zzzzzzzz]", "[pair a [shut k m]]"},
		{"[pub b]", "[pub b]", "b"},
		{"[pub 0]", "[pub 9]", "[pub a]"},
		{"[pub e]", "[pub e]", "ok"},
		// These are bigger than what InitMake makes, whose letter must be signed.
		{"[pub e]", "[pub a]", longTerm(2850)},
		{"[pub e]", "[pub a]", deepTerm(23)},
	} {
		got := impl.InitRead("b", toB(initParts(c[0], c[1], c[2])...))
		if got.Code != impl.OK || got.Peer != c[1] || got.Stamp != c[2] || got.Eph != c[0] {
			t.Errorf("InitRead of %q: got %s", c, shortHand(got))
		}
		wantHand(t, fmt.Sprintf("InitRead of %q", c), got, initReadByHand("b", toB(initParts(c[0], c[1], c[2])...)))
	}
}

func TestInitReadForm(t *testing.T) {
	right := toB(initParts("[pub e]", "[pub a]", "t")...)
	for _, wrong := range wrongSecrets() {
		wantHandRefused(t, fmt.Sprintf("InitRead by %q", head(wrong)), impl.InitRead(wrong, right), impl.ErrForm)
	}
	for _, kind := range letterKinds[1:] {
		wantHandRefused(t, "InitRead of another kind", impl.InitRead("b", sampleLetter(kind)), impl.ErrForm)
		m := right
		m.Kind = kind
		wantHandRefused(t, "InitRead of a letter that says another kind", impl.InitRead("b", m), impl.ErrForm)
	}
	resp := sampleAnswer().byHand().Letter
	wantHandRefused(t, "InitRead of an answer", impl.InitRead("a", resp), impl.ErrForm)
	for _, m := range wrongVersions(right) {
		wantHandRefused(t, "InitRead of "+shortLetter(m), impl.InitRead("b", m), impl.ErrForm)
	}
}

// wrongVersions are letters that are as m is, but for one thing that is not right.
func wrongVersions(m impl.Letter) []impl.Letter {
	l := []impl.Letter{{}, {Kind: m.Kind}, withMacs(m, "", "x"), withMacs(m, "X", ""), withMacs(m, "x", "X"), withMacs(m, longTerm(3001), "")}
	l = append(l, withParts(m), withParts(m, m.Parts[1:]...), withParts(m, append(slices.Clone(m.Parts), "a")...))
	for _, change := range []func(*impl.Letter){
		func(m *impl.Letter) { m.Kind = 0 },
		func(m *impl.Letter) { m.Kind = 5 },
		func(m *impl.Letter) { m.From = 0 },
		func(m *impl.Letter) { m.From = 1000 },
		func(m *impl.Letter) { m.To = 1000 },
		func(m *impl.Letter) { m.To = -1 },
		func(m *impl.Letter) { m.Count = 1 },
	} {
		changed := m
		change(&changed)
		l = append(l, changed)
	}
	for i := range m.Parts {
		for _, wrong := range append(wrongTerms(), strings.Repeat("a", 8001)) {
			changed := withParts(m, slices.Clone(m.Parts)...)
			changed.Parts[i] = wrong
			l = append(l, changed)
		}
	}
	return l
}

// notLocks are right terms that are no locks.
func notLocks() []string {
	return []string{"e", "pub", "[hash e]", "[hash [pub e]]", "[pair e e]", "[pair [pub e] [pub e]]", "[dh b e]", "[mac a b]", "[shut a [pub e]]", longTerm(3000), deepTerm(24)}
}

func TestInitReadSyntax(t *testing.T) {
	right := initParts("[pub e]", "[pub a]", "t")
	for _, first := range notLocks() {
		for _, parts := range [][]string{{first, right[1], right[2]}, {first, "a", "a"}, {first, first, first}} {
			wantHandRefused(t, fmt.Sprintf("InitRead of %q", head(first)), impl.InitRead("b", toB(parts...)), impl.ErrSyntax)
		}
	}
}

func TestInitReadSum(t *testing.T) {
	right := initParts("[pub e]", "[pub a]", "t")
	c2 := allByHand("[hash [pub b]]", "[pub e]", "[dh b e]")
	c3 := allByHand(c2, "[dh a b]")
	for _, second := range []string{"a", "[pub a]", c2, c3, right[2], written("mac", c2, "[pub a]"), written("pair", c2, "[pub a]"), written("shut", c3, "[pub a]"), "[shut k [pub a]]", written("hash", right[1]), written("shut", written("hash", c2), "[pub a]"), written("shut", "[pub a]", c2)} {
		wantHandRefused(t, fmt.Sprintf("InitRead of a second part %q", second), impl.InitRead("b", toB("[pub e]", second, right[2])), impl.ErrSum)
	}
	for _, third := range []string{"t", c3, right[1], written("mac", c3, "t"), written("pair", c3, "t"), written("shut", c2, "t"), "[shut k t]", written("hash", right[2]), written("shut", allByHand(c2, "[dh b b]"), "t"), written("shut", "t", c3)} {
		wantHandRefused(t, fmt.Sprintf("InitRead of a third part %q", third), impl.InitRead("b", toB("[pub e]", right[1], third)), impl.ErrSum)
	}
	for _, peer := range []string{"a", "pub", "[hash a]", "[hash [pub a]]", "[pair [pub a] [pub a]]", "[shut k [pub a]]", "[dh a b]", longTerm(2800), deepTerm(17)} {
		wantHandRefused(t, fmt.Sprintf("InitRead of a peer %q", head(peer)), impl.InitRead("b", toB(initParts("[pub e]", peer, "t")...)), impl.ErrSum)
	}
	// The parts of two letters do not go together.
	other := initParts("[pub f]", "[pub c]", "s")
	for _, parts := range [][]string{{other[0], right[1], right[2]}, {right[0], other[1], right[2]}, {right[0], right[1], other[2]}, {right[0], right[2], right[1]}} {
		wantHandRefused(t, fmt.Sprintf("InitRead of %q", parts), impl.InitRead("b", toB(parts...)), impl.ErrSum)
	}
}

// TestInitReadOrder has two faults at once.
func TestInitReadOrder(t *testing.T) {
	right := toB(initParts("[pub e]", "[pub a]", "t")...)
	for _, size := range []int{8001, 8002, 20000} {
		long := strings.Repeat("b", size)
		for _, m := range []impl.Letter{right, {}, toB("a", "a", "a"), toB("[pub e]", "a", "a")} {
			wantHandRefused(t, "a me that is too long", impl.InitRead(long, m), impl.ErrSize)
		}
	}
	for _, m := range []impl.Letter{{}, toB("a", "a", "a"), toB("[pub e]", "a", "a")} {
		wantHandRefused(t, "a me that is none", impl.InitRead("B", m), impl.ErrForm)
	}
	wantHandRefused(t, "a letter that is not right", impl.InitRead("b", toB("a", "a", "A")), impl.ErrForm)
	wantHandRefused(t, "a first part that is no lock", impl.InitRead("b", toB("a", "a", "a")), impl.ErrSyntax)
	wantHandRefused(t, "parts that are not shut", impl.InitRead("b", toB("[pub e]", "a", "a")), impl.ErrSum)
}

func TestRespMake(t *testing.T) {
	c3 := "[hash [pair [hash [pair [hash [pair [hash [pub b]] [pub e]]] [dh b e]]] [dh a b]]]"
	c6 := "[hash [pair [hash [pair [hash [pair " + c3 + " [pub f]]] [dh e f]]] [dh a f]]]"
	parts := []string{"[pub f]", "[shut " + c6 + " ok]"}
	m := impl.Letter{Kind: impl.LtResp, From: 4, To: 3, Parts: parts}
	m.Mac1 = "[mac [hash [pair gate [pub a]]] [pair " + parts[0] + " " + parts[1] + "]]"
	keys := impl.Keys{Send: "[hash [pair " + c6 + " two]]", Hear: "[hash [pair " + c6 + " one]]", Chain: c6}
	wantHand(t, "RespMake", sampleAnswer().make(), impl.HandOut{Letter: m, Chain: c6, Keys: keys})
}

func TestRespMakeOrdinary(t *testing.T) {
	for _, x := range []answer{
		{1, 1, "f", "[pub a]", "[pub e]", "c", "[pub b]"},
		{999, 999, "f", "[pub a]", "[pub e]", "[hash c]", "[pub b]"},
		{1, 999, "zzzzzzzz", "[pub 00000000]", "[pub abcdefgh]", "[pair a b]", "[pub x]"},
		{7, 8, "a", "[pub a]", "[pub a]", "a", "[pub a]"},
		{7, 8, "a", "[pub b]", "[pub b]", "[pub a]", "[pub a]"},
		{7, 8, "b", "[pub b]", "[pub a]", "[shut a b]", "[pub a]"},
	} {
		want := x.byHand()
		if want.Code != impl.OK || !impl.LetterRight(want.Letter) || !impl.Mac1Fits(want.Letter, x.peer) {
			t.Errorf("%+v: what is wanted is %s", x, shortHand(want))
		}
		wantHand(t, fmt.Sprintf("RespMake of %+v", x), x.make(), want)
		// Nothing is made of its own lock.
		x.lock = "[pub other]"
		wantHand(t, fmt.Sprintf("RespMake of %+v", x), x.make(), want)
	}
}

func TestRespMakeForm(t *testing.T) {
	for _, n := range wrongEnds() {
		x, y := sampleAnswer(), sampleAnswer()
		x.from, y.to = n, n
		wantHandRefused(t, fmt.Sprint("RespMake from ", n), x.make(), impl.ErrForm)
		wantHandRefused(t, fmt.Sprint("RespMake to ", n), y.make(), impl.ErrForm)
	}
	first := sampleAnswer()
	for name := range first.texts() {
		for _, wrong := range wrongFor(name) {
			x := sampleAnswer()
			*x.texts()[name] = wrong
			wantHandRefused(t, fmt.Sprintf("RespMake where %s is %q", name, head(wrong)), x.make(), impl.ErrForm)
		}
	}
}

// TestRespMakeFull has chains that are just so big that the mac is a right term.
func TestRespMakeFull(t *testing.T) {
	x := sampleAnswer()
	x.chain = "c"
	most := 3000 - (len(x.make().Letter.Mac1) - 1)
	for size := most - 3; size <= 3000; size++ {
		if size > most+150 && size < 2990 {
			continue
		}
		x.chain = longTerm(size)
		if (x.make().Code == impl.OK) != (size <= most) {
			t.Errorf("RespMake with a chain of %d bytes: got code %d", size, x.make().Code)
		}
		wantHand(t, fmt.Sprintf("RespMake with a chain of %d bytes", size), x.make(), x.byHand())
	}
	for deep := 12; deep <= 24; deep++ {
		x.chain = deepTerm(deep)
		if (x.make().Code == impl.OK) != (deep <= 15) {
			t.Errorf("RespMake with a chain %d deep: got code %d", deep, x.make().Code)
		}
		wantHand(t, fmt.Sprintf("RespMake with a chain %d deep", deep), x.make(), x.byHand())
	}
}

// TestRespMakeOrder has two faults at once.
func TestRespMakeOrder(t *testing.T) {
	x := sampleAnswer()
	x.chain = deepTerm(24)
	wantHandRefused(t, "a chain that is too deep", x.make(), impl.ErrFull)
	for _, change := range []func(*answer){
		func(x *answer) { x.from = 0 },
		func(x *answer) { x.to = 1000 },
		func(x *answer) { x.lock = "b" },
		func(x *answer) { x.eph = "[pub f]" },
		func(x *answer) { x.peer = "a" },
		func(x *answer) { x.theirs = "e" },
	} {
		y := x
		change(&y)
		wantHandRefused(t, fmt.Sprintf("and %+v", y), y.make(), impl.ErrForm)
	}
	first := sampleAnswer()
	for name := range first.texts() {
		for _, size := range []int{8001, 8002, 20000} {
			y := sampleAnswer()
			*y.texts()[name] = strings.Repeat("a", size)
			wantHandRefused(t, name+" is too long", y.make(), impl.ErrSize)
			y.from, y.to = 0, 0
			for other := range y.texts() {
				if other != name {
					*y.texts()[other] = ""
				}
			}
			wantHandRefused(t, name+" is too long, and all else is wrong", y.make(), impl.ErrSize)
		}
	}
}

func TestRespRead(t *testing.T) {
	x := sampleHeard()
	c6 := "[hash [pair [hash [pair [hash [pair " + x.chain + " [pub f]]] [dh e f]]] [dh a f]]]"
	keys := impl.Keys{Send: "[hash [pair " + c6 + " one]]", Hear: "[hash [pair " + c6 + " two]]", Chain: c6}
	want := impl.HandOut{Chain: c6, Keys: keys}
	wantHand(t, "RespRead", x.read(), want)
	made := x.letter
	for _, macs := range [][2]string{{"", ""}, {"x", ""}, {made.Mac1, "y"}, {"x", "y"}} {
		x.letter = withMacs(made, macs[0], macs[1])
		wantHand(t, "RespRead with other macs", x.read(), want)
	}
	x.letter.From, x.letter.To = 999, 1
	wantHand(t, "RespRead from and to elsewhere", x.read(), want)
}

// toA is a letter of these parts.
func toA(parts ...string) impl.Letter {
	return withParts(sampleLetter(impl.LtResp), parts...)
}

// answered is what RespRead is given to hear that what is inside was shut as it ought to be.
func answered(me, eph, chain, theirs, inside string) heard {
	c6 := allByHand(chain, theirs, dhByHand(eph, theirs), dhByHand(me, theirs))
	return heard{me, eph, chain, toA(theirs, written("shut", c6, inside))}
}

func TestRespReadOrdinary(t *testing.T) {
	for _, x := range []heard{
		answered("a", "e", "c", "[pub f]", "ok"),
		answered("zzzzzzzz", "00000000", "[pair a b]", "[pub abcdefgh]", "ok"),
		answered("a", "a", "a", "[pub a]", "ok"),
		answered("a", "b", "[pub b]", "[pub b]", "ok"),
		answered("b", "a", "ok", "[pub a]", "ok"),
	} {
		if want := x.byHand(); want.Code != impl.OK {
			t.Errorf("%+v: what is wanted is %s", x, shortHand(want))
		}
		wantHand(t, fmt.Sprintf("RespRead of %+v", x), x.read(), x.byHand())
	}
}

func TestRespReadForm(t *testing.T) {
	first := sampleHeard()
	for name := range first.texts() {
		for _, wrong := range wrongFor(name) {
			x := sampleHeard()
			*x.texts()[name] = wrong
			wantHandRefused(t, fmt.Sprintf("RespRead where %s is %q", name, head(wrong)), x.read(), impl.ErrForm)
		}
	}
	x := sampleHeard()
	right := x.letter
	for _, kind := range []int64{impl.LtInit, impl.LtCookie, impl.LtData} {
		x.letter = sampleLetter(kind)
		wantHandRefused(t, "RespRead of another kind", x.read(), impl.ErrForm)
		x.letter = right
		x.letter.Kind = kind
		wantHandRefused(t, "RespRead of a letter that says another kind", x.read(), impl.ErrForm)
	}
	wrong := wrongVersions(right)
	x.letter = right
	x.letter.To = 0
	for _, m := range append(wrong, x.letter) {
		x.letter = m
		wantHandRefused(t, "RespRead of "+shortLetter(m), x.read(), impl.ErrForm)
	}
}

func TestRespReadSyntax(t *testing.T) {
	x := sampleHeard()
	right := x.letter.Parts[1]
	for _, first := range notLocks() {
		for _, second := range []string{right, "ok", first} {
			x.letter = toA(first, second)
			wantHandRefused(t, fmt.Sprintf("RespRead of %q", head(first)), x.read(), impl.ErrSyntax)
		}
	}
}

func TestRespReadSum(t *testing.T) {
	c6 := allByHand("c", "[pub f]", "[dh e f]", "[dh a f]")
	right := written("shut", c6, "ok")
	for _, second := range []string{"ok", c6, written("mac", c6, "ok"), written("pair", c6, "ok"), "[shut k ok]", written("hash", right), written("shut", "ok", c6), written("shut", written("hash", c6), "ok"), written("shut", allByHand("c", "[pub f]", "[dh a f]", "[dh e f]"), "ok")} {
		x := heard{"a", "e", "c", toA("[pub f]", second)}
		wantHandRefused(t, fmt.Sprintf("RespRead of a second part %q", second), x.read(), impl.ErrSum)
	}
	for _, inside := range []string{"o", "k", "okk", "no", "[hash ok]", "[pair ok ok]", "[pub ok]", written("shut", c6, "ok"), longTerm(2800)} {
		x := answered("a", "e", "c", "[pub f]", inside)
		wantHandRefused(t, fmt.Sprintf("RespRead of %q", head(inside)), x.read(), impl.ErrSum)
	}
	for _, theirs := range []string{"[pub g]", "[pub e]", "[pub a]"} {
		x := heard{"a", "e", "c", toA(theirs, right)}
		wantHandRefused(t, "RespRead of the lock of another one", x.read(), impl.ErrSum)
	}
}

// TestRespReadFull has chains with which c6, or what it shuts, or the keys are just right terms. What
// was shut by a c6 that is not right cannot be handed in, so ErrSum is named where that is so.
func TestRespReadFull(t *testing.T) {
	sums, fulls, oks := 0, 0, 0
	look := func(what, chain string) {
		x := answered("a", "e", chain, "[pub f]", "ok")
		if !termByHand(x.letter.Parts[1]) {
			x.letter.Parts[1] = "[shut c ok]"
		}
		wantHand(t, "RespRead with a chain of "+what, x.read(), x.byHand())
		switch x.read().Code {
		case impl.ErrSum:
			sums++
		case impl.ErrFull:
			fulls++
		case impl.OK:
			oks++
		}
		x.letter.Parts[1] = "[shut c ok]"
		wantHandRefused(t, "RespRead of the wrong key with a chain of "+what, x.read(), impl.ErrSum)
		x.letter.Parts[0] = "f"
		wantHandRefused(t, "RespRead of no lock with a chain of "+what, x.read(), impl.ErrSyntax)
		x.letter.From = 0
		wantHandRefused(t, "RespRead of a wrong letter with a chain of "+what, x.read(), impl.ErrForm)
	}
	added := len(allByHand("", "[pub f]", "[dh e f]", "[dh a f]"))
	for size := 2970 - added; size <= 3000; size++ {
		if size < 3010-added || size > 2990 {
			look(fmt.Sprint(size, " bytes"), longTerm(size))
		}
	}
	// The keys are 18 bytes more than c6, and what it shuts is 10 more: 2970 to 2982, 2983 to 2990.
	if oks != 13 || fulls != 8 || sums != 29 {
		t.Errorf("of long chains: OK %d times, ErrFull %d times, ErrSum %d times", oks, fulls, sums)
	}
	sums, fulls, oks = 0, 0, 0
	for deep := 10; deep <= 24; deep++ {
		look(fmt.Sprint(deep, " deep"), deepTerm(deep))
	}
	// The keys are 8 deeper than the chain, what is shut 7.
	if oks != 7 || fulls != 1 || sums != 7 {
		t.Errorf("of deep chains: OK %d times, ErrFull %d times, ErrSum %d times", oks, fulls, sums)
	}
}

// TestRespReadOrder has two faults at once.
func TestRespReadOrder(t *testing.T) {
	first := sampleHeard()
	for name := range first.texts() {
		for _, size := range []int{8001, 8002, 20000} {
			x := sampleHeard()
			*x.texts()[name] = strings.Repeat("a", size)
			wantHandRefused(t, name+" is too long", x.read(), impl.ErrSize)
			x.letter = impl.Letter{}
			for other := range x.texts() {
				if other != name {
					*x.texts()[other] = ""
				}
			}
			wantHandRefused(t, name+" is too long, and all else is wrong", x.read(), impl.ErrSize)
		}
		x := sampleHeard()
		x.letter = toA("ok", "ok")
		wantHandRefused(t, "no lock, nothing shut", x.read(), impl.ErrSyntax)
		*x.texts()[name] = ""
		wantHandRefused(t, "no lock, and a wrong "+name, x.read(), impl.ErrForm)
	}
}

// anyHandAtom is one of few atoms that are met again and again, the words of the chapter among them.
func anyHandAtom(r *rand.Rand) string {
	return []string{"a", "b", "e", "f", "a0", "ok", "one", "two", "zzzzzzzz"}[r.IntN(9)]
}

// anyOf is now and then what is wrong in the place of that name, or what is too long.
func anyOf(r *rand.Rand, name, right string) string {
	switch r.IntN(60) {
	case 0:
		wrong := wrongFor(name)
		return wrong[r.IntN(len(wrong))]
	case 1:
		return strings.Repeat("a", 7990+r.IntN(20))
	}
	return right
}

// spoilTexts goes by the names in their order, so that each run of the tests looks at the same texts.
func spoilTexts(r *rand.Rand, texts map[string]*string) {
	for _, name := range slices.Sorted(maps.Keys(texts)) {
		*texts[name] = anyOf(r, name, *texts[name])
	}
}

func anyEnd(r *rand.Rand) int64 {
	if r.IntN(60) == 0 {
		return []int64{0, 1000}[r.IntN(2)]
	}
	return []int64{1, 2, 998, 999}[r.IntN(4)]
}

// anyBig is a right term, now and then a big one.
func anyBig(r *rand.Rand) string {
	switch r.IntN(6) {
	case 0:
		return longTerm(2400 + r.IntN(602))
	case 1:
		return deepTerm(12 + r.IntN(14))
	}
	return anyTerm(r, 4)
}

func anyInit(r *rand.Rand) asked {
	x := asked{anyEnd(r), anyHandAtom(r), pubByHand(anyHandAtom(r)), anyHandAtom(r), anyBig(r)}
	spoilTexts(r, x.texts())
	return x
}

func anyResp(r *rand.Rand) answer {
	x := answer{anyEnd(r), anyEnd(r), anyHandAtom(r), pubByHand(anyHandAtom(r)), pubByHand(anyHandAtom(r)), anyBig(r), pubByHand(anyHandAtom(r))}
	spoilTexts(r, x.texts())
	return x
}

// orOther is m, or what is m but for one field, or for one part, which is some right term.
func orOther(r *rand.Rand, m impl.Letter) impl.Letter {
	switch {
	case len(m.Parts) == 0 || r.IntN(2) == 0:
		return m
	case r.IntN(2) == 0:
		return spoiled(r, m)
	}
	m = withParts(m, slices.Clone(m.Parts)...)
	m.Parts[r.IntN(len(m.Parts))] = anyTerm(r, 3)
	return m
}

func TestHandsByHand(t *testing.T) {
	r := rand.New(rand.NewPCG(39, 40))
	codes := map[string]int{}
	for range 1500 {
		x, y := anyInit(r), anyResp(r)
		made, said := x.make(), y.make()
		wantHand(t, fmt.Sprintf("InitMake of %+v", x), made, x.byHand())
		wantHand(t, fmt.Sprintf("RespMake of %+v", y), said, y.byHand())
		m, n := orOther(r, made.Letter), orOther(r, said.Letter)
		me, eph := anyHandAtom(r), anyHandAtom(r)
		if lock := wholeLock.FindStringSubmatch(x.lock); lock != nil && r.IntN(8) > 0 {
			me = lock[1]
		}
		me = anyOf(r, "me", me)
		read := impl.InitRead(me, m)
		wantHand(t, fmt.Sprintf("InitRead of %q and %+v", head(me), m), read, initReadByHand(me, m))
		z := heard{me, eph, y.chain, n}
		lock, theirs := wholeLock.FindStringSubmatch(y.peer), wholeLock.FindStringSubmatch(y.theirs)
		if lock != nil && theirs != nil && r.IntN(8) > 0 {
			z.me, z.eph = lock[1], theirs[1]
		}
		wantHand(t, fmt.Sprintf("RespRead of %+v", z), z.read(), z.byHand())
		for name, out := range map[string]impl.HandOut{"InitMake": made, "RespMake": said, "InitRead": read, "RespRead": z.read()} {
			codes[fmt.Sprint(name, out.Code)]++
		}
		mixed := []string{anyOf(r, "chain", anyBig(r)), anyOf(r, "chain", anyBig(r))}
		if got := impl.Mix(mixed[0], mixed[1]); got != mixByHand(mixed[0], mixed[1]) {
			t.Errorf("Mix(%q, %q): got %q", head(mixed[0]), head(mixed[1]), head(got))
		}
	}
	for name, met := range map[string][]int{"InitMake": {0, 1, 2, 9}, "RespMake": {0, 1, 2, 9}, "InitRead": {0, 1, 2, 3, 5}, "RespRead": {0, 1, 2, 3, 5}} {
		for _, code := range met {
			if codes[fmt.Sprint(name, code)] < 5 {
				t.Errorf("%s tells the code %d less than five times", name, code)
			}
		}
	}
}

// fourSecrets are of one, its eph, the other one, and its eph; no two are alike.
func fourSecrets(r *rand.Rand) []string {
	var l []string
	for len(l) < 4 {
		atom := fmt.Sprint(string(rune('a'+r.IntN(26))), r.IntN(1000))
		if !slices.Contains(l, atom) {
			l = append(l, atom)
		}
	}
	return l
}

// hands is what both make and read, if all goes well.
type hands struct {
	asked, read, said, heard impl.HandOut
}

func handsOf(t *testing.T, one, oneEph, other, otherEph, stamp string) hands {
	t.Helper()
	asked := impl.InitMake(3, one, pubByHand(other), oneEph, stamp)
	read := impl.InitRead(other, asked.Letter)
	said := impl.RespMake(4, asked.Letter.From, otherEph, read.Peer, read.Eph, read.Chain, pubByHand(other))
	heard := impl.RespRead(one, asked.Eph, asked.Chain, said.Letter)
	for _, out := range []impl.HandOut{asked, read, said, heard} {
		if out.Code != impl.OK {
			t.Fatalf("%s, %s, %s, %s: got code %d", one, oneEph, other, otherEph, out.Code)
		}
	}
	return hands{asked, read, said, heard}
}

func TestPromise8BothComeToTheSame(t *testing.T) {
	r := rand.New(rand.NewPCG(41, 42))
	for range 300 {
		one, oneEph, other, otherEph, stamp := anyHandAtom(r), anyHandAtom(r), anyHandAtom(r), anyHandAtom(r), anyTerm(r, 5)
		h := handsOf(t, one, oneEph, other, otherEph, stamp)
		if h.read.Peer != pubByHand(one) || h.read.Stamp != stamp || h.read.Eph != pubByHand(oneEph) {
			t.Errorf("%s, who is asked by %s at %s, reads %s", other, one, stamp, shortHand(h.read))
		}
		if h.asked.Chain != h.read.Chain || h.said.Chain != h.heard.Chain {
			t.Errorf("%s and %s come to chains that are not the same", one, other)
		}
		mine, theirs := h.heard.Keys, h.said.Keys
		if mine.Send != theirs.Hear || mine.Hear != theirs.Send || mine.Chain != theirs.Chain || mine.Chain != h.said.Chain {
			t.Errorf("%s has the keys %+v, %s the keys %+v", one, mine, other, theirs)
		}
		if l := []string{mine.Send, mine.Hear, mine.Chain}; len(known(l...)) != 3 || slices.Contains(l, "") {
			t.Errorf("%s has the keys %+v", one, mine)
		}
		if !impl.Mac1Fits(h.asked.Letter, pubByHand(other)) || !impl.Mac1Fits(h.said.Letter, pubByHand(one)) {
			t.Errorf("the letters of %s and %s do not fit their locks", one, other)
		}
	}
}

func TestPromise8NotReadWithAnyOther(t *testing.T) {
	r := rand.New(rand.NewPCG(43, 44))
	for range 100 {
		one, oneEph, other, otherEph := anyHandAtom(r), anyHandAtom(r), anyHandAtom(r), anyHandAtom(r)
		h := handsOf(t, one, oneEph, other, otherEph, "7")
		for _, wrong := range []string{"a", "b", "e", "f", "a0", "ok", "one", "two", "zzzzzzzz", "gate", one, oneEph, other, otherEph} {
			if wrong != other {
				wantHandRefused(t, wrong+" reads what was made for "+other, impl.InitRead(wrong, h.asked.Letter), impl.ErrSum)
			}
			if wrong != one {
				wantHandRefused(t, wrong+" reads what was made for "+one, impl.RespRead(wrong, oneEph, h.asked.Chain, h.said.Letter), impl.ErrSum)
			}
			if wrong != oneEph {
				wantHandRefused(t, wrong+" is not the eph "+oneEph, impl.RespRead(one, wrong, h.asked.Chain, h.said.Letter), impl.ErrSum)
			}
			wantHandRefused(t, wrong+" is not the chain", impl.RespRead(one, oneEph, wrong, h.said.Letter), impl.ErrSum)
		}
	}
}

// covered: is of each pair of one secret of the one and one of the other one stolen? The places of
// the secrets are those of fourSecrets.
func covered(stolen [4]bool) bool {
	for _, mine := range []int{0, 1} {
		for _, theirs := range []int{2, 3} {
			if !stolen[mine] && !stolen[theirs] {
				return false
			}
		}
	}
	return true
}

// TestPromise9 has who hears know what is no secret at all: the locks of both, and the words of the
// chapters.
func TestPromise9(t *testing.T) {
	r := rand.New(rand.NewPCG(45, 46))
	for range 12 {
		secrets := fourSecrets(r)
		h := handsOf(t, secrets[0], secrets[1], secrets[2], secrets[3], fmt.Sprint(r.IntN(1000000)))
		var letters []string
		for _, m := range []impl.Letter{h.asked.Letter, h.said.Letter} {
			letters = append(append(letters, m.Parts...), m.Mac1)
		}
		open := []string{pubByHand(secrets[0]), pubByHand(secrets[2]), "one", "two", "ok", "gate"}
		for which := range 16 {
			var stolen [4]bool
			has := slices.Clone(letters)
			for i, secret := range secrets {
				if stolen[i] = which>>i&1 == 1; stolen[i] {
					has = append(has, secret)
				}
			}
			keys := h.heard.Keys
			for _, key := range []string{keys.Send, keys.Hear, keys.Chain} {
				if got := impl.Knows(known(append(has, open...)...), key); got != covered(stolen) {
					t.Errorf("who has stolen %v of %q knows a key: %v", stolen, secrets, got)
				}
				if impl.Knows(known(has...), key) && !covered(stolen) {
					t.Errorf("who has stolen %v of %q and knows no words knows a key", stolen, secrets)
				}
			}
		}
	}
}

// TestPromise9WhoHasBothAndNoLock has who stole both secrets of the one that asked, but does not know
// the lock of the other one, which stands in no letter.
func TestPromise9WhoHasBothAndNoLock(t *testing.T) {
	h := handsOf(t, "a", "e", "b", "f", "17")
	has := append(slices.Clone(h.asked.Letter.Parts), h.said.Letter.Parts...)
	has = append(has, h.asked.Letter.Mac1, h.said.Letter.Mac1, "a", "e", "one", "two")
	if impl.Knows(known(has...), h.heard.Keys.Chain) {
		t.Error("who does not know the lock cannot begin to mix")
	}
	if !impl.Knows(known(append(has, "[pub b]")...), h.heard.Keys.Chain) {
		t.Error("who knows the lock can make the keys")
	}
}

// handTexts are all texts of what is told.
func handTexts(out impl.HandOut) []string {
	l := []string{out.Letter.Mac1, out.Letter.Mac2, out.Peer, out.Stamp, out.Eph, out.Chain, out.Keys.Send, out.Keys.Hear, out.Keys.Chain}
	return append(l, out.Letter.Parts...)
}

func TestHandsKeepNothing(t *testing.T) {
	x, y, z := sampleAsked(), sampleAnswer(), sampleHeard()
	init := x.byHand().Letter
	before := []impl.Letter{withParts(init, slices.Clone(init.Parts)...), withParts(z.letter, slices.Clone(z.letter.Parts)...)}
	given := append(slices.Concat(init.Parts, z.letter.Parts), init.Mac1, z.letter.Mac1)
	for _, place := range []map[string]*string{x.texts(), y.texts(), z.texts()} {
		for name, text := range place {
			// A literal may stand in the program's memory once for all.
			*text = strings.Clone(*text)
			given = append(given, *place[name])
		}
	}
	me := strings.Clone("b")
	ask := func() []impl.HandOut {
		return []impl.HandOut{x.make(), impl.InitRead(me, init), y.make(), z.read()}
	}
	want := ask()
	for _, told := range ask() {
		if told.Code != impl.OK || sameBytes(handTexts(told), append(given, me)) {
			t.Errorf("what is told shares memory with what was handed in: %s", shortHand(told))
		}
		for i := range told.Letter.Parts[:cap(told.Letter.Parts)] {
			told.Letter.Parts[:cap(told.Letter.Parts)][i] = "changed"
		}
	}
	if !sameLetter(init, before[0]) || !sameLetter(z.letter, before[1]) {
		t.Error("what was handed in has changed")
	}
	for i, again := range ask() {
		wantHand(t, "asked again", again, want[i])
	}
	a, b := strings.Clone("a"), strings.Clone("b")
	if sameBytes([]string{impl.Mix(a, b)}, []string{a, b}) {
		t.Error("Mix shares memory with what was handed in")
	}
}
