package tests

import (
	"math/rand/v2"
	"reflect"
	"regexp"
	"slices"
	"strings"
	"testing"

	"loop.example/g00784/impl"
)

// opSizes says how many args each op has.
var opSizes = map[string]int{"pair": 2, "hash": 1, "mac": 2, "shut": 2, "pub": 1, "dh": 2}

var opNames = []string{"pair", "hash", "mac", "shut", "pub", "dh"}

// brackets are the ops whose args are atoms, or what has been replaced by a # before.
var brackets = regexp.MustCompile(`\[(?:(?:pair|mac|shut) (?:[a-z0-9]{1,8}|#) (?:[a-z0-9]{1,8}|#)|hash (?:[a-z0-9]{1,8}|#)|pub [a-z0-9]{1,8}|dh ([a-z0-9]{1,8}) ([a-z0-9]{1,8}))\]`)

var wholeAtom = regexp.MustCompile(`\A[a-z0-9]{1,8}\z`)

// deepByHand says what DeepOf has to say: how often all innermost brackets can be replaced till one thing is left.
func deepByHand(text string) int64 {
	if len(text) > 3000 || strings.Contains(text, "#") {
		return 0
	}
	for deep := int64(1); deep <= 24; deep++ {
		if text == "#" || wholeAtom.MatchString(text) {
			return deep
		}
		text = brackets.ReplaceAllStringFunc(text, func(found string) string {
			if m := brackets.FindStringSubmatch(found); m[1] > m[2] {
				return found
			}
			return "#"
		})
	}
	return 0
}

// written is the text of an op and its args.
func written(op string, args ...string) string {
	return "[" + op + " " + strings.Join(args, " ") + "]"
}

// deepTerm is a term of that depth.
func deepTerm(deep int) string {
	return strings.Repeat("[hash ", deep-1) + "a" + strings.Repeat("]", deep-1)
}

// longTerm is a term of that many bytes, at least one, that is not deep.
func longTerm(size int) string {
	if size <= 8 {
		return "abcdefgh"[:size]
	}
	if size == 9 {
		return "[hash ab]"
	}
	left := (size - 8) / 2
	return written("pair", longTerm(left), longTerm(size-8-left))
}

// anyAtom is one of few atoms, so that some are met again.
func anyAtom(r *rand.Rand) string {
	return []string{"a", "b", "c", "ab", "a0", "0", "9z", "abcdefgh", "zzzzzzzz", "00000000"}[r.IntN(10)]
}

// anyTerm is a right term no deeper than that.
func anyTerm(r *rand.Rand, deep int) string {
	if deep <= 1 || r.IntN(5) == 0 {
		return anyAtom(r)
	}
	op := opNames[r.IntN(6)]
	return written(op, anyArgs(r, op, deep-1)...)
}

// anyArgs are right args of that op, in their order.
func anyArgs(r *rand.Rand, op string, deep int) []string {
	switch op {
	case "pub":
		return []string{anyAtom(r)}
	case "dh":
		l := []string{anyAtom(r), anyAtom(r)}
		slices.Sort(l)
		return l
	}
	var l []string
	for range opSizes[op] {
		l = append(l, anyTerm(r, deep))
	}
	return l
}

func wantNode(t *testing.T, text string, want impl.Node) {
	t.Helper()
	got := impl.NodeOf(text)
	if got.Op != want.Op || !slices.Equal(got.Args, want.Args) {
		t.Errorf("NodeOf(%q): got %+v, want %+v", head(text), got, want)
	}
}

func wantTerm(t *testing.T, what string, got impl.TermOut, want string) {
	t.Helper()
	if got != (impl.TermOut{Term: want}) {
		t.Errorf("%s: got %+v, want %q", what, got, want)
	}
}

func wantRefused(t *testing.T, what string, got impl.TermOut, code int64) {
	t.Helper()
	if got != (impl.TermOut{Code: code}) {
		t.Errorf("%s: got code %d and %d bytes, want code %d", what, got.Code, len(got.Term), code)
	}
}

func wantAtoms(t *testing.T, text string, want ...string) {
	t.Helper()
	if got := impl.AtomsOf(text); !slices.Equal(got, want) {
		t.Errorf("AtomsOf(%q): got %q, want %q", head(text), got, want)
	}
}

// wantWrong looks at whether all that takes one term says that this is none.
func wantWrong(t *testing.T, text string) {
	t.Helper()
	if impl.TermRight(text) {
		t.Errorf("TermRight(%q): it is not", text)
	}
	wantNode(t, text, impl.Node{})
	wantAtoms(t, text)
	if got := impl.DeepOf(text); got != 0 {
		t.Errorf("DeepOf(%q): got %d, want 0", head(text), got)
	}
	code := int64(impl.ErrForm)
	wantRefused(t, "Make of "+head(text), impl.Make("hash", []string{text}), code)
	if len(text) > impl.MaxBytes {
		code = impl.ErrSize
	}
	wantRefused(t, "Open of "+head(text), impl.Open("a", text), code)
	wantRefused(t, "Open with "+head(text), impl.Open(text, "[shut a b]"), code)
	wantRefused(t, "Dh of the lock "+head(text), impl.Dh("a", text), code)
}

// wantRight looks at whether all that takes one term says that this one, of that depth, is right.
func wantRight(t *testing.T, text string, deep int64) {
	t.Helper()
	if !impl.TermRight(text) {
		t.Errorf("TermRight(%q): it is", head(text))
	}
	if got := impl.DeepOf(text); got != deep {
		t.Errorf("DeepOf(%q): got %d, want %d", head(text), got, deep)
	}
	if len(impl.NodeOf(text).Args) == 0 || len(impl.AtomsOf(text)) == 0 {
		t.Errorf("NodeOf, AtomsOf(%q): nothing", head(text))
	}
	wantRefused(t, "Open of an atom with "+head(text), impl.Open(text, "a"), impl.ErrNone)
}

func TestTermConstants(t *testing.T) {
	if impl.MaxTerm != 3000 || impl.MaxDeep != 24 {
		t.Error("a limit is not the document's")
	}
}

func TestAtomRight(t *testing.T) {
	for _, atom := range []string{"a", "z", "0", "9", "a0", "0a", "pair", "dh", "abcdefg", "abcdefgh", "01234567", "zzzzzzzz"} {
		if !impl.AtomRight(atom) {
			t.Errorf("%q is an atom", atom)
		}
		wantRight(t, atom, 1)
	}
	for _, atom := range []string{"", " ", " a", "a ", "a b", "A", "aB", "a_", "a\n", "a\x00", "\x00", "ä", "a\xff", "-1", "[a]", "[pub a]", "abcdefghi", "012345678", strings.Repeat("a", 8000), strings.Repeat("a", 8001)} {
		if impl.AtomRight(atom) {
			t.Errorf("%q is no atom", head(atom))
		}
	}
	for i := range 256 {
		b := string([]byte{byte(i)})
		want := strings.Contains("abcdefghijklmnopqrstuvwxyz0123456789", b)
		for _, atom := range []string{b, "a" + b, b + "a", "a" + b + "a", "abcdefg" + b} {
			if impl.AtomRight(atom) != want || impl.TermRight(atom) != want {
				t.Errorf("%q: want %v", atom, want)
			}
		}
	}
}

func TestTermsRight(t *testing.T) {
	for text, deep := range map[string]int64{
		"[pair a b]": 2, "[pair a a]": 2, "[hash a]": 2, "[mac k a]": 2, "[shut k a]": 2, "[pub a]": 2,
		"[dh a b]": 2, "[dh a a]": 2, "[dh 9 a]": 2, "[dh a ab]": 2, "[dh a a0]": 2, "[dh abcdefgh b]": 2,
		"[pair pair hash]": 2, "[hash [hash a]]": 3, "[pair [hash a] b]": 3, "[pair b [hash a]]": 3,
		"[mac [pair a b] [hash [pub a]]]": 4, "[shut [hash [hash a]] b]": 4, "[pair [dh a b] [pub c]]": 3,
		"[pair [pair [pair a b] c] d]": 4, "[pair a [pair b [pair c d]]]": 4,
	} {
		wantRight(t, text, deep)
	}
}

func TestTermsWrong(t *testing.T) {
	for _, text := range []string{
		"", " ", "[", "]", "[]", "[ ]", "[[", "]]", "A", "abcdefghi",
		"[pair]", "[pair ]", "[pair a]", "[pair a ]", "[pair a b c]", "[hash]", "[hash ]", "[hash a b]",
		"[mac]", "[mac k]", "[mac k a b]", "[shut]", "[shut k]", "[shut k a b]", "[pub]", "[pub ]", "[pub a b]",
		"[dh]", "[dh a]", "[dh a b c]", "[a]", "[a b]", "[pairs a b]", "[Pair a b]", "[pai a b]", "[hashh a]", "[open k a]",
		"[pub [hash a]]", "[pub [pub a]]", "[dh b a]", "[dh a 9]", "[dh ab a]", "[dh b abcdefgh]",
		"[dh a [hash a]]", "[dh [pub a] b]", "[dh a [pub b]]", "[hash [dh b a]]", "[hash [pub [hash a]]]",
		"[paira b]", "[pair ab]", "[pair a[hash b]]", "[pair [hash a]b]", "[pair [hash a][hash b]]", "[hasha]", "[hash[pub a]]",
		"[pair  a b]", "[pair a  b]", "[pair a b ]", "[ pair a b]", " [pair a b]", "[pair a b] ", "[hash a ]", "[hash  a]",
		" a", "a ", "a b", "[pair\ta b]", "[pair a\nb]", "[pair a b]\n", "[pair a b]\x00", "[hash \x00]",
		"[pair a b", "pair a b]", "pair a b", "[pair a b]]", "[[pair a b]", "[[pair a b]]", "[pair a b][pair a b]", "[pair a b]a",
		"[hash A]", "[hash abcdefghi]", "[pub abcdefghi]", "[dh a abcdefghi]", "[pair a [b]]", "[pair a []]", "[hash ]a]", "(hash a)",
		"[[hash a] a]", "[ [hash a]]", "[pair [pair a] b c]", "[pair,a,b]",
	} {
		wantWrong(t, text)
	}
}

func TestTermLimits(t *testing.T) {
	for _, size := range []int{1, 8, 9, 10, 2998, 2999, 3000} {
		text := longTerm(size)
		if len(text) != size {
			t.Fatalf("a term of %d bytes is wanted, this has %d", size, len(text))
		}
		wantRight(t, text, deepByHand(text))
	}
	for _, size := range []int{3001, 3002, 7999, 8000, 8001, 9000} {
		wantWrong(t, longTerm(size))
		wantWrong(t, strings.Repeat("[hash ", size/6)+strings.Repeat("a", size%6))
	}
	for deep := 1; deep <= 24; deep++ {
		wantRight(t, deepTerm(deep), int64(deep))
	}
	for _, deep := range []int{25, 26, 100, 428, 429, 1200} {
		wantWrong(t, deepTerm(deep))
	}
	for _, around := range [][2]string{{"[pair a ", "]"}, {"[pair ", " a]"}, {"[mac ", " a]"}, {"[mac a ", "]"}, {"[shut ", " a]"}, {"[shut a ", "]"}} {
		wantRight(t, around[0]+deepTerm(23)+around[1], 24)
		wantWrong(t, around[0]+deepTerm(24)+around[1])
	}
	wantRight(t, strings.ReplaceAll(deepTerm(23), "a]", "[pub a]]"), 24)
	wantWrong(t, strings.ReplaceAll(deepTerm(24), "a]", "[pub a]]"))
	wantRight(t, strings.ReplaceAll(deepTerm(23), "a]", "[dh a b]]"), 24)
	wantWrong(t, strings.ReplaceAll(deepTerm(24), "a]", "[dh a b]]"))
}

// turned is text with one byte, or one piece, more, fewer or other.
func turned(r *rand.Rand, text string) string {
	pieces := []string{" ", "[", "]", "a", "b", "0", "A", "hash", "[hash ", "[pub ", "dh", "pair", "  ", "\x00", "#"}
	at := r.IntN(len(text) + 1)
	end := min(len(text), at+r.IntN(3))
	if r.IntN(3) == 0 {
		return text[:at] + text[end:]
	}
	return text[:at] + pieces[r.IntN(len(pieces))] + text[end:]
}

func TestTermsOfAnyShape(t *testing.T) {
	r := rand.New(rand.NewPCG(5, 6))
	right := 0
	for range 20000 {
		text := anyTerm(r, 6)
		for range r.IntN(3) {
			text = turned(r, text)
		}
		want := deepByHand(text)
		if want > 0 {
			right++
		}
		if got := impl.DeepOf(text); got != want || impl.TermRight(text) != (want > 0) {
			t.Fatalf("%q: got depth %d and %v, want %d", text, got, impl.TermRight(text), want)
		}
	}
	if right < 2000 || right > 18000 {
		t.Errorf("%d of 20000 were right: too few of one sort", right)
	}
}

func TestNodeOf(t *testing.T) {
	wantNode(t, "a", impl.Node{Args: []string{"a"}})
	wantNode(t, "pair", impl.Node{Args: []string{"pair"}})
	wantNode(t, "[pair b a]", impl.Node{Op: "pair", Args: []string{"b", "a"}})
	wantNode(t, "[pair a a]", impl.Node{Op: "pair", Args: []string{"a", "a"}})
	wantNode(t, "[hash [pair b a]]", impl.Node{Op: "hash", Args: []string{"[pair b a]"}})
	wantNode(t, "[mac [hash k] [pair [pub x] z]]", impl.Node{Op: "mac", Args: []string{"[hash k]", "[pair [pub x] z]"}})
	wantNode(t, "[shut z [dh a b]]", impl.Node{Op: "shut", Args: []string{"z", "[dh a b]"}})
	wantNode(t, "[pub x]", impl.Node{Op: "pub", Args: []string{"x"}})
	wantNode(t, "[dh a b]", impl.Node{Op: "dh", Args: []string{"a", "b"}})
	wantNode(t, deepTerm(24), impl.Node{Op: "hash", Args: []string{deepTerm(23)}})
	long := longTerm(3000)
	wantNode(t, long, impl.Node{Op: "pair", Args: []string{longTerm(1496), longTerm(1496)}})
}

func TestAnswersAreNew(t *testing.T) {
	first, second := impl.NodeOf("[pair a b]"), impl.NodeOf("[pair a b]")
	first.Args[0] = "x"
	_ = append(first.Args[:1], "y")
	if !slices.Equal(second.Args, []string{"a", "b"}) {
		t.Errorf("NodeOf: two answers share memory: %q", second.Args)
	}
	one, other := impl.AtomsOf("[pair a b]"), impl.AtomsOf("[pair a b]")
	one[0] = "x"
	if !slices.Equal(other, []string{"a", "b"}) {
		t.Errorf("AtomsOf: two answers share memory: %q", other)
	}
}

func TestMake(t *testing.T) {
	wantTerm(t, "pair", impl.Make("pair", []string{"b", "a"}), "[pair b a]")
	wantTerm(t, "hash", impl.Make("hash", []string{"[pair b a]"}), "[hash [pair b a]]")
	wantTerm(t, "mac", impl.Make("mac", []string{"[hash k]", "a"}), "[mac [hash k] a]")
	wantTerm(t, "shut", impl.Make("shut", []string{"z", "[pub a]"}), "[shut z [pub a]]")
	wantTerm(t, "pub", impl.Make("pub", []string{"abcdefgh"}), "[pub abcdefgh]")
	wantTerm(t, "dh", impl.Make("dh", []string{"a", "b"}), "[dh a b]")
	wantTerm(t, "dh of one", impl.Make("dh", []string{"a", "a"}), "[dh a a]")
	for _, l := range [][2]string{{"a", "b"}, {"9", "a"}, {"a", "a0"}, {"ab", "b"}, {"abcdefgh", "b"}, {"10", "9"}} {
		args := []string{l[1], l[0]}
		wantTerm(t, "dh in the wrong order", impl.Make("dh", args), written("dh", l[0], l[1]))
		if args[0] != l[1] || args[1] != l[0] {
			t.Errorf("dh: the args that were handed in are changed: %q", args)
		}
	}
}

func TestMakeNumberOfArgs(t *testing.T) {
	for op, size := range opSizes {
		for n := range 6 {
			got := impl.Make(op, slices.Repeat([]string{"a"}, n))
			if n == size {
				wantTerm(t, op, got, written(op, slices.Repeat([]string{"a"}, n)...))
			} else {
				wantRefused(t, op, got, impl.ErrForm)
			}
		}
		wantRefused(t, op+" of nil", impl.Make(op, nil), impl.ErrForm)
	}
}

func TestMakeOps(t *testing.T) {
	for _, op := range []string{"", " ", "a", "pairs", "pai", "Pair", "PAIR", " pair", "pair ", "[pair", "hash\x00", "open", "key", strings.Repeat("a", 8000)} {
		for n := range 4 {
			wantRefused(t, "op "+head(op), impl.Make(op, slices.Repeat([]string{"a"}, n)), impl.ErrForm)
		}
	}
}

func TestMakeArgs(t *testing.T) {
	wrong := []string{"", " ", "A", "a ", "abcdefghi", "[hash]", "[dh b a]", "[pub [pub a]]", "[pair a  b]", deepTerm(25), longTerm(3001), longTerm(8000), longTerm(8001)}
	for _, arg := range wrong {
		for op, size := range opSizes {
			for place := range size {
				args := slices.Repeat([]string{"a"}, size)
				args[place] = arg
				wantRefused(t, op+" of "+head(arg), impl.Make(op, args), impl.ErrForm)
			}
		}
	}
	for _, arg := range []string{"[hash a]", "[pub a]", "[dh a b]", "[pair a b]"} {
		wantRefused(t, "pub of "+arg, impl.Make("pub", []string{arg}), impl.ErrForm)
		wantRefused(t, "dh of "+arg, impl.Make("dh", []string{arg, "a"}), impl.ErrForm)
		wantRefused(t, "dh of a and "+arg, impl.Make("dh", []string{"a", arg}), impl.ErrForm)
		wantRefused(t, "dh of "+arg+" twice", impl.Make("dh", []string{arg, arg}), impl.ErrForm)
	}
}

func TestMakeFull(t *testing.T) {
	wantTerm(t, "hash of 3000 bytes", impl.Make("hash", []string{longTerm(2993)}), "[hash "+longTerm(2993)+"]")
	wantRefused(t, "hash of 3001 bytes", impl.Make("hash", []string{longTerm(2994)}), impl.ErrFull)
	for op, around := range map[string]int{"pair": 8, "mac": 7, "shut": 8} {
		left := longTerm(1000)
		right := longTerm(3000 - 1000 - around)
		wantTerm(t, op+" of 3000 bytes", impl.Make(op, []string{left, right}), written(op, left, right))
		wantRefused(t, op+" of 3001 bytes", impl.Make(op, []string{left, right + "]"}), impl.ErrForm)
		wantRefused(t, op+" of 3001 bytes", impl.Make(op, []string{left, longTerm(len(right) + 1)}), impl.ErrFull)
		wantRefused(t, op+" of the longest two", impl.Make(op, []string{longTerm(3000), longTerm(3000)}), impl.ErrFull)
		for _, args := range [][]string{{deepTerm(23), "a"}, {"a", deepTerm(23)}, {deepTerm(23), deepTerm(23)}} {
			wantTerm(t, op+" as deep as may be", impl.Make(op, args), written(op, args...))
		}
		for _, args := range [][]string{{deepTerm(24), "a"}, {"a", deepTerm(24)}, {deepTerm(24), deepTerm(24)}} {
			wantRefused(t, op+" too deep", impl.Make(op, args), impl.ErrFull)
			wantRefused(t, op+" too deep, and one that is not right", impl.Make(op, []string{args[0], "A"}), impl.ErrForm)
		}
	}
	wantTerm(t, "hash as deep as may be", impl.Make("hash", []string{deepTerm(23)}), deepTerm(24))
	wantRefused(t, "hash too deep", impl.Make("hash", []string{deepTerm(24)}), impl.ErrFull)
}

func TestMakeSize(t *testing.T) {
	most := strings.Repeat("a", impl.MaxBytes)
	list := slices.Repeat([]string{"a"}, impl.MaxList)
	for _, args := range [][]string{nil, {"a"}, {"A"}, {longTerm(3000), longTerm(3000)}, list} {
		wantRefused(t, "an op of 8000 bytes", impl.Make(most, args), impl.ErrForm)
		wantRefused(t, "an op of 8001 bytes", impl.Make(most+"a", args), impl.ErrSize)
	}
	for _, op := range append([]string{"", "A", most}, opNames...) {
		wantRefused(t, "400 args", impl.Make(op, list), impl.ErrForm)
		wantRefused(t, "401 args", impl.Make(op, append(list[:400:400], "a")), impl.ErrSize)
		wantRefused(t, "401 args that are not right", impl.Make(op, make([]string, 401)), impl.ErrSize)
	}
	wantRefused(t, "an arg of 8001 bytes", impl.Make("hash", []string{most + "a"}), impl.ErrForm)
}

func TestDh(t *testing.T) {
	wantTerm(t, "in order", impl.Dh("a", "[pub b]"), "[dh a b]")
	wantTerm(t, "not in order", impl.Dh("b", "[pub a]"), "[dh a b]")
	wantTerm(t, "of one", impl.Dh("a", "[pub a]"), "[dh a a]")
	wantTerm(t, "longer behind", impl.Dh("a0", "[pub a]"), "[dh a a0]")
	wantTerm(t, "longest", impl.Dh("zzzzzzzz", "[pub abcdefgh]"), "[dh abcdefgh zzzzzzzz]")
	most := strings.Repeat("a", impl.MaxBytes)
	for _, x := range []string{"", "A", " a", "abcdefghi", "[pub a]", "[hash a]", longTerm(3000), most} {
		wantRefused(t, "x is no atom", impl.Dh(x, "[pub a]"), impl.ErrForm)
	}
	for _, p := range []string{"", "a", "pub", "[hash a]", "[pair a b]", "[mac a b]", "[shut a b]", "[dh a b]", "[pub]", "[pub [pub a]]", "[pub a b]", "[pub  a]", "[pub a] ", "[pub A]", "[hash [pub a]]", most} {
		wantRefused(t, "p is no pub", impl.Dh("a", p), impl.ErrForm)
		wantRefused(t, "neither is right", impl.Dh("A", p), impl.ErrForm)
	}
	for _, other := range []string{"a", "A", "[pub a]", "", most, most + "a"} {
		wantRefused(t, "x of 8001 bytes", impl.Dh(most+"a", other), impl.ErrSize)
		wantRefused(t, "p of 8001 bytes", impl.Dh(other, most+"a"), impl.ErrSize)
	}
}

func TestOpen(t *testing.T) {
	wantTerm(t, "an atom", impl.Open("k", "[shut k m]"), "m")
	wantTerm(t, "the key itself", impl.Open("k", "[shut k k]"), "k")
	wantTerm(t, "terms", impl.Open("[hash [dh a b]]", "[shut [hash [dh a b]] [pair x [pub y]]]"), "[pair x [pub y]]")
	wantTerm(t, "one in another", impl.Open("k", "[shut k [shut k m]]"), "[shut k m]")
	wantTerm(t, "a shut as a key", impl.Open("[shut k m]", "[shut [shut k m] x]"), "x")
	wantTerm(t, "deep", impl.Open(deepTerm(23), written("shut", deepTerm(23), "a")), "a")
	wantTerm(t, "long", impl.Open("k", written("shut", "k", longTerm(2991))), longTerm(2991))
	for _, text := range []string{"k", "[pair k m]", "[mac k m]", "[hash k]", "[pub k]", "[dh k m]", "[shut x m]", "[shut m k]", "[shut kk m]", "[shut [hash k] m]", "[pair [shut k m] k]", "[hash [shut k m]]", "[shut x [shut k m]]"} {
		wantRefused(t, text, impl.Open("k", text), impl.ErrNone)
	}
	wantRefused(t, "a key that begins so", impl.Open("[hash k]", "[shut k m]"), impl.ErrNone)
}

func TestOpenFaults(t *testing.T) {
	most := strings.Repeat("a", impl.MaxBytes)
	wrong := []string{"", "K", "abcdefghi", "[shut k]", "[shut k m", "[shut k m] ", "[shut  k m]", "[shut k m m]", deepTerm(25), longTerm(3001), most}
	for _, text := range wrong {
		wantRefused(t, "t is "+head(text), impl.Open("k", text), impl.ErrForm)
		wantRefused(t, "key is "+head(text), impl.Open(text, "[shut k m]"), impl.ErrForm)
		wantRefused(t, "key, ahead of no shut, is "+head(text), impl.Open(text, "[hash k]"), impl.ErrForm)
		wantRefused(t, "both are "+head(text), impl.Open(text, text), impl.ErrForm)
		wantRefused(t, "the same key that is not right", impl.Open(text, written("shut", text, "m")), codeOfWrong(len(text)+9))
	}
	for _, other := range []string{"k", "K", "[shut k m]", "", most, most + "a"} {
		wantRefused(t, "key of 8001 bytes", impl.Open(most+"a", other), impl.ErrSize)
		wantRefused(t, "t of 8001 bytes", impl.Open(other, most+"a"), impl.ErrSize)
	}
}

// codeOfWrong is the code of a text of that many bytes that is not right.
func codeOfWrong(size int) int64 {
	if size > impl.MaxBytes {
		return impl.ErrSize
	}
	return impl.ErrForm
}

func TestAtomsOf(t *testing.T) {
	wantAtoms(t, "a", "a")
	wantAtoms(t, "[hash a]", "a")
	wantAtoms(t, "[pub x]", "x")
	wantAtoms(t, "[dh a b]", "a", "b")
	wantAtoms(t, "[dh a a]", "a")
	wantAtoms(t, "[pair b a]", "a", "b")
	wantAtoms(t, "[pair a a]", "a")
	wantAtoms(t, "[mac k [shut k [pair k k]]]", "k")
	wantAtoms(t, "[mac z [shut y [pair x w]]]", "w", "x", "y", "z")
	wantAtoms(t, "[pair [dh a c] [pair [pub b] [hash c]]]", "a", "b", "c")
	wantAtoms(t, "[pair [pair ab a] [pair [pair 9 b] [pair 10 a0]]]", "10", "9", "a", "a0", "ab", "b")
	wantAtoms(t, "[pair pair hash]", "hash", "pair")
	wantAtoms(t, "[pair [pair c a] [pair b [pair a c]]]", "a", "b", "c")
}

func TestAtomsOfAny(t *testing.T) {
	r := rand.New(rand.NewPCG(7, 8))
	words := regexp.MustCompile(`[ ]([a-z0-9]+)`)
	for range 2000 {
		text := anyTerm(r, 7)
		if !strings.HasPrefix(text, "[") || len(text) > 3000 {
			continue
		}
		var want []string
		for _, m := range words.FindAllStringSubmatch(text, -1) {
			want = append(want, m[1])
		}
		slices.Sort(want)
		wantAtoms(t, text, slices.Compact(want)...)
	}
}

// Promise 3, of what is taken apart.
func TestPromise3TakenApart(t *testing.T) {
	r := rand.New(rand.NewPCG(9, 10))
	for range 5000 {
		op := opNames[r.IntN(6)]
		args := anyArgs(r, op, 5)
		made := impl.Make(op, args)
		wantTerm(t, op, made, written(op, args...))
		if got := impl.NodeOf(made.Term); !reflect.DeepEqual(got, impl.Node{Op: op, Args: args}) {
			t.Fatalf("%q: got %+v", made.Term, got)
		}
		node := impl.NodeOf(made.Term)
		wantTerm(t, "again", impl.Make(node.Op, node.Args), made.Term)
		if op == "shut" {
			wantTerm(t, "what is in it", impl.Open(args[0], made.Term), args[1])
		}
	}
}

// Promise 3, of two secrets and their locks.
func TestPromise3BothMakeTheSame(t *testing.T) {
	atoms := []string{"a", "b", "0", "9", "10", "ab", "a0", "z", "zz", "abcdefgh", "zzzzzzzz", "00000000"}
	made := map[string]int{}
	for _, x := range atoms {
		for _, y := range atoms {
			one := impl.Dh(x, impl.Make("pub", []string{y}).Term)
			other := impl.Dh(y, impl.Make("pub", []string{x}).Term)
			wantTerm(t, x+" and "+y, one, written("dh", min(x, y), max(x, y)))
			wantTerm(t, y+" and "+x, other, one.Term)
			made[one.Term]++
		}
	}
	if len(made) != len(atoms)*(len(atoms)+1)/2 {
		t.Errorf("%d secrets make %d things of two", len(atoms), len(made))
	}
}
