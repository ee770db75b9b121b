package tests

import (
	"fmt"
	"math/rand/v2"
	"slices"
	"strings"
	"testing"
	"unsafe"

	"loop.example/g00784/impl"
)

// partsByHand are the term and all its parts, and of each dh also the locks of its secrets.
func partsByHand(text string) []string {
	node := impl.NodeOf(text)
	if node.Op == "" {
		return []string{text}
	}
	all := []string{text}
	for _, arg := range node.Args {
		all = append(all, partsByHand(arg)...)
		if node.Op == "dh" {
			all = append(all, written("pub", arg))
		}
	}
	return all
}

// rulesByHand are the lists of which each one makes the term, if all of it is built.
func rulesByHand(text string) [][]string {
	node := impl.NodeOf(text)
	switch node.Op {
	case "":
		return nil
	case "dh":
		a, b := node.Args[0], node.Args[1]
		return [][]string{{a, written("pub", b)}, {b, written("pub", a)}}
	}
	return [][]string{node.Args}
}

// builtByHand marks what is built of all these from what is there. It goes up from what there is,
// and not, as the program, down from what is asked for.
func builtByHand(there map[string]bool, all []string) map[string]bool {
	built := map[string]bool{}
	for text := range there {
		built[text] = true
	}
	for grown := true; grown; {
		grown = false
		for _, text := range all {
			for _, rule := range rulesByHand(text) {
				lacks := slices.ContainsFunc(rule, func(arg string) bool { return !built[arg] })
				if !lacks && !built[text] {
					built[text] = true
					grown = true
				}
			}
		}
	}
	return built
}

// thereByHand marks what is there when all is taken.
func thereByHand(l []string) map[string]bool {
	there := map[string]bool{}
	var all []string
	for _, text := range l {
		there[text] = true
		all = append(all, partsByHand(text)...)
	}
	for size := -1; size != len(there); {
		size = len(there)
		built := builtByHand(there, all)
		for _, text := range all {
			node := impl.NodeOf(text)
			if !there[text] {
				continue
			}
			if node.Op == "pair" {
				there[node.Args[0]] = true
				there[node.Args[1]] = true
			}
			if node.Op == "shut" && built[node.Args[0]] {
				there[node.Args[1]] = true
			}
		}
	}
	return there
}

func buildsByHand(l []string, text string) bool {
	there := map[string]bool{}
	for _, one := range l {
		there[one] = true
	}
	return builtByHand(there, partsByHand(text))[text]
}

func takeByHand(l []string) []string {
	var all []string
	for text := range thereByHand(l) {
		all = append(all, text)
	}
	slices.Sort(all)
	return all
}

func knowsByHand(l []string, text string) bool {
	return builtByHand(thereByHand(l), partsByHand(text))[text]
}

func learnedByHand(l, m []string) []string {
	return slices.DeleteFunc(slices.Clone(m), func(text string) bool { return knowsByHand(l, text) })
}

// list is what stands between the commas.
func list(text string) []string {
	if text == "" {
		return nil
	}
	return strings.Split(text, ",")
}

// manyAtoms are that many atoms, rising.
func manyAtoms(n int) []string {
	var l []string
	for i := range n {
		l = append(l, fmt.Sprintf("a%03d", i))
	}
	return l
}

// known are the terms as a list of known ones has them.
func known(terms ...string) []string {
	l := slices.Clone(terms)
	slices.Sort(l)
	return slices.Compact(l)
}

// pairedUp is one term of all these in pairs of pairs.
func pairedUp(terms []string) string {
	if len(terms) == 1 {
		return terms[0]
	}
	half := len(terms) / 2
	return written("pair", pairedUp(terms[:half]), pairedUp(terms[half:]))
}

// anyKnown are at most so many right terms, rising.
func anyKnown(r *rand.Rand, most int) []string {
	var l []string
	for range r.IntN(most + 1) {
		l = append(l, anyThing(r, 1+r.IntN(4)))
	}
	return known(l...)
}

// anyThing is a term of few atoms, in which there is much to take, so that often some of it can be taken.
func anyThing(r *rand.Rand, deep int) string {
	few := []string{"a", "b", "c", "d", "e"}
	if deep <= 1 {
		return few[r.IntN(len(few))]
	}
	switch r.IntN(9) {
	case 0:
		return written("hash", anyThing(r, deep-1))
	case 1:
		return written("mac", anyThing(r, deep-1), anyThing(r, deep-1))
	case 2:
		return written("pub", few[r.IntN(len(few))])
	case 3:
		i := r.IntN(len(few))
		return written("dh", few[i], few[i+r.IntN(len(few)-i)])
	case 4, 5:
		return written("pair", anyThing(r, deep-1), anyThing(r, deep-1))
	}
	return written("shut", anyThing(r, deep-1), anyThing(r, deep-1))
}

// anyAsked is a part of what is known, or a thing made of two such, or any thing.
func anyAsked(r *rand.Rand, l []string) string {
	var parts []string
	for _, text := range l {
		parts = append(parts, partsByHand(text)...)
	}
	if len(parts) == 0 || r.IntN(3) == 0 {
		return anyThing(r, 1+r.IntN(4))
	}
	one, other := parts[r.IntN(len(parts))], parts[r.IntN(len(parts))]
	switch r.IntN(5) {
	case 0:
		return one
	case 1:
		return written("hash", one)
	}
	return written([]string{"pair", "mac", "shut"}[r.IntN(3)], one, other)
}

func wantList(t *testing.T, what string, got, want []string) {
	t.Helper()
	if !slices.Equal(got, want) {
		t.Errorf("%s: got %q, want %q", what, got, want)
	}
}

// wantBuilt looks at both who builds it from l and who knows it by l.
func wantBuilt(t *testing.T, l []string, text string, builds, knows bool) {
	t.Helper()
	if got := impl.Builds(l, text); got != builds {
		t.Errorf("Builds(%q, %q): got %v", l, head(text), got)
	}
	if got := impl.Knows(l, text); got != knows {
		t.Errorf("Knows(%q, %q): got %v", l, head(text), got)
	}
}

func TestKnowConstant(t *testing.T) {
	if impl.MaxKnown != 60 {
		t.Error("MaxKnown is not the document's")
	}
}

func TestKnownRight(t *testing.T) {
	for _, text := range []string{"", "a", "[pub a]", "a,b", "a,aa,ab,b", "0,9,[hash a],[pub a],a", "10,9", "[pair a b],[pair a c]", "a,a0,aa", "[hash [hash a]],[hash a]"} {
		if !impl.KnownRight(list(text)) {
			t.Errorf("%q are right", text)
		}
	}
	for _, l := range [][]string{{deepTerm(24)}, {longTerm(3000)}, {longTerm(3000), "abcdefgh"}, {deepTerm(24), "a"}, {}} {
		if !impl.KnownRight(l) {
			t.Errorf("%d terms are right", len(l))
		}
	}
}

// wrongLists are lists that are not right known terms.
func wrongLists() [][]string {
	l := [][]string{
		{""}, {"A"}, {"a "}, {"abcdefghi"}, {"[hash]"}, {"[dh b a]"}, {"[pub [pub a]]"}, {"[pair a  b]"},
		{deepTerm(25)}, {longTerm(3001)}, {longTerm(8000)}, {longTerm(8001)}, {strings.Repeat("a", 8001)},
		{"b", "a"}, {"a", "a"}, {"[pub a]", "[pub a]"}, {"ab", "a"}, {"a", "[pub a]"}, {"a", "9"}, {"9", "10"}, {"a", "b", "b"}, {"b", "b", "c"}, {"a", "c", "b"}, {"b", "a", "c"},
		{"", "a"}, {"A", "a"}, {"a", "b c"}, {"a", "b", "{"}, {"a", "[", "b"}, {"[", "a", "b"}, {"", ""}, {"a", ""},
		manyAtoms(61), manyAtoms(62), manyAtoms(400), manyAtoms(401), slices.Repeat([]string{"a"}, 60), slices.Repeat([]string{"a"}, 401), make([]string, 401), make([]string, 60),
	}
	backwards := manyAtoms(60)
	slices.Reverse(backwards)
	l = append(l, backwards)
	for place := range 60 {
		twice, wrong := manyAtoms(60), manyAtoms(60)
		twice[place] = twice[max(1, place)-1]
		twice[0] = twice[1]
		wrong[place] += " "
		l = append(l, twice, wrong)
	}
	return l
}

func TestKnowWrongLists(t *testing.T) {
	for _, l := range wrongLists() {
		if impl.KnownRight(l) {
			t.Errorf("%d terms that are not right: KnownRight", len(l))
		}
		for _, text := range append([]string{"a", "b", "[hash a]", "[pub a]", ""}, l[:1]...) {
			if impl.Builds(l, text) || impl.Knows(l, text) {
				t.Errorf("%d terms that are not right: Builds %v, Knows %v", len(l), impl.Builds(l, text), impl.Knows(l, text))
			}
		}
		wantList(t, "Take of what is not right", impl.Take(l), nil)
		wantList(t, "Learned by who has what is not right", impl.Learned(l, []string{"x"}), nil)
		wantList(t, "Learned of what is not right", impl.Learned([]string{"x"}, l), nil)
		wantList(t, "Learned by no one of what is not right", impl.Learned(nil, l), nil)
		wantList(t, "Learned of nothing by who has what is not right", impl.Learned(l, nil), nil)
		wantList(t, "Learned, neither of them right", impl.Learned(l, l), nil)
	}
}

func TestKnowWrongTerms(t *testing.T) {
	wrong := []string{"", " ", "A", "a ", " a", "abcdefghi", "[hash]", "[hash a", "hash a]", "[pair a]", "[pair a  b]", "[dh b a]", "[pub [pub a]]", "[open a b]", "a,b", deepTerm(25), longTerm(3001), longTerm(8000), longTerm(8001), strings.Repeat("a", 8000), strings.Repeat("a", 8001), "[hash " + longTerm(2994) + "]"}
	for _, text := range wrong {
		for _, l := range [][]string{nil, {"a"}, {"a", "b"}, {"[pub a]", "a", "b", "open", "pair"}, {longTerm(2994)}, {deepTerm(24), "a"}, {"A"}, manyAtoms(61), manyAtoms(401)} {
			wantBuilt(t, l, text, false, false)
		}
	}
}

func TestKnowLimits(t *testing.T) {
	most := manyAtoms(60)
	if !impl.KnownRight(most) || impl.KnownRight(manyAtoms(61)) {
		t.Error("60 known terms are right, 61 are not")
	}
	for _, text := range most {
		wantBuilt(t, most, text, true, true)
	}
	wantBuilt(t, most, pairedUp(most), true, true)
	wantBuilt(t, most, "[pair a059 a060]", false, false)
	wantBuilt(t, manyAtoms(61), "a000", false, false)
	wantList(t, "Take of 60", impl.Take(most), most)
	wantList(t, "Take of 61", impl.Take(manyAtoms(61)), nil)
	wantList(t, "Learned of 60", impl.Learned(nil, most), most)
	wantList(t, "Learned of 60 by who has 59", impl.Learned(most[:59], most), most[59:])
	wantList(t, "Learned of 61", impl.Learned(nil, manyAtoms(61)), nil)
	wantBuilt(t, []string{"a"}, deepTerm(24), true, true)
	wantBuilt(t, []string{deepTerm(23)}, deepTerm(24), true, true)
	wantBuilt(t, []string{deepTerm(24)}, deepTerm(23), false, false)
	wantBuilt(t, []string{"a"}, deepTerm(25), false, false)
	wantBuilt(t, known("a", "abcdefgh", "abcdefg", "abcdef", "abcde", "abcd", "abc", "ab"), longTerm(3000), true, true)
	wantBuilt(t, []string{longTerm(3000)}, longTerm(3000), true, true)
}

// What is there when all is taken may be more than MaxKnown, and more than MaxList.
func TestTakeMuch(t *testing.T) {
	atoms := manyAtoms(100)
	l := []string{pairedUp(atoms)}
	took := impl.Take(l)
	wantList(t, "Take of a pair of 100", took, takeByHand(l))
	if len(took) != 199 {
		t.Errorf("100 atoms in pairs are 199 terms, not %d", len(took))
	}
	for _, text := range atoms {
		wantBuilt(t, l, text, false, true)
	}
	wantList(t, "Learned by who has the pair of 100", impl.Learned(l, known("a000", "a099", "a100", "[hash a050]")), []string{"a100"})
	wantList(t, "Learned by what is taken, which is too much", impl.Learned(took, []string{"x"}), nil)
	many := manyAtoms(960)
	var pairs []string
	for some := range slices.Chunk(many, 16) {
		pairs = append(pairs, pairedUp(some))
	}
	slices.Sort(pairs)
	took = impl.Take(pairs)
	if len(pairs) != 60 || len(took) != 1860 || !slices.IsSorted(took) || len(slices.Compact(slices.Clone(took))) != 1860 {
		t.Errorf("960 atoms in %d terms are 1860 terms, not %d", len(pairs), len(took))
	}
	wantBuilt(t, pairs, pairedUp(many[500:700]), false, true)
}

func TestBuilds(t *testing.T) {
	for _, c := range []struct {
		l, text string
		want    bool
	}{
		{"", "a", false}, {"", "[pub a]", false}, {"", "[dh a b]", false}, {"a", "a", true}, {"a", "b", false}, {"a", "aa", false}, {"aa", "a", false},
		{"a,b", "[pair a b]", true}, {"a,b", "[pair b a]", true}, {"a", "[pair a a]", true}, {"a", "[pair a b]", false}, {"b", "[pair a b]", false},
		{"a", "[hash a]", true}, {"b", "[hash a]", false}, {"[hash a]", "[hash a]", true}, {"[hash a]", "a", false}, {"[hash a]", "[hash [hash a]]", true},
		{"k,m", "[mac k m]", true}, {"k", "[mac k m]", false}, {"m", "[mac k m]", false}, {"[mac k m]", "[mac k m]", true}, {"[mac k m],k", "m", false}, {"[mac k m]", "[mac m k]", false},
		{"k,m", "[shut k m]", true}, {"k", "[shut k m]", false}, {"m", "[shut k m]", false}, {"[shut k m]", "[shut k m]", true}, {"[shut k m]", "[shut k [shut k m]]", false},
		{"[shut k m],k", "[shut k [shut k m]]", true}, {"[shut k m],k", "m", false}, {"[pair a b]", "a", false}, {"[pair a b]", "b", false}, {"[pair a b]", "[pair b a]", false},
		{"[pair a b]", "[hash [pair a b]]", true}, {"[pair a b],b", "[pair b [pair a b]]", true},
		{"x", "[pub x]", true}, {"y", "[pub x]", false}, {"[pub x]", "[pub x]", true}, {"[pub x]", "x", false}, {"[pub x]", "[hash [pub x]]", true}, {"[pub x]", "[pub y]", false},
		{"a,b", "[pair [hash [mac a b]] [shut [pub a] [pair a a]]]", true}, {"a", "[pair [hash [mac a b]] [shut [pub a] [pair a a]]]", false},
		{"[mac a b],a", "[pair [hash [mac a b]] [shut [pub a] [pair a a]]]", true},
	} {
		if got := impl.Builds(list(c.l), c.text); got != c.want || buildsByHand(list(c.l), c.text) != got {
			t.Errorf("Builds(%s, %s): got %v, want %v", c.l, c.text, got, c.want)
		}
	}
}

func TestDhIsBuilt(t *testing.T) {
	for l, want := range map[string]bool{
		"": false, "x": false, "y": false, "[pub x]": false, "[pub y]": false, "[pub x],[pub y]": false,
		"x,y": true, "[pub y],x": true, "[pub x],y": true, "[pub x],x": false, "[pub y],y": false,
		"[pub x],[pub y],x": true, "[pub x],[pub y],y": true, "[dh x y]": true, "[dh x x],[dh y y]": false,
		"[hash x],[pub y]": false, "[pub y],z": false, "[pub z],x": false, "[dh x z],z": false, "[pair x y]": false,
	} {
		if got := impl.Builds(list(l), "[dh x y]"); got != want {
			t.Errorf("Builds(%s, [dh x y]): got %v", l, got)
		}
	}
	for l, want := range map[string]bool{"x": true, "[pub x]": false, "[pub x],x": true, "y": false, "[dh x x]": true, "": false} {
		if got := impl.Builds(list(l), "[dh x x]"); got != want {
			t.Errorf("Builds(%s, [dh x x]): got %v", l, got)
		}
	}
	wantBuilt(t, list("[pub y],x"), "[hash [dh x y]]", true, true)
	wantBuilt(t, list("[dh x y]"), "x", false, false)
	wantBuilt(t, list("[dh x y]"), "[pub x]", false, false)
	wantBuilt(t, list("[dh x y],x"), "y", false, false)
	wantBuilt(t, list("[dh x y],x"), "[pub y]", false, false)
	wantBuilt(t, list("[pair x [pub y]]"), "[dh x y]", false, true)
	wantBuilt(t, list("[pair [pub x] y]"), "[dh x y]", false, true)
	wantBuilt(t, list("[pair [pub x] [pub y]]"), "[dh x y]", false, false)
	wantBuilt(t, list("[shut [pub y] [pub x]],y"), "[dh x y]", false, true)
}

func TestTake(t *testing.T) {
	for _, c := range []struct{ l, want string }{
		{"", ""}, {"a", "a"}, {"a,b", "a,b"}, {"[hash a]", "[hash a]"}, {"[pub a]", "[pub a]"}, {"[mac a b],a", "[mac a b],a"}, {"[dh a b],a", "[dh a b],a"},
		{"[pair a b]", "[pair a b],a,b"}, {"[pair b a]", "[pair b a],a,b"}, {"[pair a a]", "[pair a a],a"}, {"[pair a b],a,b", "[pair a b],a,b"},
		{"[pair [pair c b] [pair a [pub b]]]", "[pair [pair c b] [pair a [pub b]]],[pair a [pub b]],[pair c b],[pub b],a,b,c"},
		{"[shut k m]", "[shut k m]"}, {"[shut k m],m", "[shut k m],m"}, {"[shut k m],k", "[shut k m],k,m"}, {"[shut k k]", "[shut k k]"}, {"[shut k k],k", "[shut k k],k"},
		{"[pair k [shut k m]]", "[pair k [shut k m]],[shut k m],k,m"}, {"[pair [shut k m] k]", "[pair [shut k m] k],[shut k m],k,m"},
		{"[shut k [pair a b]],k", "[pair a b],[shut k [pair a b]],a,b,k"}, {"[shut k [shut k m]],k", "[shut k [shut k m]],[shut k m],k,m"}, {"[shut k [shut j m]],k", "[shut j m],[shut k [shut j m]],k"},
		{"[hash [pair a b]]", "[hash [pair a b]]"}, {"[mac k [pair a b]],k", "[mac k [pair a b]],k"}, {"[hash [shut k m]],k", "[hash [shut k m]],k"}, {"[shut [pair a b] m]", "[shut [pair a b] m]"},
		{"[shut [hash k] m],k", "[shut [hash k] m],k,m"}, {"[hash k],[shut [hash k] m]", "[hash k],[shut [hash k] m],m"}, {"[hash k],[shut k m]", "[hash k],[shut k m]"},
		{"[shut [pair a b] m],a,b", "[shut [pair a b] m],a,b,m"}, {"[shut [mac a b] m],a", "[shut [mac a b] m],a"}, {"[mac a b],[shut [mac a b] m]", "[mac a b],[shut [mac a b] m],m"},
		{"[shut [pub x] m],x", "[shut [pub x] m],m,x"}, {"[pub x],[shut [pub x] m]", "[pub x],[shut [pub x] m],m"}, {"[pub x],[shut x m]", "[pub x],[shut x m]"},
		{"[pub y],[shut [dh x y] m],x", "[pub y],[shut [dh x y] m],m,x"}, {"[pub x],[shut [dh x y] m],y", "[pub x],[shut [dh x y] m],m,y"}, {"[pub x],[pub y],[shut [dh x y] m]", "[pub x],[pub y],[shut [dh x y] m]"},
		{"[shut [shut j k] m],j,k", "[shut [shut j k] m],j,k,m"}, {"[shut [shut j k] m],[shut j k]", "[shut [shut j k] m],[shut j k],m"},
		{"[shut a b],[shut b c],[shut c d],a", "[shut a b],[shut b c],[shut c d],a,b,c,d"}, {"[shut b a],[shut c b],[shut d c],d", "[shut b a],[shut c b],[shut d c],a,b,c,d"},
		{"[shut a b],[shut b a]", "[shut a b],[shut b a]"}, {"[shut [hash [pair a b]] m],[shut c a],[shut d b],[shut e d],c,e", "[shut [hash [pair a b]] m],[shut c a],[shut d b],[shut e d],a,b,c,d,e,m"},
	} {
		wantList(t, "Take of "+c.l, impl.Take(list(c.l)), list(c.want))
		wantList(t, "by hand of "+c.l, takeByHand(list(c.l)), list(c.want))
	}
}

// Each key lies in the one that is opened by the next one: as many rounds are needed as there are terms.
func TestTakeLongChains(t *testing.T) {
	atoms := manyAtoms(60)
	for _, up := range []bool{true, false} {
		l := []string{}
		for i := range 59 {
			with, inside := atoms[i], atoms[i+1]
			if !up {
				with, inside = inside, with
			}
			l = append(l, written("shut", written("hash", with), inside))
		}
		first := atoms[0]
		if !up {
			first = atoms[59]
		}
		wantList(t, "Take without the first key", impl.Take(known(l...)), known(l...))
		l = append(l, first)
		wantList(t, "Take of a chain", impl.Take(known(l...)), known(append(atoms, l...)...))
		wantBuilt(t, known(l...), pairedUp(atoms), false, true)
	}
	inside := "m"
	for range 21 {
		inside = written("shut", "k", inside)
	}
	wantBuilt(t, []string{inside, "k"}, "m", false, true)
	wantBuilt(t, []string{inside}, "m", false, false)
}

func TestKnows(t *testing.T) {
	for _, c := range []struct {
		l, text       string
		builds, knows bool
	}{
		{"", "a", false, false}, {"a", "a", true, true}, {"a", "[hash [pub a]]", true, true}, {"b", "a", false, false},
		{"[pair a b]", "a", false, true}, {"[pair a b]", "[pair b a]", false, true}, {"[pair a b]", "[dh a b]", false, true}, {"[pair a b]", "[pair a b]", true, true}, {"[pair a b]", "c", false, false},
		{"[pair a [pair b c]]", "[mac c b]", false, true}, {"[shut k m],k", "m", false, true}, {"[shut k m]", "m", false, false}, {"[shut k m]", "k", false, false},
		{"[shut k m],m", "k", false, false}, {"[shut k m],m", "[shut k [pair m m]]", false, false}, {"[hash a]", "a", false, false}, {"[pub a]", "a", false, false}, {"[mac a b]", "b", false, false},
		{"[hash [pair a b]]", "[pair a b]", false, false}, {"[mac k m],k", "m", false, false}, {"[shut [pair a b] m],m", "a", false, false}, {"[shut k [pair a b]],k", "[hash b]", false, true},
		{"[pub b],[shut [hash [dh a b]] [pair c [shut c d]]],a", "[pub d]", false, true}, {"[pub a],[pub b],[shut [hash [dh a b]] c]", "c", false, false},
	} {
		wantBuilt(t, list(c.l), c.text, c.builds, c.knows)
		if buildsByHand(list(c.l), c.text) != c.builds || knowsByHand(list(c.l), c.text) != c.knows {
			t.Errorf("by hand: %s, %s", c.l, c.text)
		}
	}
}

func TestLearned(t *testing.T) {
	for _, c := range []struct{ l, m, want string }{
		{"", "", ""}, {"a", "", ""}, {"", "a", "a"}, {"", "[pub a],a,b", "[pub a],a,b"}, {"a", "a", ""}, {"a", "a,b", "b"}, {"b", "a,b,c", "a,c"},
		{"a,b", "[hash a],[pair a b],[pair a c],[pub b]", "[pair a c]"}, {"[pair a b]", "[pair b a],a,b,c", "c"}, {"[pair a b]", "[pair a b]", ""},
		{"[shut k m]", "[shut k m],k,m", "k,m"}, {"[shut k m],k", "[shut k m],k,m", ""}, {"[shut k m]", "k", "k"}, {"[pub x]", "[dh x y],[pub x],[pub y],x", "[dh x y],[pub y],x"},
		{"[shut k m]", "[hash m],k,m", "[hash m],k,m"}, {"z", "0,[hash z],a,z", "0,a"}, {"[hash a],[pair b [pub c]],d", "[hash a],[pair b [pub c]],d", ""},
	} {
		wantList(t, "Learned of "+c.m+" by who has "+c.l, impl.Learned(list(c.l), list(c.m)), list(c.want))
	}
	atoms := manyAtoms(60)
	wantList(t, "Learned of what one has", impl.Learned(atoms, atoms), nil)
}

// What one of m teaches does not help with the others of m.
func TestLearnedIsNotUsed(t *testing.T) {
	wantList(t, "a key and what is shut with it", impl.Learned([]string{"[shut k m]"}, []string{"k", "m"}), []string{"k", "m"})
	wantList(t, "a pair and its args", impl.Learned([]string{"a"}, []string{"[pair b c]", "a", "b", "c"}), []string{"[pair b c]", "b", "c"})
}

func TestKnowByHand(t *testing.T) {
	r := rand.New(rand.NewPCG(11, 12))
	taken, built, learned := 0, 0, 0
	for range 3000 {
		l, m := anyKnown(r, 7), anyKnown(r, 5)
		want := takeByHand(l)
		wantList(t, fmt.Sprintf("Take of %q", l), impl.Take(l), want)
		taken += len(want) - len(l)
		for range 4 {
			text := anyAsked(r, l)
			wantBuilt(t, l, text, buildsByHand(l, text), knowsByHand(l, text))
			if knowsByHand(l, text) != slices.Contains(l, text) {
				built++
			}
		}
		news := learnedByHand(l, m)
		wantList(t, fmt.Sprintf("Learned of %q by who has %q", m, l), impl.Learned(l, m), news)
		if len(news) > 0 && len(news) < len(m) {
			learned++
		}
	}
	if taken < 2000 || built < 2000 || learned < 500 {
		t.Errorf("%d taken, %d built, %d learned in part: too few to tell", taken, built, learned)
	}
}

// Promise 4: all that was there is there when all is taken, and nothing more can be taken from that.
func TestPromise4TakenOnce(t *testing.T) {
	r := rand.New(rand.NewPCG(13, 14))
	grown := 0
	for range 5000 {
		l := anyKnown(r, 8)
		took := impl.Take(l)
		for _, text := range l {
			if !slices.Contains(took, text) {
				t.Fatalf("Take of %q lacks %s: %q", l, text, took)
			}
		}
		if len(took) > len(l) {
			grown++
		}
		if len(took) > impl.MaxKnown {
			continue
		}
		if !impl.KnownRight(took) {
			t.Fatalf("Take of %q is not right: %q", l, took)
		}
		wantList(t, fmt.Sprintf("Take of what is taken of %q", l), impl.Take(took), took)
		wantList(t, fmt.Sprintf("what is taken of %q is learned", l), impl.Learned(l, took), nil)
		text := anyAsked(r, l)
		if impl.Knows(l, text) != impl.Builds(took, text) {
			t.Fatalf("%q: %s is known, or built from what is taken, but not both", l, text)
		}
	}
	if grown < 1000 {
		t.Errorf("of 5000 lists something could be taken of just %d", grown)
	}
}

// Promise 4: who knows more can make no less.
func TestPromise4MoreMakesNoLess(t *testing.T) {
	r := rand.New(rand.NewPCG(15, 16))
	met, more := 0, 0
	for range 5000 {
		l := anyKnown(r, 6)
		wider := known(append(anyKnown(r, 3), l...)...)
		took, widerTook := impl.Take(l), impl.Take(wider)
		for _, text := range took {
			if !slices.Contains(widerTook, text) {
				t.Fatalf("%q, taken of %q, is not taken of %q", text, l, wider)
			}
		}
		text := anyAsked(r, wider)
		if impl.Builds(l, text) && !impl.Builds(wider, text) || impl.Knows(l, text) && !impl.Knows(wider, text) {
			t.Fatalf("%s can be made of %q, but not of %q", text, l, wider)
		}
		if impl.Knows(l, text) {
			met++
		} else if impl.Knows(wider, text) {
			more++
		}
	}
	if met < 500 || more < 500 {
		t.Errorf("%d known, %d known by more: too few to tell", met, more)
	}
}

// Promise 4: what can be made adds nothing to what can be made.
func TestPromise4MadeAddsNothing(t *testing.T) {
	r := rand.New(rand.NewPCG(17, 18))
	met, asked := 0, 0
	for range 10000 {
		l := anyKnown(r, 6)
		text := anyAsked(r, l)
		if !impl.Knows(l, text) {
			continue
		}
		met++
		wider := known(append([]string{text}, l...)...)
		for range 3 {
			other := anyAsked(r, wider)
			if impl.Knows(wider, other) != impl.Knows(l, other) {
				t.Fatalf("%s, which %q can make, adds %s", text, l, other)
			}
			if impl.Knows(l, other) {
				asked++
			}
		}
		wantList(t, "what is learned of what can be made", impl.Learned(l, wider), nil)
		if took := impl.Take(wider); len(took) <= impl.MaxKnown {
			wantList(t, fmt.Sprintf("what is learned of all that %q has with %s", l, text), impl.Learned(l, took), nil)
		}
	}
	if met < 2000 || asked < 2000 {
		t.Errorf("%d can be made, %d of these were asked for: too few to tell", met, asked)
	}
}

// sameBytes: do the texts of both lists lie, if only in part, in the same memory?
func sameBytes(one, other []string) bool {
	for _, a := range one {
		for _, b := range other {
			from, at := uintptr(unsafe.Pointer(unsafe.StringData(a))), uintptr(unsafe.Pointer(unsafe.StringData(b)))
			if from < at+uintptr(len(b)) && at < from+uintptr(len(a)) {
				return true
			}
		}
	}
	return false
}

func TestKnowKeepsWhatItIsGiven(t *testing.T) {
	l := []string{"[pair a [shut k m]]", "[shut [pub k] [pair kk mm]]", "k"}
	m := []string{"[hash x]", "m", "xyz"}
	l, m = slices.Grow(l, 8), slices.Grow(m, 8)
	l[:4][3], m[:4][3] = "behind", "behind"
	before, beforeM := slices.Clone(l[:4]), slices.Clone(m[:4])
	took, learned := impl.Take(l), impl.Learned(l, m)
	impl.KnownRight(l)
	impl.Builds(l, m[0])
	impl.Knows(l, m[0])
	want := []string{"[pair a [shut k m]]", "[pair kk mm]", "[shut [pub k] [pair kk mm]]", "[shut k m]", "a", "k", "kk", "m", "mm"}
	wantList(t, "Take", took, want)
	wantList(t, "Learned", learned, []string{"[hash x]", "xyz"})
	if sameBytes(took, l) || sameBytes(learned, l) || sameBytes(learned, m) {
		t.Error("what is told shares memory with what was handed in")
	}
	for _, told := range [][]string{took, learned} {
		for i := range told[:cap(told)] {
			told[:cap(told)][i] = "changed"
		}
	}
	wantList(t, "what was handed in", l[:4], before)
	wantList(t, "what was handed in", m[:4], beforeM)
	wantList(t, "Take again", impl.Take(l), want)
	wantList(t, "Learned again", impl.Learned(l, m), []string{"[hash x]", "xyz"})
}
