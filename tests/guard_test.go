package tests

import (
	"fmt"
	"math"
	"math/rand/v2"
	"slices"
	"strings"
	"testing"

	"loop.example/g00784/impl"
)

func atomByHand(text string) bool {
	return wholeAtom.MatchString(text)
}

func timeByHand(n int64) bool {
	return n >= 0 && n <= 1000000
}

func addrByHand(a impl.Addr) bool {
	return atomByHand(a.Street) && atomByHand(a.House)
}

// limitByHand says what LimitRight has to say.
func limitByHand(l impl.Limit) bool {
	if l.Rate < 1 || l.Rate > 10 || l.Burst < 1 || l.Burst > 100 || len(l.Buckets) > 6 {
		return false
	}
	var streets []string
	for _, b := range l.Buckets {
		if !atomByHand(b.Street) || b.Left < 0 || b.Left > l.Burst || !timeByHand(b.At) {
			return false
		}
		streets = append(streets, b.Street)
	}
	return slices.IsSorted(streets) && len(slices.Compact(streets)) == len(l.Buckets)
}

// leftByHand goes on time by time, till the bucket is full or now is reached.
func leftByHand(l impl.Limit, b impl.Bucket, now int64) int64 {
	left := b.Left
	for at := b.At; at < now && left < l.Burst; at++ {
		for range l.Rate {
			if left < l.Burst {
				left++
			}
		}
	}
	return left
}

// askByHand says what LimitAsk has to say, where the street is no more than MaxBytes.
func askByHand(l impl.Limit, street string, now int64) impl.LimitOut {
	if !limitByHand(l) || !atomByHand(street) || !timeByHand(now) {
		return impl.LimitOut{Code: impl.ErrForm}
	}
	asked := impl.Bucket{Street: street, Left: l.Burst, At: now}
	var others []impl.Bucket
	for _, b := range l.Buckets {
		if b.Street == street {
			asked = b
		} else {
			others = append(others, b)
		}
	}
	if asked.At > now {
		return impl.LimitOut{Code: impl.ErrRange}
	}
	if len(others) == 6 {
		return impl.LimitOut{Code: impl.ErrFull}
	}
	asked.Left = leftByHand(l, asked, now)
	asked.At = now
	yes := asked.Left > 0
	if yes {
		asked.Left--
	}
	l.Buckets = append(others, asked)
	slices.SortFunc(l.Buckets, func(a, b impl.Bucket) int { return strings.Compare(a.Street, b.Street) })
	return impl.LimitOut{Limit: l, Yes: yes}
}

// cleanByHand says what LimitClean has to say.
func cleanByHand(l impl.Limit, now int64) impl.LimitOut {
	if !limitByHand(l) || !timeByHand(now) {
		return impl.LimitOut{Code: impl.ErrForm}
	}
	var stay []impl.Bucket
	for _, b := range l.Buckets {
		if b.At > now || leftByHand(l, b, now) < l.Burst {
			stay = append(stay, b)
		}
	}
	l.Buckets = stay
	return impl.LimitOut{Limit: l}
}

// jarByHand says what JarRight has to say.
func jarByHand(j impl.Jar) bool {
	if !atomByHand(j.Now) || j.Was == j.Now || !timeByHand(j.At) || !timeByHand(j.Next) {
		return false
	}
	return j.Was == "" || atomByHand(j.Was)
}

// tickByHand says what JarTick has to say.
func tickByHand(j impl.Jar, now int64) impl.JarOut {
	if !jarByHand(j) || !timeByHand(now) {
		return impl.JarOut{Code: impl.ErrForm}
	}
	was := j.Now
	switch {
	case now < j.At:
		return impl.JarOut{Code: impl.ErrRange}
	case now <= j.At+119:
		return impl.JarOut{Jar: j}
	case now >= j.At+240:
		was = ""
	}
	secret := fmt.Sprint("s", j.Next)
	if !atomByHand(secret) || j.Next == 1000000 || secret == was {
		return impl.JarOut{Code: impl.ErrFull}
	}
	return impl.JarOut{Jar: impl.Jar{Now: secret, Was: was, At: now, Next: j.Next + 1}}
}

// cookieByHand says what CookieOf has to say.
func cookieByHand(secret string, a impl.Addr) string {
	if !atomByHand(secret) || !addrByHand(a) {
		return ""
	}
	return written("mac", secret, written("pair", a.Street, a.House))
}

// fitsByHand says what Fits has to say.
func fitsByHand(j impl.Jar, m impl.Letter, a impl.Addr) bool {
	if !jarByHand(j) || !letterByHand(m) || !addrByHand(a) {
		return false
	}
	for _, secret := range []string{j.Now, j.Was} {
		twice := twiceByHand(m, cookieByHand(secret, a))
		if secret != "" && twice.Code == impl.OK && twice.Letter.Mac2 == m.Mac2 {
			return true
		}
	}
	return false
}

// sampleLimit is a right Limit that has buckets of n1, n2 and n3.
func sampleLimit() impl.Limit {
	return impl.Limit{Rate: 2, Burst: 9, Buckets: []impl.Bucket{{Street: "n1", Left: 0, At: 5}, {Street: "n2", Left: 4, At: 7}, {Street: "n3", Left: 9, At: 9}}}
}

// withBuckets is l with these buckets in place of its own.
func withBuckets(l impl.Limit, buckets ...impl.Bucket) impl.Limit {
	l.Buckets = buckets
	return l
}

// fullLimit is a right Limit that has that many empty buckets, of h0, h1 and so on, all of the time 10.
func fullLimit(n int) impl.Limit {
	l := impl.Limit{Rate: 1, Burst: 3}
	for i := range n {
		l.Buckets = append(l.Buckets, impl.Bucket{Street: fmt.Sprint("h", i), At: 10})
	}
	return l
}

// knock is a letter of that kind that is signed twice, by that cookie.
func knock(kind int64, cookie string) impl.Letter {
	return twiceByHand(signByHand(sampleLetter(kind), "[pub b]").Letter, cookie).Letter
}

// sameLimit: an empty list and none are the same.
func sameLimit(one, other impl.Limit) bool {
	return one.Rate == other.Rate && one.Burst == other.Burst && slices.Equal(one.Buckets, other.Buckets)
}

func wantLimit(t *testing.T, what string, got, want impl.LimitOut) {
	t.Helper()
	if got.Code != want.Code || got.Yes != want.Yes || !sameLimit(got.Limit, want.Limit) {
		t.Errorf("%s: got %+v, want %+v", what, got, want)
	}
}

// wantBucket looks at whether an ask tells this of the one bucket that there is, and lets by or not.
func wantBucket(t *testing.T, what string, got impl.LimitOut, yes bool, want impl.Bucket) {
	t.Helper()
	if got.Code != impl.OK || got.Yes != yes || !slices.Equal(got.Limit.Buckets, []impl.Bucket{want}) {
		t.Errorf("%s: got %+v, want %v and %+v alone", what, got, yes, want)
	}
}

func wantJar(t *testing.T, what string, got, want impl.JarOut) {
	t.Helper()
	if got != want {
		t.Errorf("%s: got %+v, want %+v", what, got, want)
	}
}

// wantWrongLimit looks at whether all that takes a Limit says that this is none.
func wantWrongLimit(t *testing.T, what string, l impl.Limit) {
	t.Helper()
	if impl.LimitRight(l) {
		t.Errorf("%s: LimitRight of %+v: it is not", what, l)
	}
	for _, now := range []int64{0, 1, 1000000} {
		wantLimit(t, what+": LimitAsk", impl.LimitAsk(l, "n1", now), impl.LimitOut{Code: impl.ErrForm})
		wantLimit(t, what+": LimitClean", impl.LimitClean(l, now), impl.LimitOut{Code: impl.ErrForm})
	}
}

// wantRightLimit looks at whether all that takes a Limit takes this one.
func wantRightLimit(t *testing.T, what string, l impl.Limit) {
	t.Helper()
	if !impl.LimitRight(l) {
		t.Errorf("%s: LimitRight of %+v: it is", what, l)
	}
	wantLimit(t, what+": LimitAsk", impl.LimitAsk(l, "n1", 1000000), askByHand(l, "n1", 1000000))
	wantLimit(t, what+": LimitClean", impl.LimitClean(l, 3), cleanByHand(l, 3))
}

// wantWrongJar looks at whether all that takes a Jar says that this is none.
func wantWrongJar(t *testing.T, what string, j impl.Jar) {
	t.Helper()
	if impl.JarRight(j) {
		t.Errorf("%s: JarRight of %+v: it is not", what, j)
	}
	for _, now := range []int64{0, 1, 300, 1000000} {
		wantJar(t, what, impl.JarTick(j, now), impl.JarOut{Code: impl.ErrForm})
	}
	a := impl.Addr{Street: "n1", House: "h1"}
	for _, secret := range []string{j.Now, j.Was} {
		if m := knock(impl.LtInit, cookieByHand(secret, a)); impl.Fits(j, m, a) {
			t.Errorf("%s: Fits of %+v and a cookie of %q: got true", what, j, secret)
		}
	}
}

func wantRightJar(t *testing.T, what string, j impl.Jar) {
	t.Helper()
	if !impl.JarRight(j) {
		t.Errorf("%s: JarRight of %+v: it is", what, j)
	}
	wantJar(t, what, impl.JarTick(j, j.At), impl.JarOut{Jar: j})
	a := impl.Addr{Street: "n1", House: "h1"}
	if !impl.Fits(j, knock(impl.LtInit, cookieByHand(j.Now, a)), a) {
		t.Errorf("%s: Fits of %+v and a cookie of Now: got false", what, j)
	}
}

// wrongAtoms are texts that are no atoms, of all sizes.
func wrongAtoms() []string {
	return []string{"", "A", "a ", " a", "a_", "a\n", "\x00", "é", "[hash a]", "[pub a]", "a b", "abcdefghi", "s10000000", strings.Repeat("a", 8000), strings.Repeat("a", 8001)}
}

func TestGuardConstants(t *testing.T) {
	if impl.Turn != 120 || impl.MaxStreets != 6 {
		t.Error("a number is not the document's")
	}
}

func TestAddrRight(t *testing.T) {
	for _, a := range []impl.Addr{{Street: "n1", House: "h1"}, {Street: "a", House: "a"}, {Street: "0", House: "9"}, {Street: "abcdefgh", House: "12345678"}} {
		if !impl.AddrRight(a) {
			t.Errorf("%+v is right", a)
		}
	}
	if impl.AddrRight(impl.Addr{}) {
		t.Error("no Addr at all is right")
	}
	for _, wrong := range wrongAtoms() {
		for _, a := range []impl.Addr{{Street: wrong, House: "h1"}, {Street: "n1", House: wrong}, {Street: wrong, House: wrong}} {
			if impl.AddrRight(a) {
				t.Errorf("%q, %q is not right", head(a.Street), head(a.House))
			}
		}
	}
}

func TestLimitNumbers(t *testing.T) {
	for _, n := range []int64{1, 2, 9, 10} {
		wantRightLimit(t, "a rate", impl.Limit{Rate: n, Burst: 5})
	}
	for _, n := range []int64{1, 2, 11, 99, 100} {
		wantRightLimit(t, "a burst", impl.Limit{Rate: 5, Burst: n})
	}
	for _, n := range []int64{0, -1, 11, 100, math.MaxInt64, math.MinInt64} {
		wantWrongLimit(t, "a rate", impl.Limit{Rate: n, Burst: 5})
	}
	for _, n := range []int64{0, -1, 101, math.MaxInt64, math.MinInt64} {
		wantWrongLimit(t, "a burst", impl.Limit{Rate: 5, Burst: n})
	}
	wantWrongLimit(t, "none", impl.Limit{})
}

func TestLimitNumberOfBuckets(t *testing.T) {
	wantRightLimit(t, "buckets", sampleLimit())
	for n := range 7 {
		wantRightLimit(t, fmt.Sprint(n, " buckets"), fullLimit(n))
	}
	// With two digits, what is counted up is not rising: 10 stands ahead of 2.
	for _, n := range []int{7, 8, 10} {
		wantWrongLimit(t, fmt.Sprint(n, " buckets"), fullLimit(n))
	}
	wantWrongLimit(t, "401 buckets", withBuckets(sampleLimit(), make([]impl.Bucket, 401)...))
}

func TestLimitRising(t *testing.T) {
	of := func(streets ...string) impl.Limit {
		l := impl.Limit{Rate: 1, Burst: 5}
		for _, street := range streets {
			l.Buckets = append(l.Buckets, impl.Bucket{Street: street, Left: 1, At: 1})
		}
		return l
	}
	for _, l := range []impl.Limit{of("a", "b"), of("a", "aa", "b"), of("0", "9", "a"), of("10", "2"), of("9z", "a0", "zzzzzzzz")} {
		wantRightLimit(t, "rising", l)
	}
	for _, l := range []impl.Limit{of("b", "a"), of("a", "a"), of("a", "b", "a"), of("a", "b", "b"), of("aa", "a"), of("a", "9"), of("2", "10"), of("b", "c", "a")} {
		wantWrongLimit(t, "not rising", l)
	}
	twice := of("a", "a")
	twice.Buckets[0].At, twice.Buckets[1].Left = 0, 2
	wantWrongLimit(t, "one street, two buckets", twice)
}

func TestLimitBuckets(t *testing.T) {
	l := impl.Limit{Rate: 3, Burst: 7}
	for _, left := range []int64{0, 1, 6, 7} {
		wantRightLimit(t, "Left", withBuckets(l, impl.Bucket{Street: "a", Left: left}))
	}
	for _, left := range []int64{-1, 8, 100, math.MaxInt64, math.MinInt64} {
		wantWrongLimit(t, "Left", withBuckets(l, impl.Bucket{Street: "a", Left: left}))
	}
	for _, at := range []int64{0, 1, 999999, 1000000} {
		wantRightLimit(t, "At", withBuckets(l, impl.Bucket{Street: "a", At: at}))
	}
	for _, at := range []int64{-1, 1000001, math.MaxInt64, math.MinInt64} {
		wantWrongLimit(t, "At", withBuckets(l, impl.Bucket{Street: "a", At: at}))
	}
	for _, street := range wrongAtoms() {
		wantWrongLimit(t, "Street", withBuckets(l, impl.Bucket{Street: street}))
	}
	// What is wrong is found in the last one, too.
	wrong := sampleLimit()
	wrong.Buckets[2].Left = 10
	wantWrongLimit(t, "the last bucket", wrong)
}

func TestLimitAsk(t *testing.T) {
	l := impl.Limit{Rate: 1, Burst: 3}
	at := func(left, at int64) impl.Bucket { return impl.Bucket{Street: "n1", Left: left, At: at} }
	out := impl.LimitAsk(l, "n1", 5)
	wantBucket(t, "the first", out, true, at(2, 5))
	out = impl.LimitAsk(out.Limit, "n1", 5)
	wantBucket(t, "the second", out, true, at(1, 5))
	out = impl.LimitAsk(out.Limit, "n1", 5)
	wantBucket(t, "the third", out, true, at(0, 5))
	out = impl.LimitAsk(out.Limit, "n1", 5)
	wantBucket(t, "one more than the burst", out, false, at(0, 5))
	out = impl.LimitAsk(out.Limit, "n1", 6)
	wantBucket(t, "a time later", out, true, at(0, 6))
	out = impl.LimitAsk(out.Limit, "n1", 8)
	wantBucket(t, "two times later", out, true, at(1, 8))
	wantBucket(t, "the last time", impl.LimitAsk(out.Limit, "n1", 1000000), true, at(2, 1000000))
	wantBucket(t, "time 0", impl.LimitAsk(l, "n1", 0), true, at(2, 0))
	if got := impl.LimitAsk(l, "n1", 0).Limit; got.Rate != 1 || got.Burst != 3 {
		t.Errorf("the numbers have changed: %+v", got)
	}
}

func TestLimitAskTimes(t *testing.T) {
	at := func(left, at int64) impl.Bucket { return impl.Bucket{Street: "n1", Left: left, At: at} }
	for _, c := range []struct {
		rate, burst int64
		had         impl.Bucket
		now         int64
		yes         bool
		left        int64
	}{
		{2, 9, at(0, 50), 50, false, 0},
		{2, 9, at(1, 50), 50, true, 0},
		{2, 9, at(9, 50), 50, true, 8},
		{2, 9, at(0, 50), 51, true, 1},
		{2, 9, at(1, 50), 53, true, 6},
		{2, 9, at(1, 50), 54, true, 8},
		{2, 9, at(2, 50), 54, true, 8},
		{2, 9, at(9, 50), 51, true, 8},
		{1, 1, at(0, 0), 1, true, 0},
		{1, 1, at(1, 0), 1000000, true, 0},
		{10, 100, at(0, 0), 9, true, 89},
		{10, 100, at(0, 0), 10, true, 99},
		{10, 100, at(1, 0), 10, true, 99},
		{10, 100, at(0, 0), 1000000, true, 99},
		{10, 100, at(100, 0), 1000000, true, 99},
		{1, 100, at(0, 999999), 1000000, true, 0},
	} {
		l := impl.Limit{Rate: c.rate, Burst: c.burst, Buckets: []impl.Bucket{c.had}}
		wantBucket(t, fmt.Sprintf("%+v at %d", l, c.now), impl.LimitAsk(l, "n1", c.now), c.yes, at(c.left, c.now))
	}
}

func TestLimitAskRange(t *testing.T) {
	l := sampleLimit()
	wantLimit(t, "one above now", impl.LimitAsk(l, "n2", 6), impl.LimitOut{Code: impl.ErrRange})
	wantLimit(t, "far above now", impl.LimitAsk(l, "n3", 0), impl.LimitOut{Code: impl.ErrRange})
	for _, now := range []int64{7, 8} {
		wantLimit(t, "not above now", impl.LimitAsk(l, "n2", now), askByHand(l, "n2", now))
	}
	// The buckets of other streets are not asked: some are above now, and they stay as they are.
	got := impl.LimitAsk(l, "n1", 6)
	want := impl.LimitOut{Limit: sampleLimit(), Yes: true}
	want.Limit.Buckets[0] = impl.Bucket{Street: "n1", Left: 1, At: 6}
	wantLimit(t, "another one above now", got, want)
	got = impl.LimitAsk(l, "n0", 0)
	want = impl.LimitOut{Limit: withBuckets(l, append([]impl.Bucket{{Street: "n0", Left: 8}}, l.Buckets...)...), Yes: true}
	wantLimit(t, "none there, all others above now", got, want)
	full := fullLimit(6)
	wantLimit(t, "above now where there is no room", impl.LimitAsk(full, "h3", 9), impl.LimitOut{Code: impl.ErrRange})
}

func TestLimitAskRoom(t *testing.T) {
	for n := range 6 {
		l := fullLimit(n)
		for _, street := range []string{"a", "h00", "z"} {
			got := impl.LimitAsk(l, street, 10)
			wantLimit(t, fmt.Sprint("room behind ", n), got, askByHand(l, street, 10))
			if !got.Yes || len(got.Limit.Buckets) != n+1 || !impl.LimitRight(got.Limit) {
				t.Errorf("%s as one more than %d: got %+v", street, n, got)
			}
		}
	}
	full := fullLimit(6)
	for _, now := range []int64{0, 9, 10, 11, 1000000} {
		wantLimit(t, "no room", impl.LimitAsk(full, "h6", now), impl.LimitOut{Code: impl.ErrFull})
		wantLimit(t, "no room", impl.LimitAsk(full, "a", now), impl.LimitOut{Code: impl.ErrFull})
	}
	for _, b := range full.Buckets {
		wantLimit(t, "one of six", impl.LimitAsk(full, b.Street, 10), askByHand(full, b.Street, 10))
		wantLimit(t, "one of six", impl.LimitAsk(full, b.Street, 12), askByHand(full, b.Street, 12))
	}
	// Room comes with cleaning alone, even if all that is there is full again.
	cleaned := impl.LimitClean(full, 13).Limit
	if got := impl.LimitAsk(cleaned, "h6", 13); !got.Yes || len(got.Limit.Buckets) != 1 {
		t.Errorf("cleaned: got %+v", got)
	}
}

func TestLimitAskForm(t *testing.T) {
	form := impl.LimitOut{Code: impl.ErrForm}
	for _, street := range wrongAtoms() {
		want := form
		if len(street) > 8000 {
			want.Code = impl.ErrSize
		}
		wantLimit(t, "street "+head(street), impl.LimitAsk(sampleLimit(), street, 10), want)
		wantLimit(t, "street "+head(street)+", no room", impl.LimitAsk(fullLimit(6), street, 10), want)
		wantLimit(t, "street "+head(street)+", nothing right", impl.LimitAsk(impl.Limit{}, street, -1), want)
	}
	for _, now := range []int64{-1, 1000001, math.MaxInt64, math.MinInt64} {
		wantLimit(t, "no time", impl.LimitAsk(sampleLimit(), "n1", now), form)
		wantLimit(t, "no time, no bucket", impl.LimitAsk(sampleLimit(), "n5", now), form)
		wantLimit(t, "no time, no room", impl.LimitAsk(fullLimit(6), "n5", now), form)
		wantLimit(t, "no time to clean", impl.LimitClean(sampleLimit(), now), form)
		wantLimit(t, "no time to clean nothing", impl.LimitClean(impl.Limit{Rate: 1, Burst: 1}, now), form)
	}
	// ErrForm is ahead of ErrRange and ErrFull.
	wrong := fullLimit(6)
	wrong.Buckets[0].Left = 4
	wantLimit(t, "above now and not right", impl.LimitAsk(wrong, "h1", 0), form)
	wantLimit(t, "no room and not right", impl.LimitAsk(wrong, "h7", 10), form)
}

func TestLimitClean(t *testing.T) {
	l := sampleLimit()
	n1, n2, n3 := l.Buckets[0], l.Buckets[1], l.Buckets[2]
	for _, c := range []struct {
		now  int64
		stay []impl.Bucket
	}{
		{0, []impl.Bucket{n1, n2, n3}},
		{8, []impl.Bucket{n1, n2, n3}},
		{9, []impl.Bucket{n1, n2}},
		{10, nil},
		{1000000, nil},
	} {
		wantLimit(t, fmt.Sprint("cleaned at ", c.now), impl.LimitClean(l, c.now), impl.LimitOut{Limit: withBuckets(l, c.stay...)})
	}
	n2.Left = 9
	wantLimit(t, "one between two", impl.LimitClean(withBuckets(l, n1, n2, n3), 8), impl.LimitOut{Limit: withBuckets(l, n1, n3)})
	// What stays is as it was: it has no more, and its time is not now.
	wantLimit(t, "as it was", impl.LimitClean(fullLimit(6), 12), impl.LimitOut{Limit: fullLimit(6)})
	wantLimit(t, "no bucket", impl.LimitClean(impl.Limit{Rate: 3, Burst: 4}, 5), impl.LimitOut{Limit: impl.Limit{Rate: 3, Burst: 4}})
}

func TestLimitCleanTimes(t *testing.T) {
	for _, c := range []struct {
		rate, burst, left, at, now int64
		stays                      bool
	}{
		{1, 3, 0, 10, 12, true},
		{1, 3, 0, 10, 13, false},
		{1, 3, 0, 10, 14, false},
		{2, 3, 0, 10, 11, true},
		{2, 3, 0, 10, 12, false},
		{2, 3, 1, 10, 11, false},
		{1, 3, 3, 10, 10, false},
		{1, 3, 2, 10, 10, true},
		{1, 3, 3, 10, 9, true},
		{1, 3, 3, 10, 0, true},
		{1, 3, 2, 10, 9, true},
		{10, 100, 0, 0, 9, true},
		{10, 100, 0, 0, 10, false},
		{10, 100, 0, 0, 1000000, false},
		{10, 100, 0, 1000000, 0, true},
		{10, 100, 100, 1000000, 1000000, false},
		{10, 100, 99, 1000000, 1000000, true},
	} {
		l := impl.Limit{Rate: c.rate, Burst: c.burst, Buckets: []impl.Bucket{{Street: "a", Left: c.left, At: c.at}}}
		want := impl.LimitOut{Limit: l}
		if !c.stays {
			want.Limit.Buckets = nil
		}
		wantLimit(t, fmt.Sprintf("%+v", c), impl.LimitClean(l, c.now), want)
	}
}

func TestJarRight(t *testing.T) {
	j := impl.Jar{Now: "s1", Was: "s0", At: 120, Next: 2}
	wantRightJar(t, "a jar", j)
	wantRightJar(t, "a new jar", impl.Jar{Now: "s0", Next: 1})
	wantRightJar(t, "another name", impl.Jar{Now: "abcdefgh", Was: "0"})
	wantRightJar(t, "next like now", impl.Jar{Now: "s5", Next: 5})
	for _, n := range []int64{0, 1, 999999, 1000000} {
		wantRightJar(t, "Next", impl.Jar{Now: "k", Was: "m", Next: n})
		wantRightJar(t, "At", impl.Jar{Now: "k", Was: "m", At: n})
	}
	for _, n := range []int64{-1, 1000001, math.MaxInt64, math.MinInt64} {
		wantWrongJar(t, "Next", impl.Jar{Now: "k", Was: "m", Next: n})
		wantWrongJar(t, "At", impl.Jar{Now: "k", Was: "m", At: n})
	}
	for _, text := range wrongAtoms() {
		wantWrongJar(t, "Now", impl.Jar{Now: text, Next: 1})
		wantWrongJar(t, "Now, with a Was", impl.Jar{Now: text, Was: "k", Next: 1})
		if text != "" {
			wantWrongJar(t, "Was", impl.Jar{Now: "k", Was: text, Next: 1})
		}
	}
	wantWrongJar(t, "Was is Now", impl.Jar{Now: "k", Was: "k", Next: 1})
	wantWrongJar(t, "none", impl.Jar{})
}

func TestJarTick(t *testing.T) {
	j := impl.Jar{Now: "s4", Was: "s3", At: 1000, Next: 5}
	for _, now := range []int64{1000, 1001, 1118, 1119} {
		wantJar(t, fmt.Sprint("within a turn at ", now), impl.JarTick(j, now), impl.JarOut{Jar: j})
	}
	for _, now := range []int64{1120, 1121, 1238, 1239} {
		want := impl.JarOut{Jar: impl.Jar{Now: "s5", Was: "s4", At: now, Next: 6}}
		wantJar(t, fmt.Sprint("a turn later at ", now), impl.JarTick(j, now), want)
	}
	for _, now := range []int64{1240, 1241, 1360, 1000000} {
		want := impl.JarOut{Jar: impl.Jar{Now: "s5", At: now, Next: 6}}
		wantJar(t, fmt.Sprint("two turns later at ", now), impl.JarTick(j, now), want)
	}
	// What Was is makes no other jar of it.
	j.Was = ""
	wantJar(t, "no Was, within a turn", impl.JarTick(j, 1119), impl.JarOut{Jar: j})
	wantJar(t, "no Was, a turn later", impl.JarTick(j, 1120), impl.JarOut{Jar: impl.Jar{Now: "s5", Was: "s4", At: 1120, Next: 6}})
	wantJar(t, "from 0 on", impl.JarTick(impl.Jar{Now: "k"}, 120), impl.JarOut{Jar: impl.Jar{Now: "s0", Was: "k", At: 120, Next: 1}})
	wantJar(t, "the last time", impl.JarTick(impl.Jar{Now: "k", At: 999880}, 1000000), impl.JarOut{Jar: impl.Jar{Now: "s0", Was: "k", At: 1000000, Next: 1}})
}

func TestJarTickFaults(t *testing.T) {
	j := impl.Jar{Now: "s4", Was: "s3", At: 1000, Next: 5}
	for _, now := range []int64{-1, 1000001, math.MaxInt64, math.MinInt64} {
		wantJar(t, "no time", impl.JarTick(j, now), impl.JarOut{Code: impl.ErrForm})
	}
	for _, now := range []int64{0, 880, 999} {
		wantJar(t, "less than At", impl.JarTick(j, now), impl.JarOut{Code: impl.ErrRange})
	}
	j.Next = 1000000
	wantJar(t, "less than At, no next number", impl.JarTick(j, 999), impl.JarOut{Code: impl.ErrRange})
}

func TestJarTickFull(t *testing.T) {
	full := impl.JarOut{Code: impl.ErrFull}
	last := impl.Jar{Now: "k", Was: "m", At: 10, Next: 1000000}
	wantJar(t, "Next at MaxTime, within a turn", impl.JarTick(last, 129), impl.JarOut{Jar: last})
	wantJar(t, "Next at MaxTime", impl.JarTick(last, 130), full)
	wantJar(t, "Next at MaxTime, two turns later", impl.JarTick(last, 250), full)
	last.Next = 999999
	wantJar(t, "Next below MaxTime", impl.JarTick(last, 130), impl.JarOut{Jar: impl.Jar{Now: "s999999", Was: "k", At: 130, Next: 1000000}})
	again := impl.Jar{Now: "s7", Was: "m", At: 10, Next: 7}
	wantJar(t, "as it was, within a turn", impl.JarTick(again, 129), impl.JarOut{Jar: again})
	wantJar(t, "as it was", impl.JarTick(again, 130), full)
	wantJar(t, "as it was, late", impl.JarTick(again, 249), full)
	// Two turns later there is no Was that it could be.
	wantJar(t, "as it was, two turns later", impl.JarTick(again, 250), impl.JarOut{Jar: impl.Jar{Now: "s7", At: 250, Next: 8}})
	// What is one more turn back is Was no longer.
	back := impl.Jar{Now: "k", Was: "s7", At: 10, Next: 7}
	wantJar(t, "as the one ahead of it", impl.JarTick(back, 130), impl.JarOut{Jar: impl.Jar{Now: "s7", Was: "k", At: 130, Next: 8}})
	wantJar(t, "nearly as it was", impl.JarTick(impl.Jar{Now: "s07", Next: 7}, 120), impl.JarOut{Jar: impl.Jar{Now: "s7", Was: "s07", At: 120, Next: 8}})
}

func TestCookieOf(t *testing.T) {
	a := impl.Addr{Street: "n1", House: "h1"}
	for _, c := range []struct {
		secret string
		a      impl.Addr
		want   string
	}{
		{"s0", a, "[mac s0 [pair n1 h1]]"},
		{"h1", impl.Addr{Street: "h1", House: "n1"}, "[mac h1 [pair h1 n1]]"},
		{"0", impl.Addr{Street: "0", House: "0"}, "[mac 0 [pair 0 0]]"},
		{"abcdefgh", impl.Addr{Street: "abcdefgh", House: "12345678"}, "[mac abcdefgh [pair abcdefgh 12345678]]"},
		{"s0", impl.Addr{}, ""},
		{"", impl.Addr{}, ""},
	} {
		if got := impl.CookieOf(c.secret, c.a); got != c.want {
			t.Errorf("CookieOf(%q, %+v): got %q, want %q", c.secret, c.a, got, c.want)
		}
	}
	for _, wrong := range wrongAtoms() {
		for _, got := range []string{impl.CookieOf(wrong, a), impl.CookieOf("s0", impl.Addr{Street: wrong, House: "h1"}), impl.CookieOf("s0", impl.Addr{Street: "n1", House: wrong})} {
			if got != "" {
				t.Errorf("with %q: got %q", head(wrong), head(got))
			}
		}
	}
}

func TestFits(t *testing.T) {
	a := impl.Addr{Street: "n1", House: "h1"}
	j := impl.Jar{Now: "s2", Was: "s1", At: 240, Next: 3}
	for _, kind := range []int64{impl.LtInit, impl.LtResp} {
		now, was, no := knock(kind, "[mac s2 [pair n1 h1]]"), knock(kind, "[mac s1 [pair n1 h1]]"), knock(kind, "[mac s0 [pair n1 h1]]")
		for _, c := range []struct {
			what string
			j    impl.Jar
			m    impl.Letter
			a    impl.Addr
			want bool
		}{
			{"a cookie of now", j, now, a, true},
			{"a cookie of was", j, was, a, true},
			{"a cookie of neither", j, no, a, false},
			{"of now, no was", impl.Jar{Now: "s2"}, now, a, true},
			{"of what was, no was", impl.Jar{Now: "s2"}, was, a, false},
			{"signed once, no was", impl.Jar{Now: "s2"}, withMacs(now, now.Mac1, ""), a, false},
			{"signed once", j, withMacs(now, now.Mac1, ""), a, false},
			{"not signed", j, withMacs(now, "", ""), a, false},
			{"not signed, no was", impl.Jar{Now: "s2"}, withMacs(now, "", ""), a, false},
			{"another house", j, now, impl.Addr{Street: "n1", House: "h2"}, false},
			{"another street", j, now, impl.Addr{Street: "n2", House: "h1"}, false},
			{"street and house the other way round", j, now, impl.Addr{Street: "h1", House: "n1"}, false},
			{"the cookie itself", j, withMacs(now, now.Mac1, "[mac s2 [pair n1 h1]]"), a, false},
			{"by the secret itself", j, knock(kind, "s2"), a, false},
			{"by the lock", j, knock(kind, "[pub b]"), a, false},
			{"another first mac", j, withMacs(now, "x", now.Mac2), a, false},
			{"another part", j, withParts(now, slices.Repeat([]string{"x"}, kindParts[kind])...), a, false},
			{"no jar", impl.Jar{}, now, a, false},
			{"no Addr", j, now, impl.Addr{}, false},
			{"no letter", j, impl.Letter{}, a, false},
		} {
			if got := impl.Fits(c.j, c.m, c.a); got != c.want {
				t.Errorf("%s, kind %d: got %v", c.what, kind, got)
			}
		}
	}
	for _, kind := range []int64{impl.LtCookie, impl.LtData} {
		if impl.Fits(j, sampleLetter(kind), a) {
			t.Errorf("a letter of kind %d, that has no macs, fits", kind)
		}
	}
}

func TestFitsOfWrong(t *testing.T) {
	a := impl.Addr{Street: "n1", House: "h1"}
	j := impl.Jar{Now: "s2", Was: "s1", At: 240, Next: 3}
	m := knock(impl.LtInit, "[mac s2 [pair n1 h1]]")
	if !impl.Fits(j, m, a) {
		t.Fatal("all three are right")
	}
	letter := m
	letter.From = 1000
	jar := j
	jar.Next = -1
	if impl.Fits(j, letter, a) || impl.Fits(jar, m, a) {
		t.Error("one of the three is not right")
	}
	// An Addr that is none has no cookie, even if its term could be written.
	for _, wrong := range []string{"[hash a]", "[pub b]"} {
		m := knock(impl.LtInit, written("mac", "s2", written("pair", wrong, "h1")))
		if m.Mac2 == "" || impl.Fits(j, m, impl.Addr{Street: wrong, House: "h1"}) {
			t.Errorf("%q as a street fits", wrong)
		}
	}
	for _, wrong := range wrongAtoms() {
		if impl.Fits(j, m, impl.Addr{Street: wrong, House: "h1"}) || impl.Fits(j, m, impl.Addr{Street: "n1", House: wrong}) {
			t.Errorf("an Addr with %q fits", head(wrong))
		}
	}
}

// anyLimit is a Limit that is right now and then.
func anyLimit(r *rand.Rand) impl.Limit {
	l := impl.Limit{Rate: 1 + r.Int64N(10), Burst: 1 + r.Int64N(100)>>r.IntN(7)}
	for _, street := range []string{"0", "a", "a0", "b", "c", "d", "z"} {
		if r.IntN(3) > 0 {
			l.Buckets = append(l.Buckets, impl.Bucket{Street: street, Left: r.Int64N(l.Burst + 1), At: r.Int64N(40)})
		}
	}
	if r.IntN(3) > 0 {
		return l
	}
	numbers := []int64{-1, 0, 1, 10, 11, 100, 101, 1000000, 1000001}
	n := numbers[r.IntN(len(numbers))]
	at := r.IntN(len(l.Buckets) + 2)
	switch {
	case at == 0:
		l.Rate = n
	case at == 1:
		l.Burst = n
	case r.IntN(3) == 0:
		l.Buckets[at-2].Left = n
	case r.IntN(2) == 0:
		l.Buckets[at-2].At = n
	default:
		l.Buckets[at-2].Street = []string{"0", "b", "z", "", "A"}[r.IntN(5)]
	}
	return l
}

// Any Limit, right or not, against the second reading of each function.
func TestLimitsByHand(t *testing.T) {
	r := rand.New(rand.NewPCG(31, 32))
	codes := map[int64]int{}
	for range 20000 {
		l := anyLimit(r)
		street := []string{"0", "a", "a0", "b", "c", "d", "z", "y", "A"}[r.IntN(9)]
		now := r.Int64N(50) - 1
		if r.IntN(10) == 0 {
			now = 999999 + r.Int64N(3)
		}
		if impl.LimitRight(l) != limitByHand(l) {
			t.Fatalf("LimitRight(%+v): got %v", l, impl.LimitRight(l))
		}
		want := askByHand(l, street, now)
		codes[want.Code]++
		wantLimit(t, fmt.Sprintf("LimitAsk(%+v, %q, %d)", l, street, now), impl.LimitAsk(l, street, now), want)
		wantLimit(t, fmt.Sprintf("LimitClean(%+v, %d)", l, now), impl.LimitClean(l, now), cleanByHand(l, now))
	}
	for _, code := range []int64{impl.OK, impl.ErrForm, impl.ErrRange, impl.ErrFull} {
		if codes[code] < 500 {
			t.Errorf("%d of 20000 told code %d: too few to tell", codes[code], code)
		}
	}
}

// anyJar is a Jar that is right now and then, at whose names and numbers something may happen.
func anyJar(r *rand.Rand) impl.Jar {
	names := []string{"s0", "s1", "s2", "k", "s999999", "abcdefgh", "", "A"}
	numbers := []int64{0, 1, 2, 3, 120, 999998, 999999, 1000000, -1, 1000001}
	return impl.Jar{Now: names[r.IntN(7)], Was: names[r.IntN(len(names))], At: numbers[r.IntN(len(numbers))], Next: numbers[r.IntN(len(numbers))]}
}

// Any Jar, Addr and letter, right or not, against the second reading of each function.
func TestJarsByHand(t *testing.T) {
	r := rand.New(rand.NewPCG(33, 34))
	codes, fit := map[int64]int{}, map[bool]int{}
	for range 20000 {
		j := anyJar(r)
		now := j.At + []int64{-1, 0, 1, 119, 120, 121, 239, 240, 241, 1000}[r.IntN(10)]
		if impl.JarRight(j) != jarByHand(j) {
			t.Fatalf("JarRight(%+v): got %v", j, impl.JarRight(j))
		}
		want := tickByHand(j, now)
		codes[want.Code]++
		wantJar(t, fmt.Sprintf("JarTick(%+v, %d)", j, now), impl.JarTick(j, now), want)
		atoms := []string{"a", "b", "a", "b", "a", "b", "A", "", "[hash a]"}
		a := impl.Addr{Street: atoms[r.IntN(9)], House: atoms[r.IntN(9)]}
		secret := []string{j.Now, j.Now, j.Was, "s1"}[r.IntN(4)]
		if got := impl.CookieOf(secret, a); got != cookieByHand(secret, a) {
			t.Fatalf("CookieOf(%q, %+v): got %q", secret, a, got)
		}
		m := anyLetter(r)
		if hasMacs(m.Kind) {
			m = signByHand(m, "[pub b]").Letter
		}
		if twice := twiceByHand(m, cookieByHand(secret, a)); twice.Code == impl.OK {
			m = twice.Letter
		}
		if r.IntN(4) == 0 && m.Kind != 0 {
			m = spoiled(r, m)
		}
		fits := fitsByHand(j, m, a)
		fit[fits]++
		if impl.Fits(j, m, a) != fits {
			t.Fatalf("Fits(%+v, %+v, %+v): got %v", j, m, a, !fits)
		}
	}
	for _, code := range []int64{impl.OK, impl.ErrForm, impl.ErrRange, impl.ErrFull} {
		if codes[code] < 300 {
			t.Errorf("%d of 20000 told code %d: too few to tell", codes[code], code)
		}
	}
	if fit[true] < 1000 || fit[false] < 1000 {
		t.Errorf("%d fitted, %d did not: too few of one sort", fit[true], fit[false])
	}
}

// wantNoMore looks at whether of those that were let by, at these times that do not fall, no more
// fall into any time than the burst, and the rate for each time.
func wantNoMore(t *testing.T, street string, rate, burst int64, letBy []int64) {
	t.Helper()
	for from := range letBy {
		for to := from; to < len(letBy); to++ {
			times := letBy[to] - letBy[from]
			if got := int64(to - from + 1); got > burst+rate*times {
				t.Fatalf("%d of %s were let by in %d times from %d on, by a burst of %d and a rate of %d", got, street, times, letBy[from], burst, rate)
			}
		}
	}
}

// Promise 6: whatever is asked, and cleaned, in a time no more is let by of a street than the burst,
// and the rate for each time.
func TestPromise6NoMoreLetBy(t *testing.T) {
	r := rand.New(rand.NewPCG(35, 36))
	streets := []string{"n0", "n1", "n2", "n3", "n4", "n5", "n6", "n7"}
	cleaned, refused := 0, 0
	for round := range 300 {
		l := impl.Limit{Rate: 1 + r.Int64N(10)>>r.IntN(4), Burst: 1 + r.Int64N(100)>>r.IntN(7)}
		l.Rate = max(l.Rate, 1)
		rate, burst := l.Rate, l.Burst
		letBy := map[string][]int64{}
		now := r.Int64N(1000)
		for range 400 {
			now += max(0, r.Int64N(12)-9+int64(round%3))
			street := streets[min(r.IntN(8), r.IntN(8))]
			if r.IntN(6) == 0 {
				out := impl.LimitClean(l, now)
				cleaned += len(l.Buckets) - len(out.Limit.Buckets)
				l = out.Limit
			}
			out := impl.LimitAsk(l, street, now)
			if out.Code == impl.ErrFull {
				continue
			}
			if out.Code != impl.OK || !impl.LimitRight(out.Limit) || out.Limit.Rate != rate || out.Limit.Burst != burst {
				t.Fatalf("LimitAsk(%+v, %q, %d): got %+v", l, street, now, out)
			}
			l = out.Limit
			if out.Yes {
				letBy[street] = append(letBy[street], now)
			} else {
				refused++
			}
		}
		for street, times := range letBy {
			wantNoMore(t, street, rate, burst, times)
		}
	}
	if cleaned < 1000 || refused < 1000 {
		t.Errorf("%d were cleaned, %d not let by: too few to tell", cleaned, refused)
	}
}

// Promise 6 where all asks are at the times that let by the most: just as much is let by, and no more.
func TestPromise6AsMuchAsMayBe(t *testing.T) {
	for rate := int64(1); rate <= 10; rate++ {
		for _, burst := range []int64{1, 2, 5, 10, 11, 99, 100} {
			l := impl.Limit{Rate: rate, Burst: burst}
			for now := int64(0); now < 5; now++ {
				want := burst
				if now > 0 {
					want = min(rate, burst)
				}
				for n := range burst + 2 {
					out := impl.LimitAsk(l, "n1", now)
					if out.Yes != (n < want) {
						t.Fatalf("rate %d, burst %d, ask %d at %d: got %+v", rate, burst, n, now, out)
					}
					l = impl.LimitClean(out.Limit, now).Limit
				}
			}
		}
	}
}

// Promise 7: the secret of now is younger than a turn.
func TestPromise7SecretIsYoung(t *testing.T) {
	r := rand.New(rand.NewPCG(37, 38))
	for range 200 {
		j := impl.Jar{Now: "s0", Next: 1}
		now, since, secrets := int64(0), int64(0), map[string]bool{"s0": true}
		for now < 5000 {
			now += []int64{0, 1, 60, 119, 120, 121, 239, 240, 300}[r.IntN(9)] + r.Int64N(3)
			out := impl.JarTick(j, now)
			if out.Code != impl.OK || !impl.JarRight(out.Jar) {
				t.Fatalf("JarTick(%+v, %d): got %+v", j, now, out)
			}
			if out.Jar.Now != j.Now {
				if since = now; secrets[out.Jar.Now] {
					t.Fatalf("JarTick(%+v, %d): %s was there before", j, now, out.Jar.Now)
				}
			}
			secrets[out.Jar.Now] = true
			if j = out.Jar; now-since >= 120 || j.At != since {
				t.Fatalf("at %d the jar is %+v, since %d", now, j, since)
			}
		}
	}
}

// Promise 7: what was let by with a cookie of now is let by a turn later, and two turns later it is
// not. Ticks between turn the jar sooner: then it is not let by any more once that was turned, too.
func TestPromise7LetBy(t *testing.T) {
	a := impl.Addr{Street: "n1", House: "h1"}
	m := knock(impl.LtInit, impl.CookieOf("s5", a))
	letBy := func(j impl.Jar) bool { return impl.Fits(j, m, a) }
	tick := func(j impl.Jar, now int64) impl.Jar {
		out := impl.JarTick(j, now)
		if out.Code != impl.OK {
			t.Fatalf("JarTick(%+v, %d): got %+v", j, now, out)
		}
		return out.Jar
	}
	first := impl.Jar{Now: "s5", Was: "s4", At: 1000, Next: 6}
	for at := int64(1000); at < 1120; at++ {
		j := tick(first, at)
		if !letBy(j) || !letBy(tick(j, at+120)) || letBy(tick(j, at+240)) {
			t.Errorf("a cookie told at %d: not let by at once and a turn later alone", at)
		}
		for between := at; between <= at+120; between++ {
			sooner := tick(j, between)
			later := tick(sooner, at+120)
			if !letBy(sooner) || !letBy(later) {
				t.Errorf("a cookie told at %d, a tick at %d: not let by a turn later", at, between)
			}
			if !letBy(tick(later, later.At+119)) || letBy(tick(later, later.At+120)) || letBy(tick(later, later.At+240)) {
				t.Errorf("a cookie told at %d, a tick at %d: not let by till it was turned again", at, between)
			}
		}
	}
}

// bucketTexts are the streets of all buckets.
func bucketTexts(l impl.Limit) []string {
	var texts []string
	for _, b := range l.Buckets {
		texts = append(texts, b.Street)
	}
	return texts
}

func TestGuardKeepsWhatItIsGiven(t *testing.T) {
	buckets := append(make([]impl.Bucket, 0, 8), impl.Bucket{Street: "nnn1", Left: 1, At: 5}, impl.Bucket{Street: "nnn3", Left: 3, At: 5})
	buckets[:3][2].Street = "behind"
	before := slices.Clone(buckets[:3])
	l := impl.Limit{Rate: 1, Burst: 4, Buckets: buckets}
	street := "nnn2"
	ask := func() []impl.LimitOut {
		return []impl.LimitOut{impl.LimitAsk(l, street, 5), impl.LimitAsk(l, "nnn3", 5), impl.LimitAsk(l, "nnn1", 8), impl.LimitClean(l, 5), impl.LimitClean(l, 6)}
	}
	want := ask()
	for _, told := range ask() {
		if sameBytes(bucketTexts(told.Limit), append(bucketTexts(l), street)) {
			t.Error("what is told shares memory with what was handed in")
		}
		for i := range told.Limit.Buckets[:cap(told.Limit.Buckets)] {
			told.Limit.Buckets[:cap(told.Limit.Buckets)][i] = impl.Bucket{Street: "changed"}
		}
	}
	if !slices.Equal(buckets[:3], before) {
		t.Errorf("what was handed in has changed: %+v", buckets[:3])
	}
	for i, again := range ask() {
		wantLimit(t, "asked again", again, want[i])
	}
	j := impl.Jar{Now: "now1", Was: "was1", At: 10, Next: 3}
	for _, now := range []int64{10, 129, 130, 250} {
		told := impl.JarTick(j, now).Jar
		if sameBytes([]string{told.Now, told.Was}, []string{j.Now, j.Was}) {
			t.Errorf("the jar at %d shares memory with what was handed in", now)
		}
	}
}
