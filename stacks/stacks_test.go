package stacks_test

import (
	"math"
	"math/rand"
	"reflect"
	"slices"
	"strconv"
	"strings"
	"testing"

	"gansey/api"
	"gansey/stacks"
)

// The tests count the limits themselves, so that they do not depend on what they test.
const (
	needleCount = 40
	maxStack    = 4
)

// badNames are names of loops that are not valid, at the ends of their limits and beyond.
var badNames = []api.Id{
	{}, {Yarn: 0, N: 5}, {Yarn: 7}, {Yarn: 7, N: 2047}, {Yarn: 255}, {Yarn: 1, N: -1}, {Yarn: 1, N: 2048}, {Yarn: 6, N: 2048},
	{Yarn: 2, N: 1 << 32}, {Yarn: 3, N: 1 << 62}, {Yarn: 4, N: math.MaxInt}, {Yarn: 5, N: math.MinInt}, {Yarn: 7, N: -1},
}

// badNeedles are needles that are not valid, some of which would be valid if numbers overflowed.
var badNeedles = []api.Needle{
	{}, front(0), back(0), front(41), back(41), front(-1), back(-1), front(42), back(80), {Bed: 2, At: 1}, {Bed: 2, At: 40}, {Bed: 3, At: 2},
	{Bed: 255, At: 2}, {Bed: 2}, front(math.MaxInt), front(math.MinInt), back(math.MaxInt), back(math.MinInt), front(1<<8 + 2), back(1<<32 + 2), front(1<<62 + 2),
}

func front(at int) api.Needle { return api.Needle{Bed: api.Front, At: at} }

func back(at int) api.Needle { return api.Needle{Bed: api.Back, At: at} }

// allNeedles returns all valid needles.
func allNeedles() []api.Needle {
	var all []api.Needle
	for _, bed := range []api.Bed{api.Front, api.Back} {
		for at := 1; at <= needleCount; at++ {
			all = append(all, api.Needle{Bed: bed, At: at})
		}
	}
	return all
}

// loop reads the name of a loop, such as 1.0.
func loop(s string) api.Id {
	yarn, n, ok := strings.Cut(s, ".")
	y, err := strconv.Atoi(yarn)
	k, err2 := strconv.Atoi(n)
	if !ok || err != nil || err2 != nil {
		panic(s)
	}
	return api.Id{Yarn: uint8(y), N: k}
}

// loops reads the names of loops.
func loops(s string) []api.Id {
	var l []api.Id
	for _, name := range strings.Fields(s) {
		l = append(l, loop(name))
	}
	return l
}

// some returns so many loops of a yarn, from a number on.
func some(yarn uint8, from, count int) []api.Id {
	l := make([]api.Id, count)
	for i := range l {
		l[i] = api.Id{Yarn: yarn, N: from + i}
	}
	return l
}

// stack is what a needle holds.
type stack struct {
	needle api.Needle
	loops  []api.Id
}

// holds returns the stack of a needle, such as f2 with 1.0 1.1.
func holds(needle, names string) stack {
	at, err := strconv.Atoi(needle[1:])
	if err != nil {
		panic(needle)
	}
	n := front(at)
	if needle[0] == 'b' {
		n = back(at)
	}
	return stack{n, loops(names)}
}

// beds returns the beds with these stacks, the last one of each of which is the greatest that is named.
func beds(list ...stack) stacks.Beds {
	var b stacks.Beds
	for _, s := range list {
		bed := &b.Front
		if s.needle.Bed == api.Back {
			bed = &b.Back
		}
		for len(*bed) < s.needle.At {
			*bed = append(*bed, nil)
		}
		(*bed)[s.needle.At-1] = s.loops
	}
	return b
}

// example returns the beds of the chapter.
func example() stacks.Beds { return beds(holds("f2", "1.0 1.1"), holds("b2", "2.0")) }

// fullBeds returns the beds on which every needle holds four loops.
func fullBeds() stacks.Beds {
	var list []stack
	for _, n := range allNeedles() {
		list = append(list, stack{n, some(uint8(n.Bed)+1, 4*n.At, maxStack)})
	}
	return beds(list...)
}

// clone returns the same beds in other memory.
func clone(b stacks.Beds) stacks.Beds {
	bed := func(list [][]api.Id) [][]api.Id {
		var own [][]api.Id
		for _, l := range list {
			own = append(own, slices.Clone(l))
		}
		return own
	}
	return stacks.Beds{Front: bed(b.Front), Back: bed(b.Back)}
}

// equal reports whether two beds have the same stacks, those that are empty and last included.
func equal(a, b stacks.Beds) bool {
	bed := func(x, y [][]api.Id) bool { return slices.EqualFunc(x, y, slices.Equal[[]api.Id]) }
	return bed(a.Front, b.Front) && bed(a.Back, b.Back)
}

// trimmed returns beds without the empty stacks behind the last one that holds something.
func trimmed(b stacks.Beds) stacks.Beds {
	b = clone(b)
	for _, bed := range []*[][]api.Id{&b.Front, &b.Back} {
		for len(*bed) > 0 && len((*bed)[len(*bed)-1]) == 0 {
			*bed = (*bed)[:len(*bed)-1]
		}
	}
	return b
}

// replace lets a needle hold these loops; the beds have a stack for it.
func replace(b stacks.Beds, n api.Needle, l []api.Id) {
	[][][]api.Id{b.Front, b.Back}[n.Bed][n.At-1] = l
}

// padded returns beds with so many more empty stacks behind the last one.
func padded(b stacks.Beds, front, back int) stacks.Beds {
	b = clone(b)
	for range front {
		b.Front = append(b.Front, nil)
	}
	for range back {
		b.Back = append(b.Back, []api.Id{})
	}
	return b
}

// isTight reports whether no slice of some beds has room for more.
func isTight(b stacks.Beds) bool {
	for _, bed := range [][][]api.Id{b.Front, b.Back} {
		if cap(bed) != len(bed) {
			return false
		}
		for _, l := range bed {
			if cap(l) != len(l) {
				return false
			}
		}
	}
	return true
}

// checkBeds compares beds that a function returned with what they should be: with an error nothing, otherwise these beds, short and without room for more.
func checkBeds(t *testing.T, what string, got stacks.Beds, ge api.Errno, want stacks.Beds, e api.Errno) {
	t.Helper()
	if ge != e {
		t.Errorf("%s has the error %d, expected %d", what, ge, e)
	}
	if e != api.OK && (len(got.Front) != 0 || len(got.Back) != 0) {
		t.Errorf("%s = %v with the error %d", what, got, ge)
	}
	if e == api.OK && !equal(got, trimmed(want)) {
		t.Errorf("%s = %v, expected %v", what, got, trimmed(want))
	}
	if !isTight(got) {
		t.Errorf("%s has room for more: %v", what, got)
	}
}

// isName reports whether a name is valid.
func isName(id api.Id) bool { return id.Yarn >= 1 && id.Yarn <= 6 && id.N >= 0 && id.N <= 2047 }

// slowCheck is Check, as the chapter says it.
func slowCheck(b stacks.Beds) api.Errno {
	full, bad, twice := len(b.Front) > needleCount || len(b.Back) > needleCount, false, false
	var all []api.Id
	for _, l := range slices.Concat(b.Front, b.Back) {
		full = full || len(l) > maxStack
		for _, id := range l {
			bad = bad || !isName(id)
			twice = twice || slices.Contains(all, id)
			all = append(all, id)
		}
	}
	switch {
	case full:
		return api.ErrFull
	case bad:
		return api.ErrArg
	case twice:
		return api.ErrThere
	}
	return api.OK
}

// goodBeds returns beds that are valid.
func goodBeds() []stacks.Beds {
	first := loops("1.0 1.2047 6.0 6.2047")
	bs := []stacks.Beds{
		{}, {Front: [][]api.Id{}, Back: [][]api.Id{}}, {Front: [][]api.Id{nil}}, {Back: [][]api.Id{{}, nil, {}}}, example(), fullBeds(),
		padded(stacks.Beds{}, 40, 40), padded(example(), 38, 38), padded(example(), 1, 0), padded(example(), 0, 7),
		{Front: [][]api.Id{first}}, {Back: [][]api.Id{first}}, beds(stack{front(40), first}), beds(stack{back(40), first}),
		beds(holds("f1", "1.0"), holds("f3", "1.1"), holds("b40", "1.2")), beds(holds("f40", "1.0"), holds("b1", "2.0")),
		beds(holds("f5", "3.7 3.6 3.8"), holds("b5", "4.7 4.6"), holds("b7", "5.0")),
	}
	for yarn := uint8(1); yarn <= 6; yarn++ {
		bs = append(bs, beds(stack{front(int(yarn)), some(yarn, 0, 4)}, stack{back(41 - int(yarn)), some(yarn, 2044, 4)}))
	}
	return bs
}

// tooFull returns beds that have too many stacks, or stacks with too many loops.
func tooFull() []stacks.Beds {
	bs := []stacks.Beds{
		padded(stacks.Beds{}, 41, 0), padded(stacks.Beds{}, 0, 41), padded(stacks.Beds{}, 41, 41), padded(stacks.Beds{}, 1000, 0),
		padded(example(), 39, 0), padded(example(), 0, 39), padded(fullBeds(), 1, 0), padded(fullBeds(), 0, 1),
		beds(holds("f41", "1.0")), beds(holds("b41", "1.0")), beds(holds("f1", "1.0"), holds("b41", "")), beds(holds("f100", "1.0")),
	}
	for _, at := range []int{1, 2, 20, 40} {
		for _, count := range []int{5, 6, 100} {
			bs = append(bs, beds(stack{front(at), some(1, 0, count)}), beds(stack{back(at), some(1, 0, count)}))
			bs = append(bs, beds(holds("f3", "2.0"), holds("b3", "2.1"), stack{back(at), some(1, 0, count)}))
		}
	}
	return bs
}

// badlyNamed returns beds with names that are not valid.
func badlyNamed() []stacks.Beds {
	var bs []stacks.Beds
	for _, bad := range badNames {
		for _, at := range []int{1, 2, 40} {
			bs = append(bs, beds(stack{front(at), []api.Id{bad}}), beds(stack{back(at), []api.Id{bad}}))
		}
		bs = append(bs, beds(stack{front(2), append(loops("1.0 1.1 1.2"), bad)}), beds(stack{back(2), []api.Id{loop("1.0"), bad, loop("1.1")}}))
		bs = append(bs, beds(holds("f2", "1.0 1.1"), stack{back(2), []api.Id{bad, loop("2.0")}}))
		b := fullBeds()
		b.Back[39][3] = bad
		bs = append(bs, b)
	}
	return bs
}

// twiceThere returns beds in which a loop is there twice: in one stack, in two stacks, and in both beds.
func twiceThere() []stacks.Beds {
	bs := []stacks.Beds{
		beds(holds("f2", "1.0 1.0")), beds(holds("b2", "1.0 1.0")), beds(holds("f2", "1.0 1.1 1.2 1.0")), beds(holds("b40", "1.3 1.0 1.0 1.1")),
		beds(holds("f1", "1.0"), holds("f2", "1.0")), beds(holds("f1", "1.0 1.1"), holds("f40", "1.2 1.1")), beds(holds("b1", "3.0"), holds("b39", "2.0 3.0")),
		beds(holds("f1", "1.0"), holds("b1", "1.0")), beds(holds("f40", "1.0"), holds("b1", "1.0")), beds(holds("f1", "6.2047 1.0"), holds("b40", "1.1 6.2047")),
		beds(holds("f1", "1.0"), holds("f2", "1.0"), holds("b1", "1.0")), beds(holds("f2", "1.0 1.0 1.0 1.0")),
	}
	for _, at := range []api.Needle{front(1), front(40), back(1), back(40)} {
		b := fullBeds()
		replace(b, at, []api.Id{loop("6.0"), b.Front[20][1], loop("6.1")})
		bs = append(bs, b)
	}
	return bs
}

// badBeds are beds that are not valid, and why.
type badBeds struct {
	beds stacks.Beds
	e    api.Errno
}

// allBadBeds returns beds that are not valid, for one reason and for several.
func allBadBeds() []badBeds {
	var bs []badBeds
	add := func(e api.Errno, list ...stacks.Beds) {
		for _, b := range list {
			bs = append(bs, badBeds{b, e})
		}
	}
	add(api.ErrFull, tooFull()...)
	add(api.ErrArg, badlyNamed()...)
	add(api.ErrThere, twiceThere()...)
	// What is looked for first may come last: a name that is not valid and a loop that is there twice come before what is too full.
	bad, five := stack{front(1), badNames[:2]}, some(1, 0, 5)
	add(api.ErrFull, beds(bad, holds("f2", "3.0 3.0"), stack{back(40), five}), beds(bad, holds("f41", "")), beds(bad, holds("b41", "1.0")),
		beds(holds("f1", "3.0"), holds("b1", "3.0"), stack{back(2), five}), beds(holds("f1", "3.0 3.0"), stack{front(2), five}), beds(stack{front(2), make([]api.Id, 5)}))
	add(api.ErrArg, beds(holds("f1", "3.0 3.0"), stack{back(40), badNames[:1]}), beds(holds("f1", "3.0"), holds("f2", "3.0"), stack{front(3), badNames[2:4]}),
		beds(stack{front(1), []api.Id{badNames[3], badNames[3]}}), beds(stack{front(1), badNames[:1]}, stack{back(1), badNames[:1]}))
	return bs
}

// TestLimits is for P3.1: the limits that the chapter names.
func TestLimits(t *testing.T) {
	if api.MaxNeedle != needleCount || api.MaxStack != maxStack {
		t.Errorf("the limits are %d and %d", api.MaxNeedle, api.MaxStack)
	}
}

// TestCheck is for P3.1: beds that are valid, and beds that are not, for one reason and for several.
func TestCheck(t *testing.T) {
	for _, b := range goodBeds() {
		if e := stacks.Check(b); e != api.OK || slowCheck(b) != api.OK {
			t.Errorf("Check(%v) = %d, expected OK", b, e)
		}
	}
	for _, c := range allBadBeds() {
		if e := stacks.Check(c.beds); e != c.e || slowCheck(c.beds) != c.e {
			t.Errorf("Check(%v) = %d, expected %d", c.beds, e, c.e)
		}
	}
}

// randomBeds returns beds of a few loops, many of which are not valid.
func randomBeds(random *rand.Rand) stacks.Beds {
	bed := func() [][]api.Id {
		list := make([][]api.Id, random.Intn(5))
		if random.Intn(20) == 0 {
			list = make([][]api.Id, 38+random.Intn(5))
		}
		for i := range list {
			for random.Intn(3) == 0 {
				list[i] = append(list[i], randomName(random))
			}
		}
		return list
	}
	return stacks.Beds{Front: bed(), Back: bed()}
}

// randomName returns a name, which is seldom not valid.
func randomName(random *rand.Rand) api.Id {
	if random.Intn(40) == 0 {
		return badNames[random.Intn(len(badNames))]
	}
	return api.Id{Yarn: uint8(1 + random.Intn(6)), N: random.Intn(12)}
}

// TestCheckAny is for P3.1: beds of all kinds.
func TestCheckAny(t *testing.T) {
	random := rand.New(rand.NewSource(31))
	seen := map[api.Errno]int{}
	for range 20000 {
		b := randomBeds(random)
		want := slowCheck(b)
		if e := stacks.Check(b); e != want {
			t.Errorf("Check(%v) = %d, expected %d", b, e, want)
		}
		seen[want]++
	}
	for _, e := range []api.Errno{api.OK, api.ErrFull, api.ErrArg, api.ErrThere} {
		if seen[e] < 100 {
			t.Errorf("only %d beds have the error %d", seen[e], e)
		}
	}
}

// wantSame checks what Same says of two beds, in both orders.
func wantSame(t *testing.T, a, b stacks.Beds, want bool) {
	t.Helper()
	if stacks.Same(a, b) != want || stacks.Same(b, a) != want {
		t.Errorf("Same(%v, %v) = %v, and the other way round %v, expected %v", a, b, stacks.Same(a, b), stacks.Same(b, a), want)
	}
}

// TestSame is for P3.1: empty stacks behind the last one that holds something do not matter; all else does.
func TestSame(t *testing.T) {
	for i, a := range goodBeds() {
		wantSame(t, a, clone(a), true)
		wantSame(t, a, padded(a, 1, 0), true)
		wantSame(t, a, padded(a, 0, 3), true)
		wantSame(t, padded(a, 2, 1), trimmed(a), true)
		for j, b := range goodBeds() {
			wantSame(t, a, b, i == j || equal(trimmed(a), trimmed(b)))
		}
	}
	b := beds(holds("f2", "1.0 1.1"), holds("f4", "1.2"), holds("b2", "2.0"))
	for _, other := range []stacks.Beds{
		{}, {Front: b.Front}, {Back: b.Back}, {Front: b.Back, Back: b.Front}, {Front: b.Front[:3], Back: b.Back}, {Front: b.Front[1:], Back: b.Back},
		beds(holds("f2", "1.1 1.0"), holds("f4", "1.2"), holds("b2", "2.0")), beds(holds("f2", "1.0 1.1"), holds("f3", "1.2"), holds("b2", "2.0")),
		beds(holds("f2", "1.0 1.1"), holds("f4", "1.2"), holds("b3", "2.0")), beds(holds("f2", "1.0"), holds("f4", "1.2"), holds("b2", "2.0")),
		beds(holds("f2", "1.0 1.1"), holds("f4", "1.2"), holds("b2", "3.0")), beds(holds("f2", "1.0 1.1"), holds("f4", "1.2"), holds("b2", "2.1")),
		beds(holds("f2", "1.0 1.1 1.2"), holds("b2", "2.0")), beds(holds("f2", "1.0 1.1"), holds("f4", "1.2"), holds("b2", "2.0"), holds("b3", "2.1")),
		beds(holds("f1", "3.0"), holds("f2", "1.0 1.1"), holds("f4", "1.2"), holds("b2", "2.0")), beds(holds("f2", ""), holds("f4", "1.2"), holds("b2", "2.0")),
	} {
		wantSame(t, b, other, false)
	}
}

// TestSameAny is for P3.1: Same accepts beds that are not valid.
func TestSameAny(t *testing.T) {
	all := slices.Concat(tooFull(), badlyNamed(), twiceThere(), []stacks.Beds{beds(holds("f41", "1.1")), beds(holds("f42", "1.0")), beds(holds("f41", "1.0 1.0"))})
	for _, a := range all {
		wantSame(t, a, padded(a, 3, 50), true)
		for _, b := range all {
			wantSame(t, a, b, equal(trimmed(a), trimmed(b)))
		}
	}
	random := rand.New(rand.NewSource(32))
	for range 5000 {
		a, b := randomBeds(random), randomBeds(random)
		wantSame(t, a, b, equal(trimmed(a), trimmed(b)))
	}
}

// wantAt compares what At returns with what it should; a list that is returned has no room for more.
func wantAt(t *testing.T, b stacks.Beds, n api.Needle, want []api.Id) {
	t.Helper()
	got := stacks.At(b, n)
	if !slices.Equal(got, want) || cap(got) != len(got) {
		t.Errorf("At(%v, %v) = %v with the capacity %d, expected %v", b, n, got, cap(got), want)
	}
}

// wantFind compares what Find returns with what it should.
func wantFind(t *testing.T, b stacks.Beds, id api.Id, want api.Needle, e api.Errno) {
	t.Helper()
	if got, ge := stacks.Find(b, id); got != want || ge != e {
		t.Errorf("Find(%v, %v) = %v, %d, expected %v, %d", b, id, got, ge, want, e)
	}
}

// wantCount compares what Count returns with what it should.
func wantCount(t *testing.T, b stacks.Beds, want int) {
	t.Helper()
	if got := stacks.Count(b); got != want {
		t.Errorf("Count(%v) = %d, expected %d", b, got, want)
	}
}

// TestLookExamples is for P3.2: the values of the chapter, and both ends of the beds.
func TestLookExamples(t *testing.T) {
	b := example()
	wantAt(t, b, front(2), loops("1.0 1.1"))
	wantAt(t, b, front(1), nil)
	wantAt(t, b, back(3), nil)
	wantAt(t, b, back(2), loops("2.0"))
	wantCount(t, b, 3)
	wantFind(t, b, loop("2.0"), back(2), api.OK)
	wantFind(t, b, loop("1.1"), front(2), api.OK)
	wantFind(t, b, loop("2.1"), api.Needle{}, api.ErrNone)
	wantFind(t, b, api.Id{}, api.Needle{}, api.ErrNone)
	wantCount(t, stacks.Beds{}, 0)
	wantCount(t, fullBeds(), 320)
	wantFind(t, fullBeds(), loop("2.163"), back(40), api.OK)
	wantFind(t, fullBeds(), loop("1.4"), front(1), api.OK)
	wantAt(t, fullBeds(), back(40), loops("2.160 2.161 2.162 2.163"))
	wantAt(t, stacks.Beds{}, front(1), nil)
}

// lookAll compares At, Find and Count with what the slices of beds say.
func lookAll(t *testing.T, b stacks.Beds) {
	t.Helper()
	where, sum := map[api.Id]api.Needle{}, 0
	var hidden []api.Id
	for bed, list := range [][][]api.Id{b.Front, b.Back} {
		for i, l := range list {
			n := api.Needle{Bed: api.Bed(bed), At: i + 1}
			if i >= needleCount {
				wantAt(t, b, n, nil)
				hidden = append(hidden, l...)
				continue
			}
			wantAt(t, b, n, l)
			sum += len(l)
			for _, id := range l {
				if _, ok := where[id]; !ok {
					where[id] = n
				}
			}
		}
		for at := len(list) + 1; at <= len(list)+3; at++ {
			wantAt(t, b, api.Needle{Bed: api.Bed(bed), At: at}, nil)
		}
	}
	wantCount(t, b, sum)
	for id, n := range where {
		wantFind(t, b, id, n, api.OK)
	}
	for _, id := range slices.Concat(hidden, badNames, loops("5.2000 1.99")) {
		if _, ok := where[id]; !ok {
			wantFind(t, b, id, api.Needle{}, api.ErrNone)
		}
	}
}

// TestLook is for P3.2: beds of all kinds, also those that are not valid.
func TestLook(t *testing.T) {
	for _, b := range goodBeds() {
		lookAll(t, b)
	}
	for _, c := range allBadBeds() {
		lookAll(t, c.beds)
	}
	random := rand.New(rand.NewSource(33))
	for range 2000 {
		lookAll(t, randomBeds(random))
	}
}

// TestLookAtNothing is for P3.2: needles that are not valid, and needles behind MaxNeedle, hold nothing.
func TestLookAtNothing(t *testing.T) {
	far := fullBeds()
	far.Front = append(far.Front, loops("5.0 5.1"), loops("5.2"))
	far.Back = append(far.Back, loops("5.3"))
	for _, b := range append(goodBeds(), far) {
		for _, n := range badNeedles {
			wantAt(t, b, n, nil)
		}
	}
	wantCount(t, far, 320)
	for _, id := range some(5, 0, 4) {
		wantFind(t, far, id, api.Needle{}, api.ErrNone)
	}
	// A needle that does not count does not hide one that does.
	b := beds(holds("f41", "1.0"), holds("b3", "1.0"))
	wantFind(t, b, loop("1.0"), back(3), api.OK)
	wantCount(t, b, 1)
}

// TestFindFirst is for P3.2: of several needles that hold a loop, that of the front bed counts first, then the left one.
func TestFindFirst(t *testing.T) {
	wantFind(t, beds(holds("f40", "1.0"), holds("b1", "1.0")), loop("1.0"), front(40), api.OK)
	wantFind(t, beds(holds("f3", "1.0"), holds("f2", "2.0 1.0"), holds("b1", "1.0")), loop("1.0"), front(2), api.OK)
	wantFind(t, beds(holds("b7", "1.0"), holds("b5", "1.0"), holds("f1", "1.1")), loop("1.0"), back(5), api.OK)
	wantFind(t, beds(stack{front(7), badNames[1:3]}), badNames[2], front(7), api.OK)
}

// wantSet compares what Set returns with what it should.
func wantSet(t *testing.T, b stacks.Beds, n api.Needle, l []api.Id, want stacks.Beds, e api.Errno) {
	t.Helper()
	got, ge := stacks.Set(b, n, l)
	checkBeds(t, "Set", got, ge, want, e)
}

// TestSetExamples is for P3.3: the values of the chapter, and others.
func TestSetExamples(t *testing.T) {
	b := example()
	wantSet(t, b, front(1), loops("2.0"), stacks.Beds{}, api.ErrThere)
	wantSet(t, b, front(2), loops("1.1"), beds(holds("f2", "1.1"), holds("b2", "2.0")), api.OK)
	if set, _ := stacks.Set(b, front(2), loops("1.1")); stacks.Count(set) != 2 {
		t.Errorf("Count = %d, expected 2", stacks.Count(set))
	}
	wantSet(t, b, front(2), nil, beds(holds("b2", "2.0")), api.OK)
	wantSet(t, b, front(2), []api.Id{}, beds(holds("b2", "2.0")), api.OK)
	wantSet(t, b, back(2), nil, beds(holds("f2", "1.0 1.1")), api.OK)
	wantSet(t, b, front(2), loops("1.1 1.0"), beds(holds("f2", "1.1 1.0"), holds("b2", "2.0")), api.OK)
	wantSet(t, b, front(2), loops("3.0 1.1 1.0 6.2047"), beds(holds("f2", "3.0 1.1 1.0 6.2047"), holds("b2", "2.0")), api.OK)
	wantSet(t, b, front(1), loops("3.0"), beds(holds("f1", "3.0"), holds("f2", "1.0 1.1"), holds("b2", "2.0")), api.OK)
	wantSet(t, b, back(40), loops("3.0"), beds(holds("f2", "1.0 1.1"), holds("b2", "2.0"), holds("b40", "3.0")), api.OK)
	wantSet(t, b, front(7), nil, b, api.OK)
	wantSet(t, stacks.Beds{}, front(40), loops("1.0"), beds(holds("f40", "1.0")), api.OK)
	wantSet(t, stacks.Beds{}, back(1), nil, stacks.Beds{}, api.OK)
}

// TestSetShort is for P3.3: empty stacks are taken away behind the last one that holds something, in both beds, and stay between others.
func TestSetShort(t *testing.T) {
	b := padded(beds(holds("f1", "1.0"), holds("f5", "1.1"), holds("b3", "2.0"), holds("b9", "2.1")), 30, 20)
	wantSet(t, b, front(5), nil, beds(holds("f1", "1.0"), holds("b3", "2.0"), holds("b9", "2.1")), api.OK)
	wantSet(t, b, back(9), nil, beds(holds("f1", "1.0"), holds("f5", "1.1"), holds("b3", "2.0")), api.OK)
	wantSet(t, b, front(1), nil, beds(holds("f5", "1.1"), holds("b3", "2.0"), holds("b9", "2.1")), api.OK)
	wantSet(t, b, front(3), loops("3.0"), beds(holds("f1", "1.0"), holds("f3", "3.0"), holds("f5", "1.1"), holds("b3", "2.0"), holds("b9", "2.1")), api.OK)
	wantSet(t, b, front(12), loops("3.0"), beds(holds("f1", "1.0"), holds("f5", "1.1"), holds("f12", "3.0"), holds("b3", "2.0"), holds("b9", "2.1")), api.OK)
	wantSet(t, b, front(35), nil, b, api.OK)
	wantSet(t, beds(holds("f8", "1.0"), holds("b8", "")), front(8), nil, stacks.Beds{}, api.OK)
	wantSet(t, padded(stacks.Beds{}, 40, 40), back(17), nil, stacks.Beds{}, api.OK)
}

// slowSet is what Set returns, as the chapter says it.
func slowSet(b stacks.Beds, n api.Needle, l []api.Id) (stacks.Beds, api.Errno) {
	if e := slowCheck(b); e != api.OK {
		return stacks.Beds{}, e
	}
	isBad := func(id api.Id) bool { return !isName(id) }
	if !slices.Contains(allNeedles(), n) || slices.ContainsFunc(l, isBad) {
		return stacks.Beds{}, api.ErrArg
	}
	if len(l) > maxStack {
		return stacks.Beds{}, api.ErrFull
	}
	b = padded(b, needleCount-len(b.Front), needleCount-len(b.Back))
	replace(b, n, slices.Clone(l))
	if slowCheck(b) == api.ErrThere {
		return stacks.Beds{}, api.ErrThere
	}
	return trimmed(b), api.OK
}

// randomNeedle returns a needle near the left end, seldom another one, and very seldom one that is not valid.
func randomNeedle(random *rand.Rand) api.Needle {
	switch random.Intn(30) {
	case 0:
		return badNeedles[random.Intn(len(badNeedles))]
	case 1, 2:
		return allNeedles()[random.Intn(2*needleCount)]
	}
	return api.Needle{Bed: api.Bed(random.Intn(2)), At: 1 + random.Intn(5)}
}

// TestSetAny is for P3.3: beds, needles and lists of all kinds.
func TestSetAny(t *testing.T) {
	random := rand.New(rand.NewSource(34))
	seen := map[api.Errno]int{}
	for range 20000 {
		b, n := randomBeds(random), randomNeedle(random)
		var l []api.Id
		for random.Intn(3) > 0 {
			l = append(l, randomName(random))
		}
		if random.Intn(3) == 0 {
			l = stacks.At(b, n)
		}
		want, e := slowSet(b, n, l)
		wantSet(t, b, n, l, want, e)
		seen[e]++
	}
	for _, e := range []api.Errno{api.OK, api.ErrFull, api.ErrArg, api.ErrThere} {
		if seen[e] < 100 {
			t.Errorf("only %d calls have the error %d", seen[e], e)
		}
	}
}

// TestSetNeedles is for P3.3: every needle, of beds that hold nothing, and of full ones.
func TestSetNeedles(t *testing.T) {
	for _, n := range allNeedles() {
		l := some(6, 100, maxStack)
		for count := range maxStack + 1 {
			wantSet(t, stacks.Beds{}, n, l[:count], beds(stack{n, l[:count]}), api.OK)
			want := fullBeds()
			replace(want, n, l[:count])
			wantSet(t, fullBeds(), n, l[:count], want, api.OK)
		}
	}
}

// TestSetErrors is for P3.3: needles and names that are not valid, too many loops, and loops that are there.
func TestSetErrors(t *testing.T) {
	b := example()
	for _, n := range badNeedles {
		for _, l := range [][]api.Id{nil, loops("3.0"), loops("2.0"), loops("3.0 3.0"), some(3, 0, 5), badNames} {
			wantSet(t, b, n, l, stacks.Beds{}, api.ErrArg)
			wantSet(t, fullBeds(), n, l, stacks.Beds{}, api.ErrArg)
		}
	}
	for _, n := range allNeedles() {
		for _, bad := range badNames {
			wantSet(t, b, n, []api.Id{bad}, stacks.Beds{}, api.ErrArg)
			wantSet(t, b, n, []api.Id{loop("3.0"), bad, loop("3.1")}, stacks.Beds{}, api.ErrArg)
		}
		for _, l := range [][]api.Id{some(3, 0, 5), some(3, 0, 6), some(3, 0, 2000)} {
			wantSet(t, b, n, l, stacks.Beds{}, api.ErrFull)
		}
		for _, names := range []string{"3.0 3.0", "3.0 3.1 3.0", "3.0 3.1 3.2 3.2", "3.1 3.1 3.1 3.1"} {
			wantSet(t, b, n, loops(names), stacks.Beds{}, api.ErrThere)
			wantSet(t, stacks.Beds{}, n, loops(names), stacks.Beds{}, api.ErrThere)
		}
		if n != front(2) {
			wantSet(t, b, n, loops("3.0 1.1"), stacks.Beds{}, api.ErrThere)
		}
		if n != back(2) {
			wantSet(t, b, n, loops("2.0 3.0"), stacks.Beds{}, api.ErrThere)
		}
	}
	wantSet(t, b, front(2), loops("1.0 1.1 1.0"), stacks.Beds{}, api.ErrThere)
}

// TestSetErrorOrder is for P3.3: the beds come first, then the needle and the names, then how many loops there are, then what is there.
func TestSetErrorOrder(t *testing.T) {
	five := loops("3.0 3.0 2.0 3.1 3.2")
	wantSet(t, example(), front(1), five, stacks.Beds{}, api.ErrFull)
	wantSet(t, example(), front(41), five, stacks.Beds{}, api.ErrArg)
	wantSet(t, example(), front(1), append(five, badNames[0]), stacks.Beds{}, api.ErrArg)
	wantSet(t, example(), front(1), append(loops("2.0 2.0"), badNames[0]), stacks.Beds{}, api.ErrArg)
	for _, c := range allBadBeds() {
		for _, n := range []api.Needle{front(1), front(2), back(2), back(40), front(41), {}} {
			for _, l := range [][]api.Id{nil, loops("3.0"), loops("1.0"), five, badNames, stacks.At(c.beds, n)} {
				wantSet(t, c.beds, n, l, stacks.Beds{}, c.e)
			}
		}
	}
}

// wantJoin compares what Join returns with what it should.
func wantJoin(t *testing.T, b stacks.Beds, from, to api.Needle, want stacks.Beds, e api.Errno) {
	t.Helper()
	got, ge := stacks.Join(b, from, to)
	checkBeds(t, "Join", got, ge, want, e)
}

// TestJoinExamples is for P3.4: the values of the chapter, and others.
func TestJoinExamples(t *testing.T) {
	b := example()
	wantJoin(t, b, front(2), back(2), beds(holds("b2", "2.0 1.0 1.1")), api.OK)
	wantJoin(t, b, back(2), front(2), beds(holds("f2", "2.0 1.0 1.1")), api.OK)
	wantJoin(t, b, front(1), back(1), stacks.Beds{}, api.ErrEmpty)
	wantJoin(t, b, front(2), front(3), stacks.Beds{}, api.ErrArg)
	wantJoin(t, b, front(2), back(1), beds(holds("b1", "1.0 1.1"), holds("b2", "2.0")), api.OK)
	wantJoin(t, b, front(2), back(40), beds(holds("b2", "2.0"), holds("b40", "1.0 1.1")), api.OK)
	wantJoin(t, b, back(2), front(5), beds(holds("f2", "1.0 1.1"), holds("f5", "2.0")), api.OK)
	wantJoin(t, beds(holds("f1", "1.0"), holds("f7", "1.1 1.2"), holds("b3", "2.0 2.1")), front(7), back(3), beds(holds("f1", "1.0"), holds("b3", "2.0 2.1 1.1 1.2")), api.OK)
	wantJoin(t, beds(holds("f1", "1.0"), holds("f7", "1.1 1.2"), holds("b3", "2.0 2.1")), back(3), front(7), beds(holds("f1", "1.0"), holds("f7", "2.0 2.1 1.1 1.2")), api.OK)
	wantJoin(t, padded(b, 38, 38), front(2), back(2), beds(holds("b2", "2.0 1.0 1.1")), api.OK)
}

// TestJoinRoom is for P3.4: no, some and all of the room is taken in both stacks, in both directions, at all places of the beds.
func TestJoinRoom(t *testing.T) {
	for _, at := range []int{1, 2, 20, 40} {
		for _, with := range []int{1, 20, 40} {
			for k := range maxStack + 1 {
				for m := range maxStack + 1 {
					here, there, other := some(1, 10, k), some(2, 20, m), stack{front(7), some(3, 0, 4)}
					e := api.OK
					if k == 0 {
						e = api.ErrEmpty
					} else if k+m > maxStack {
						e = api.ErrFull
					}
					b := beds(stack{front(at), here}, stack{back(with), there}, other)
					wantJoin(t, b, front(at), back(with), beds(stack{back(with), slices.Concat(there, here)}, other), e)
					b = beds(stack{back(at), here}, stack{front(with), there}, other)
					wantJoin(t, b, back(at), front(with), beds(stack{front(with), slices.Concat(here, there)}, other), e)
				}
			}
		}
	}
}

// TestJoinErrors is for P3.4: needles that are not valid, needles of the same bed, nothing to move, and which error comes first.
func TestJoinErrors(t *testing.T) {
	for _, b := range []stacks.Beds{{}, example(), fullBeds()} {
		for _, bad := range badNeedles {
			for _, n := range slices.Concat(badNeedles, []api.Needle{front(1), front(2), back(1), back(2), back(40)}) {
				wantJoin(t, b, bad, n, stacks.Beds{}, api.ErrArg)
				wantJoin(t, b, n, bad, stacks.Beds{}, api.ErrArg)
			}
		}
		for _, n := range allNeedles() {
			for _, at := range []int{1, 2, 3, 40} {
				wantJoin(t, b, n, api.Needle{Bed: n.Bed, At: at}, stacks.Beds{}, api.ErrArg)
			}
			wantJoin(t, b, n, n, stacks.Beds{}, api.ErrArg)
		}
	}
	full := beds(holds("f2", "1.0 1.1"), stack{front(3), some(2, 0, 4)}, stack{back(3), some(3, 0, 4)})
	wantJoin(t, full, front(2), back(3), stacks.Beds{}, api.ErrFull)
	wantJoin(t, full, front(3), back(3), stacks.Beds{}, api.ErrFull)
	wantJoin(t, full, back(3), front(3), stacks.Beds{}, api.ErrFull)
	wantJoin(t, full, front(1), back(3), stacks.Beds{}, api.ErrEmpty)
	wantJoin(t, full, back(2), front(3), stacks.Beds{}, api.ErrEmpty)
	wantJoin(t, full, back(40), front(40), stacks.Beds{}, api.ErrEmpty)
	for _, c := range allBadBeds() {
		for _, to := range []api.Needle{back(1), back(2), back(40), front(3), front(41), {}} {
			wantJoin(t, c.beds, front(1), to, stacks.Beds{}, c.e)
			wantJoin(t, c.beds, front(2), to, stacks.Beds{}, c.e)
			wantJoin(t, c.beds, api.Needle{}, to, stacks.Beds{}, c.e)
		}
	}
}

// names returns the names of all loops, in an order of their own.
func names(b stacks.Beds) []api.Id {
	all := slices.Concat(slices.Concat(b.Front...), slices.Concat(b.Back...))
	slices.SortFunc(all, func(x, y api.Id) int { return int(x.Yarn)*4096 + x.N - int(y.Yarn)*4096 - y.N })
	return all
}

// TestJoinKeeps is for P3.5: Join loses no loop, and changes no other needle, whatever is moved where.
func TestJoinKeeps(t *testing.T) {
	random := rand.New(rand.NewSource(35))
	joined := 0
	for range 20000 {
		b, from, to := randomBeds(random), randomNeedle(random), randomNeedle(random)
		next, e := stacks.Join(b, from, to)
		if e != api.OK {
			continue
		}
		joined++
		if !slices.Equal(names(b), names(next)) || stacks.Count(b) != stacks.Count(next) || stacks.Check(next) != api.OK {
			t.Errorf("Join(%v, %v, %v) = %v", b, from, to, next)
		}
		for _, n := range allNeedles() {
			want := stacks.At(b, n)
			switch n {
			case from:
				want = nil
			case to:
				want = append(stacks.At(b, to), stacks.At(b, from)...)
				if to.Bed == api.Front {
					want = append(stacks.At(b, from), stacks.At(b, to)...)
				}
			}
			wantAt(t, next, n, want)
		}
	}
	if joined < 500 {
		t.Errorf("only %d are joined", joined)
	}
}

// TestJoinThereAndBack is for P3.5: Join to a needle that holds nothing, and back, gives the beds from before.
func TestJoinThereAndBack(t *testing.T) {
	for _, b := range goodBeds() {
		for _, from := range allNeedles() {
			for _, at := range []int{1, from.At, 8, 40} {
				to := api.Needle{Bed: 1 - from.Bed, At: at}
				if len(stacks.At(b, from)) == 0 || len(stacks.At(b, to)) != 0 {
					continue
				}
				there, e := stacks.Join(b, from, to)
				if e != api.OK {
					t.Fatalf("Join(%v, %v, %v) = %d", b, from, to, e)
				}
				wantJoin(t, there, to, from, b, api.OK)
				back, _ := stacks.Join(there, to, from)
				wantSame(t, back, b, true)
			}
		}
	}
}

// TestSetWhatIsThere is for P3.5: Set of what At returns changes nothing.
func TestSetWhatIsThere(t *testing.T) {
	for _, b := range goodBeds() {
		for _, n := range allNeedles() {
			wantSet(t, b, n, stacks.At(b, n), b, api.OK)
			set, _ := stacks.Set(b, n, stacks.At(b, n))
			wantSame(t, set, b, true)
		}
	}
}

// TestWay is for P3.3 to P3.5: many changes, one after the other; what is returned is valid, and is what a slow version returns.
func TestWay(t *testing.T) {
	random := rand.New(rand.NewSource(36))
	var b stacks.Beds
	for i := range 20000 {
		var next stacks.Beds
		var e api.Errno
		if n := randomNeedle(random); random.Intn(3) == 0 {
			l := some(uint8(1+i%6), i%2000, random.Intn(4))
			want, we := slowSet(b, n, l)
			wantSet(t, b, n, l, want, we)
			next, e = stacks.Set(b, n, l)
		} else {
			next, e = stacks.Join(b, n, randomNeedle(random))
		}
		if !equal(next, trimmed(next)) || !isTight(next) || slowCheck(next) != api.OK {
			t.Fatalf("%v became %v", b, next)
		}
		if e == api.OK {
			b = next
		}
	}
}

// roomy returns the same beds, every slice of which has room behind it that holds something.
func roomy(b stacks.Beds) stacks.Beds {
	trap := loops("6.6 6.7 6.8")
	bed := func(list [][]api.Id) [][]api.Id {
		own := make([][]api.Id, 0, len(list)+3)
		for _, l := range list {
			own = append(own, slices.Concat(l, trap)[:len(l)])
		}
		return append(own, slices.Clone(trap), slices.Clone(trap), slices.Clone(trap))[:len(list)]
	}
	return stacks.Beds{Front: bed(b.Front), Back: bed(b.Back)}
}

// room returns the beds with all the room behind their slices.
func room(b stacks.Beds) stacks.Beds {
	bed := func(list [][]api.Id) [][]api.Id {
		own := slices.Clone(list[:cap(list)])
		for i, l := range own {
			own[i] = slices.Clone(l[:cap(l)])
		}
		return own
	}
	return stacks.Beds{Front: bed(b.Front), Back: bed(b.Back)}
}

// scribble changes all loops and stacks of beds, and returns how many it changed.
func scribble(b stacks.Beds) int {
	sum := 0
	for _, bed := range [][][]api.Id{b.Front, b.Back} {
		for i, l := range bed {
			for j := range l {
				l[j] = api.Id{Yarn: 5, N: 5}
				sum++
			}
			bed[i] = loops("4.4 4.5")
		}
	}
	return sum
}

// TestMemory is for R1 and R4: no argument is changed, and no memory is shared with one, or between two results.
func TestMemory(t *testing.T) {
	b := roomy(beds(holds("f1", "1.0"), holds("f2", "1.1 1.2"), holds("f5", ""), holds("b2", "2.0"), holds("b4", "2.1")))
	was := room(b)
	l := slices.Concat(loops("3.0 3.1"), loops("6.6"))[:2]
	for name, call := range map[string]func() (stacks.Beds, api.Errno){
		"Set":          func() (stacks.Beds, api.Errno) { return stacks.Set(b, front(2), l) },
		"Set to none":  func() (stacks.Beds, api.Errno) { return stacks.Set(b, front(2), nil) },
		"Set behind":   func() (stacks.Beds, api.Errno) { return stacks.Set(b, back(7), l) },
		"Set anew":     func() (stacks.Beds, api.Errno) { return stacks.Set(b, front(2), b.Front[1]) },
		"Join":         func() (stacks.Beds, api.Errno) { return stacks.Join(b, front(2), back(2)) },
		"Join back":    func() (stacks.Beds, api.Errno) { return stacks.Join(b, back(2), front(2)) },
		"Join to none": func() (stacks.Beds, api.Errno) { return stacks.Join(b, front(2), back(6)) },
		"Join behind":  func() (stacks.Beds, api.Errno) { return stacks.Join(b, back(4), front(9)) },
	} {
		one, e := call()
		two, e2 := call()
		want := clone(one)
		if e != api.OK || e2 != api.OK || scribble(one) == 0 {
			t.Fatalf("%s: the errors are %d and %d", name, e, e2)
		}
		checkBeds(t, name+" for the second time", two, e2, want, api.OK)
		if !equal(was, room(b)) || !slices.Equal(l[:cap(l)][:3], loops("3.0 3.1 6.6")) {
			t.Errorf("%s: the arguments became %v and %v", name, room(b), l)
		}
	}
}

// TestStacksApart is for R4: no two stacks of one result share memory.
func TestStacksApart(t *testing.T) {
	b := fullBeds()
	b.Front[3], b.Back[3] = b.Front[3][:2], b.Back[3][:1]
	for _, call := range []func() (stacks.Beds, api.Errno){
		func() (stacks.Beds, api.Errno) { return stacks.Set(b, front(3), loops("6.0 6.1")) },
		func() (stacks.Beds, api.Errno) { return stacks.Join(b, front(4), back(4)) },
	} {
		got, e := call()
		if e != api.OK {
			t.Fatalf("the error is %d", e)
		}
		all := slices.Concat(got.Front, got.Back)
		for i, l := range all {
			for j := range l {
				l[j] = api.Id{Yarn: 1, N: i}
			}
		}
		for i, l := range all {
			if !slices.Equal(l, slices.Repeat([]api.Id{{Yarn: 1, N: i}}, len(l))) {
				t.Errorf("the stack %d shares memory with another one", i)
			}
		}
	}
}

// TestLookMemory is for R1 and R4: At returns memory of its own; nothing that looks at beds changes them.
func TestLookMemory(t *testing.T) {
	b := roomy(beds(holds("f2", "1.0 1.1"), holds("f5", ""), holds("b2", "2.0 2.1 2.2")))
	was := room(b)
	other := roomy(b)
	otherWas := room(other)
	for _, n := range []api.Needle{front(2), back(2)} {
		one, two := stacks.At(b, n), stacks.At(b, n)
		want := slices.Clone(one)
		for i := range one {
			one[i] = loop("5.5")
		}
		if !slices.Equal(two, want) || len(want) == 0 {
			t.Errorf("the second result of At became %v, expected %v", two, want)
		}
	}
	stacks.Check(b)
	stacks.Same(b, other)
	stacks.Find(b, loop("2.2"))
	stacks.Find(b, loop("3.0"))
	stacks.Count(b)
	if !equal(was, room(b)) || !equal(otherWas, room(other)) {
		t.Errorf("the beds became %v and %v", room(b), room(other))
	}
}

// TestNothing is for R2, R3 and R4: what holds nothing is nothing, and with an error there are no beds.
func TestNothing(t *testing.T) {
	for _, b := range []stacks.Beds{{}, {Front: [][]api.Id{}, Back: make([][]api.Id, 0, 9)}, padded(stacks.Beds{}, 3, 40)} {
		set, e := stacks.Set(b, back(5), make([]api.Id, 0, 4))
		if e != api.OK || len(set.Front) != 0 || len(set.Back) != 0 || cap(set.Front) != 0 || cap(set.Back) != 0 {
			t.Errorf("Set = %v, %d", set, e)
		}
		if _, e := stacks.Join(b, front(1), back(1)); e != api.ErrEmpty {
			t.Errorf("Join = %d, expected ErrEmpty", e)
		}
	}
	for _, call := range []func() (stacks.Beds, api.Errno){
		func() (stacks.Beds, api.Errno) { return stacks.Set(example(), front(0), nil) },
		func() (stacks.Beds, api.Errno) { return stacks.Set(example(), front(1), some(3, 0, 5)) },
		func() (stacks.Beds, api.Errno) { return stacks.Set(example(), front(1), loops("1.0")) },
		func() (stacks.Beds, api.Errno) { return stacks.Join(example(), front(1), back(1)) },
		func() (stacks.Beds, api.Errno) { return stacks.Join(fullBeds(), front(1), back(1)) },
	} {
		if b, e := call(); e == api.OK || !reflect.ValueOf(b).IsZero() {
			t.Errorf("%v, %d is returned", b, e)
		}
	}
}
