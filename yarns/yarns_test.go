package yarns_test

import (
	"math"
	"math/rand"
	"reflect"
	"slices"
	"testing"

	"gansey/api"
	"gansey/needles"
	"gansey/yarns"
)

// The tests count the limits themselves, so that they do not depend on what they test.
const (
	leftEnd    = -13
	rightEnd   = 179
	maxLoops   = 2048
	maxPending = 4096
)

// badDir is a direction that is neither Left nor Right.
const badDir = api.Dir(2)

var (
	// l and r are the passes L and R of the chapter.
	l = pass(1, 0, false, api.Left)
	r = pass(1, 0, false, api.Right)
	// fl and fr go past the same loop as l and r, in front of it.
	fl = pass(1, 0, true, api.Left)
	fr = pass(1, 0, true, api.Right)
	// ol and or go past another loop of the same yarn, yl and yr past one of another yarn.
	ol = pass(1, 1, false, api.Left)
	or = pass(1, 1, false, api.Right)
	yl = pass(2, 0, false, api.Left)
	yr = pass(2, 0, false, api.Right)
)

// goodNames and badNames are names of loops, at the ends of their limits and beyond.
var (
	goodNames = []api.Id{{Yarn: 1}, {Yarn: 6}, {Yarn: 1, N: 2047}, {Yarn: 6, N: 2047}, {Yarn: 3, N: 1000}, {Yarn: 2, N: 1}}
	badNames  = []api.Id{
		{}, {Yarn: 0, N: 5}, {Yarn: 7}, {Yarn: 7, N: 2047}, {Yarn: 8}, {Yarn: 128, N: 1}, {Yarn: 255},
		{Yarn: 1, N: -1}, {Yarn: 6, N: -1}, {Yarn: 1, N: 2048}, {Yarn: 6, N: 2048}, {Yarn: 3, N: 4096},
		{Yarn: 1, N: 1 << 32}, {Yarn: 2, N: 1 << 62}, {Yarn: 3, N: math.MaxInt}, {Yarn: 4, N: math.MinInt},
		{Yarn: 0, N: 2048}, {Yarn: 7, N: -1},
	}
	goodPlaces = []int{leftEnd, leftEnd + 2, -1, 1, 7, 83, rightEnd - 2, rightEnd}
	badPlaces  = []int{
		leftEnd - 1, leftEnd - 2, leftEnd + 1, -2, 0, 2, 8, 178, rightEnd + 1, rightEnd + 2,
		1<<8 + 7, 1<<16 + 7, 1<<32 + 7, 1<<62 + 7, -1<<62 + 7, math.MaxInt, math.MaxInt - 1, math.MinInt, math.MinInt + 1,
	}
	badCounts = []int{-1, -2, 2049, 2050, 4096, 1 << 32, 1<<32 + 1, 1 << 62, math.MaxInt, math.MinInt}
)

// pass returns a pass.
func pass(yarn uint8, n int, front bool, dir api.Dir) yarns.Pass {
	return yarns.Pass{Id: api.Id{Yarn: yarn, N: n}, Front: front, Dir: dir}
}

// list returns a list of passes.
func list(ps ...yarns.Pass) []yarns.Pass { return ps }

// in returns the yarn of a carrier that is in.
func in(place, count int, isNew bool, pending ...yarns.Pass) yarns.Yarn {
	return yarns.Yarn{In: true, Place: place, Count: count, New: isNew, Pending: pending}
}

// out returns the yarn of a carrier that is out.
func out(count int) yarns.Yarn { return yarns.Yarn{Count: count} }

// repeat returns so many copies of a pass: a reduced list.
func repeat(n int, p yarns.Pass) []yarns.Pass {
	ps := make([]yarns.Pass, n)
	for i := range ps {
		ps[i] = p
	}
	return ps
}

// same reports whether two yarns are equal.
func same(y, z yarns.Yarn) bool {
	return y.In == z.In && y.Place == z.Place && y.Count == z.Count && y.New == z.New && slices.Equal(y.Pending, z.Pending)
}

// isZero reports whether a result is its zero value.
func isZero(v any) bool { return reflect.ValueOf(v).IsZero() }

// badPasses returns passes that are not valid.
func badPasses() []yarns.Pass {
	var ps []yarns.Pass
	for _, id := range badNames {
		ps = append(ps, yarns.Pass{Id: id, Dir: api.Left}, yarns.Pass{Id: id, Front: true, Dir: api.Right})
	}
	for _, d := range []api.Dir{badDir, 3, 128, 254, 255} {
		ps = append(ps, pass(1, 0, false, d), pass(6, 2047, true, d), pass(0, 0, true, d))
	}
	return ps
}

// badPendings returns lists that cannot be what is pending.
func badPendings() [][]yarns.Pass {
	lists := [][]yarns.Pass{
		list(l, r), list(r, l), list(fl, fr), list(fr, fl), list(l, l, r), list(r, l, l), list(ol, l, r, or),
		list(l, ol, fl, fr), append(repeat(4094, l), ol, or), append(list(ol, or), repeat(4094, l)...),
		repeat(4097, l), repeat(4098, r), append(repeat(4096, l), r), repeat(9000, fl),
	}
	for _, p := range badPasses() {
		lists = append(lists, list(p), list(l, p), list(p, l), list(ol, l, p), append(repeat(4095, l), p))
	}
	return lists
}

// badYarns returns yarns that are not valid, each for one reason.
func badYarns() []yarns.Yarn {
	ys := []yarns.Yarn{
		{New: true}, {Pending: list(l)}, {Place: 1}, {Place: leftEnd}, {Place: rightEnd}, {Place: -1}, {Place: 2},
		{Place: math.MaxInt}, {Place: math.MinInt}, {Place: 1 << 32}, {Count: 5, New: true}, {Count: 2048, Pending: list(l, l)},
	}
	for _, c := range badCounts {
		ys = append(ys, out(c), in(7, c, false), in(leftEnd, c, true, l))
	}
	for _, p := range badPlaces {
		ys = append(ys, in(p, 0, true), in(p, 2048, false, l))
	}
	for _, ps := range badPendings() {
		ys = append(ys, in(7, 1, false, ps...))
	}
	return ys
}

// goodYarns returns yarns that are valid.
func goodYarns() []yarns.Yarn {
	ys := []yarns.Yarn{out(0), out(1), out(2047), out(2048), {Pending: []yarns.Pass{}}}
	for _, p := range goodPlaces {
		for _, c := range []int{0, 1, 2047, 2048} {
			ys = append(ys, in(p, c, true), in(p, c, false), in(p, c, false, l, fr, l), in(p, c, true, r, r))
		}
	}
	for _, id := range goodNames {
		for _, d := range []api.Dir{api.Left, api.Right} {
			ys = append(ys, in(7, 1, false, yarns.Pass{Id: id, Dir: d}, yarns.Pass{Id: id, Front: true, Dir: 1 - d}))
		}
	}
	return append(ys, in(7, 1, false, repeat(4096, l)...), in(7, 1, true, repeat(4095, fr)...),
		in(7, 1, false, l, fr), in(7, 1, false, l, or), in(7, 1, false, l, yr), in(7, 1, false, l, ol, r, or))
}

// TestConstants is for P2.1 and P2.4: the limits that the chapter names.
func TestConstants(t *testing.T) {
	if yarns.MaxPending != maxPending || needles.LeftEnd != leftEnd || needles.RightEnd != rightEnd || api.MaxLoops != maxLoops {
		t.Errorf("the limits are %d, %d, %d and %d", yarns.MaxPending, needles.LeftEnd, needles.RightEnd, api.MaxLoops)
	}
}

// TestNamed is for P2.1: names at the ends of their limits and beyond.
func TestNamed(t *testing.T) {
	for _, id := range goodNames {
		if !yarns.Named(id) {
			t.Errorf("%v is no name", id)
		}
	}
	for _, id := range badNames {
		if yarns.Named(id) {
			t.Errorf("%v is a name", id)
		}
	}
	for yarn := range 256 {
		for n := -3; n < 2060; n++ {
			id, want := api.Id{Yarn: uint8(yarn), N: n}, yarn >= 1 && yarn <= 6 && n >= 0 && n <= 2047
			if got := yarns.Named(id); got != want {
				t.Errorf("Named(%v) = %v, expected %v", id, got, want)
			}
		}
	}
}

// TestCheck is for P2.1: yarns that are valid, and yarns that are not.
func TestCheck(t *testing.T) {
	for _, y := range goodYarns() {
		if e := yarns.Check(y); e != api.OK {
			t.Errorf("Check(%v) = %d, expected OK", y, e)
		}
	}
	for _, y := range badYarns() {
		if e := yarns.Check(y); e != api.ErrArg {
			t.Errorf("Check(%v) = %d, expected ErrArg", y, e)
		}
	}
}

// TestCheckPlaces is for P2.1: all places, and all numbers around them.
func TestCheckPlaces(t *testing.T) {
	for p := -300; p <= 500; p++ {
		want := api.ErrArg
		if p >= leftEnd && p <= rightEnd && p%2 != 0 {
			want = api.OK
		}
		if e := yarns.Check(in(p, 3, false, l)); e != want {
			t.Errorf("Check of a yarn at %d = %d, expected %d", p, e, want)
		}
		if e := yarns.Check(yarns.Yarn{Place: p}); (e == api.OK) != (p == 0) {
			t.Errorf("Check of a yarn that is out, at %d = %d", p, e)
		}
	}
}

// TestNotValidFirst is for P2.1: Enter, Leave, Go and Make return the error of Check first, whatever else is wrong.
func TestNotValidFirst(t *testing.T) {
	for _, y := range badYarns() {
		for _, side := range []api.Dir{api.Left, api.Right, badDir} {
			wantEnter(t, y, side, yarns.Yarn{}, api.ErrArg)
		}
		wantLeave(t, y, yarns.Yarn{}, api.ErrArg)
		for _, place := range []int{7, 8} {
			wantGo(t, y, place, nil, yarns.Yarn{}, api.ErrArg)
			wantGo(t, y, place, repeat(5000, l), yarns.Yarn{}, api.ErrArg)
		}
		// What is gone past must not make what is pending right.
		wantGo(t, y, 7, list(r), yarns.Yarn{}, api.ErrArg)
		wantGo(t, y, 7, yarns.Inverse(y.Pending), yarns.Yarn{}, api.ErrArg)
		wantMake(t, y, yarns.Yarn{}, yarns.Made{}, api.ErrArg)
	}
}

// wantList compares a list with what it should be; a list that is returned has no room for more.
func wantList(t *testing.T, what string, got, want []yarns.Pass) {
	t.Helper()
	if !slices.Equal(got, want) {
		t.Errorf("%s = %v, expected %v", what, got, want)
	}
	if cap(got) != len(got) {
		t.Errorf("%s has the capacity %d, expected %d", what, cap(got), len(got))
	}
}

// TestReduceExamples is for P2.2: the lists of the chapter, and others.
func TestReduceExamples(t *testing.T) {
	for _, c := range []struct{ l, want []yarns.Pass }{
		{nil, nil}, {list(), nil}, {list(l), list(l)},
		{list(l, r), nil}, {list(r, l), nil}, {list(l, l, r), list(l)}, {list(r, l, l, r, r), list(r)},
		{list(l, r, l), list(l)}, {list(l, r, r, l), nil}, {list(l, r, l, r, l, r), nil}, {list(l, l, l, r, r, r), nil},
		// What is cancelled lets what is around it follow each other.
		{list(fl, l, ol, or, r, fr), nil}, {list(fl, l, ol, or, r, fl), list(fl, fl)}, {list(ol, l, r, l, or), list(ol, l, or)},
		{list(yl, ol, l, r, or, yr, l), list(l)}, {list(l, ol, or, yl, yr, r, r), list(r)},
		// Another loop, another yarn, the other side of the loop or the same direction does not cancel.
		{list(l, fr), list(l, fr)}, {list(fl, r), list(fl, r)}, {list(l, or), list(l, or)}, {list(l, yr), list(l, yr)},
		{list(l, l), list(l, l)}, {list(r, r), list(r, r)}, {list(l, ol, r, or), list(l, ol, r, or)},
	} {
		wantList(t, "Reduce", yarns.Reduce(c.l), c.want)
	}
}

// TestReduceAnyPasses is for P2.2: lists of passes that are not valid are reduced too; only Left and Right cancel.
func TestReduceAnyPasses(t *testing.T) {
	for _, id := range append(badNames, goodNames...) {
		left, right := yarns.Pass{Id: id, Dir: api.Left}, yarns.Pass{Id: id, Dir: api.Right}
		wantList(t, "Reduce", yarns.Reduce(list(left, left, right, l)), list(left, l))
		for _, d := range []api.Dir{badDir, 3, 255} {
			none, other := yarns.Pass{Id: id, Dir: d}, yarns.Pass{Id: id, Dir: d + 1}
			for _, ps := range [][]yarns.Pass{{none, none}, {none, left}, {left, none}, {none, right}, {right, none}, {left, none, right}} {
				wantList(t, "Reduce", yarns.Reduce(ps), ps)
			}
			wantList(t, "Reduce", yarns.Reduce(list(none, left, right, none)), list(none, none))
			if d < 255 {
				wantList(t, "Reduce", yarns.Reduce(list(none, other)), list(none, other))
			}
		}
	}
}

// TestReduceDirections is for P2.2: of all pairs of directions only Left and Right cancel, in both orders.
func TestReduceDirections(t *testing.T) {
	for d := range 256 {
		for e := range 256 {
			ps := list(pass(1, 0, true, api.Dir(d)), pass(1, 0, true, api.Dir(e)))
			want := ps
			if d == 0 && e == 1 || d == 1 && e == 0 {
				want = nil
			}
			wantList(t, "Reduce", yarns.Reduce(ps), want)
		}
	}
}

// naive reduces a list, two passes at a time: of those that can be taken away, it takes those that choose chooses.
func naive(ps []yarns.Pass, choose func(n int) int) []yarns.Pass {
	ps = slices.Clone(ps)
	for {
		var at []int
		for i := 0; i+1 < len(ps); i++ {
			p, q := ps[i], ps[i+1]
			dirs := p.Dir == api.Left && q.Dir == api.Right || p.Dir == api.Right && q.Dir == api.Left
			if p.Id == q.Id && p.Front == q.Front && dirs {
				at = append(at, i)
			}
		}
		if len(at) == 0 {
			return ps
		}
		i := at[choose(len(at))]
		ps = slices.Delete(ps, i, i+2)
	}
}

// allLists calls f with all lists of up to n passes of some.
func allLists(n int, some []yarns.Pass, f func(ps []yarns.Pass)) {
	var longer func(ps []yarns.Pass)
	longer = func(ps []yarns.Pass) {
		f(ps)
		if len(ps) == n {
			return
		}
		for _, p := range some {
			longer(append(slices.Clip(ps), p))
		}
	}
	longer(nil)
}

// TestReduceAll is for P2.2 and P2.6: all short lists, whichever passes are taken first.
func TestReduceAll(t *testing.T) {
	random := rand.New(rand.NewSource(2))
	compare := func(ps []yarns.Pass) {
		got := yarns.Reduce(ps)
		for _, choose := range []func(int) int{func(int) int { return 0 }, func(n int) int { return n - 1 }, random.Intn} {
			wantList(t, "Reduce", got, naive(ps, choose))
		}
	}
	allLists(4, list(l, r, fl, fr, ol, or, yr, pass(1, 0, false, badDir)), compare)
	allLists(7, list(l, r, ol, or), compare)
	allLists(11, list(l, r), compare)
	for range 300 {
		compare(randomList(random, 200))
	}
}

// randomList returns a list of up to n valid passes, many of which cancel.
func randomList(random *rand.Rand, n int) []yarns.Pass {
	some := list(l, r, fl, fr, ol, or)
	ps := make([]yarns.Pass, random.Intn(n+1))
	for i := range ps {
		ps[i] = some[random.Intn(len(some))]
	}
	return ps
}

// TestReduceLong is for P2.2: long lists, those that are reduced to nothing among them.
func TestReduceLong(t *testing.T) {
	for _, n := range []int{4095, 4096, 4097, 100000} {
		wantList(t, "Reduce", yarns.Reduce(repeat(n, l)), repeat(n, l))
		wantList(t, "Reduce", yarns.Reduce(append(repeat(n, l), repeat(n, r)...)), nil)
		wantList(t, "Reduce", yarns.Reduce(append(repeat(n, fr), repeat(n+1, fl)...)), list(fl))
		there := repeat(n, ol)
		for range n {
			there = append(there, l, r)
		}
		wantList(t, "Reduce", yarns.Reduce(there), repeat(n, ol))
	}
}

// TestInverse is for P2.2: the opposite order, and the other direction; that of what is no direction is Right.
func TestInverse(t *testing.T) {
	none, other := pass(0, -1, true, badDir), pass(255, math.MinInt, false, 255)
	noneRight, otherRight := pass(0, -1, true, api.Right), pass(255, math.MinInt, false, api.Right)
	for _, c := range []struct{ l, want []yarns.Pass }{
		{nil, nil}, {list(), nil}, {list(l), list(r)}, {list(r), list(l)}, {list(l, l), list(r, r)},
		{list(l, ol), list(or, r)}, {list(l, fr, yl), list(yr, fl, r)}, {list(l, r), list(l, r)}, {list(r, l, l), list(r, r, l)},
		{list(none), list(noneRight)}, {list(none, l, other), list(otherRight, r, noneRight)},
		{repeat(5000, l), repeat(5000, r)}, {append(repeat(4096, l), ol), append(list(or), repeat(4096, r)...)},
	} {
		wantList(t, "Inverse", yarns.Inverse(c.l), c.want)
	}
	for d := range 256 {
		want := api.Right
		if api.Dir(d) == api.Right {
			want = api.Left
		}
		wantList(t, "Inverse", yarns.Inverse(list(pass(3, 9, true, api.Dir(d)))), list(pass(3, 9, true, want)))
	}
}

// wantEnter compares what Enter returns with what it should.
func wantEnter(t *testing.T, y yarns.Yarn, side api.Dir, want yarns.Yarn, e api.Errno) {
	t.Helper()
	got, ge := yarns.Enter(y, side)
	if !same(got, want) || ge != e || e != api.OK && !isZero(got) {
		t.Errorf("Enter(%v, %d) = %v, %d, expected %v, %d", y, side, got, ge, want, e)
	}
}

// TestEnter is for P2.3: carriers that are in and out, and sides that are none.
func TestEnter(t *testing.T) {
	wantEnter(t, yarns.Yarn{}, api.Right, in(179, 0, true), api.OK)
	wantEnter(t, yarns.Yarn{}, api.Left, in(-13, 0, true), api.OK)
	for _, y := range goodYarns() {
		for _, side := range []api.Dir{badDir, 3, 128, 255} {
			wantEnter(t, y, side, yarns.Yarn{}, api.ErrArg)
		}
		if y.In {
			wantEnter(t, y, api.Left, yarns.Yarn{}, api.ErrYarn)
			wantEnter(t, y, api.Right, yarns.Yarn{}, api.ErrYarn)
		} else {
			wantEnter(t, y, api.Left, in(leftEnd, y.Count, true), api.OK)
			wantEnter(t, y, api.Right, in(rightEnd, y.Count, true), api.OK)
		}
	}
}

// wantLeave compares what Leave returns with what it should.
func wantLeave(t *testing.T, y, want yarns.Yarn, e api.Errno) {
	t.Helper()
	got, ge := yarns.Leave(y)
	if !same(got, want) || ge != e || e != api.OK && !isZero(got) {
		t.Errorf("Leave(%v) = %v, %d, expected %v, %d", y, got, ge, want, e)
	}
}

// TestLeave is for P2.3: carriers that are in, with something pending or not, and out.
func TestLeave(t *testing.T) {
	wantLeave(t, yarns.Yarn{}, yarns.Yarn{}, api.ErrYarn)
	wantLeave(t, in(7, 3, true, l, ol), out(3), api.OK)
	for _, y := range goodYarns() {
		if y.In {
			wantLeave(t, y, out(y.Count), api.OK)
		} else {
			wantLeave(t, y, yarns.Yarn{}, api.ErrYarn)
		}
	}
}

// wantGo compares what Go returns with what it should.
func wantGo(t *testing.T, y yarns.Yarn, place int, passed []yarns.Pass, want yarns.Yarn, e api.Errno) {
	t.Helper()
	got, ge := yarns.Go(y, place, passed)
	if !same(got, want) || ge != e || e != api.OK && !isZero(got) || cap(got.Pending) != len(got.Pending) {
		t.Errorf("Go(%v, %d, %d passes) = %v, %d, expected %v, %d", y, place, len(passed), got, ge, want, e)
	}
}

// TestGo is for P2.4: what was passed is behind what is pending, and is reduced; Count and New stay.
func TestGo(t *testing.T) {
	wantGo(t, in(179, 0, true), 7, list(l), in(7, 0, true, l), api.OK)
	wantGo(t, in(7, 5, false, ol), 7, nil, in(7, 5, false, ol), api.OK)
	wantGo(t, in(7, 5, false, ol), 9, list(), in(9, 5, false, ol), api.OK)
	wantGo(t, in(7, 2048, false, ol), -1, list(l), in(-1, 2048, false, ol, l), api.OK)
	wantGo(t, in(7, 1, true, l), 9, list(r), in(9, 1, true), api.OK)
	wantGo(t, in(7, 1, false, ol, l), 9, list(r, or, fl), in(9, 1, false, fl), api.OK)
	wantGo(t, in(7, 1, false, ol, l), 9, list(fl, fr, r), in(9, 1, false, ol), api.OK)
	wantGo(t, in(7, 1, false, l), 9, list(fl, fr, r, r), in(9, 1, false, r), api.OK)
	wantGo(t, in(7, 1, false), 9, list(l, r), in(9, 1, false), api.OK)
	wantGo(t, in(7, 1, false, l, yl), 9, list(fr, or, ol, ol), in(9, 1, false, l, yl, fr, ol), api.OK)
	for _, place := range goodPlaces {
		wantGo(t, in(83, 1, false, l), place, list(l), in(place, 1, false, l, l), api.OK)
	}
	for _, id := range goodNames {
		for _, d := range []api.Dir{api.Left, api.Right} {
			p := yarns.Pass{Id: id, Front: true, Dir: d}
			wantGo(t, in(7, 1, true), 9, list(p), in(9, 1, true, p), api.OK)
		}
	}
}

// TestGoAll is for P2.4: all short lists behind all short lists.
func TestGoAll(t *testing.T) {
	some := list(l, r, ol, fr)
	first := func(int) int { return 0 }
	allLists(4, some, func(pending []yarns.Pass) {
		if len(naive(pending, first)) != len(pending) {
			return
		}
		allLists(3, some, func(passed []yarns.Pass) {
			want := naive(slices.Concat(pending, passed), first)
			wantGo(t, in(1, 4, true, pending...), 3, passed, in(3, 4, true, want...), api.OK)
		})
	})
}

// TestGoErrors is for P2.4: what is no place or no pass comes before a carrier that is out, and this before too many passes.
func TestGoErrors(t *testing.T) {
	full := in(7, 1, false, repeat(4096, l)...)
	for _, y := range append(goodYarns(), full) {
		for _, place := range badPlaces {
			wantGo(t, y, place, nil, yarns.Yarn{}, api.ErrArg)
			wantGo(t, y, place, repeat(5000, l), yarns.Yarn{}, api.ErrArg)
		}
		wantGo(t, y, 8, list(pass(0, 0, false, api.Left)), yarns.Yarn{}, api.ErrArg)
		for _, p := range badPasses() {
			wantGo(t, y, 7, list(p), yarns.Yarn{}, api.ErrArg)
			wantGo(t, y, 7, list(l, fr, p), yarns.Yarn{}, api.ErrArg)
			wantGo(t, y, 7, list(p, l, l), yarns.Yarn{}, api.ErrArg)
		}
		// Passes that cancel are looked at too.
		wantGo(t, y, 7, list(pass(7, 0, true, api.Left), pass(7, 0, true, api.Right)), yarns.Yarn{}, api.ErrArg)
		wantGo(t, y, 7, append(repeat(5000, l), pass(1, 2048, false, api.Left)), yarns.Yarn{}, api.ErrArg)
	}
	for _, y := range []yarns.Yarn{out(0), out(7), out(2048)} {
		wantGo(t, y, 7, nil, yarns.Yarn{}, api.ErrYarn)
		wantGo(t, y, 7, list(l), yarns.Yarn{}, api.ErrYarn)
		wantGo(t, y, 7, repeat(4097, l), yarns.Yarn{}, api.ErrYarn)
	}
}

// TestGoLimit is for P2.4: 4096 passes that are pending then, and one more.
func TestGoLimit(t *testing.T) {
	for _, n := range []int{0, 1, 2048, 4095, 4096} {
		y := in(7, 1, false, repeat(n, l)...)
		wantGo(t, y, 9, repeat(4096-n, l), in(9, 1, false, repeat(4096, l)...), api.OK)
		wantGo(t, y, 9, repeat(4097-n, l), yarns.Yarn{}, api.ErrLimit)
		wantGo(t, y, 9, append(repeat(4096-n, l), ol), yarns.Yarn{}, api.ErrLimit)
		wantGo(t, y, 9, repeat(20000, l), yarns.Yarn{}, api.ErrLimit)
		// Only what is left when they are reduced counts.
		wantGo(t, y, 9, append(repeat(5000, l), repeat(5000, r)...), in(9, 1, false, repeat(n, l)...), api.OK)
		wantGo(t, y, 9, repeat(n+4096, r), in(9, 1, false, repeat(4096, r)...), api.OK)
		wantGo(t, y, 9, repeat(n+4097, r), yarns.Yarn{}, api.ErrLimit)
	}
}

// wantMake compares what Make returns with what it should.
func wantMake(t *testing.T, y, want yarns.Yarn, made yarns.Made, e api.Errno) {
	t.Helper()
	got, gm, ge := yarns.Make(y)
	right := same(got, want) && gm.N == made.N && gm.New == made.New && slices.Equal(gm.Past, made.Past) && ge == e
	if !right || cap(gm.Past) != len(gm.Past) || e != api.OK && !(isZero(got) && isZero(gm)) {
		t.Errorf("Make(%v) = %v, %v, %d, expected %v, %v, %d", y, got, gm, ge, want, made, e)
	}
}

// TestMake is for P2.5: carriers that are in and out, and Count at its limit.
func TestMake(t *testing.T) {
	wantMake(t, in(7, 0, true, l), in(7, 1, false), yarns.Made{N: 0, New: true, Past: list(l)}, api.OK)
	wantMake(t, in(7, 1, false), in(7, 2, false), yarns.Made{N: 1}, api.OK)
	wantMake(t, in(7, 2047, true, l, fr), in(7, 2048, false), yarns.Made{N: 2047, New: true, Past: list(l, fr)}, api.OK)
	wantMake(t, in(7, 2048, false), yarns.Yarn{}, yarns.Made{}, api.ErrLimit)
	wantMake(t, in(7, 2048, true, l), yarns.Yarn{}, yarns.Made{}, api.ErrLimit)
	wantMake(t, out(2048), yarns.Yarn{}, yarns.Made{}, api.ErrYarn)
	for _, y := range goodYarns() {
		switch {
		case !y.In:
			wantMake(t, y, yarns.Yarn{}, yarns.Made{}, api.ErrYarn)
		case y.Count == 2048:
			wantMake(t, y, yarns.Yarn{}, yarns.Made{}, api.ErrLimit)
		default:
			wantMake(t, y, in(y.Place, y.Count+1, false), yarns.Made{N: y.Count, New: y.New, Past: y.Pending}, api.OK)
		}
	}
}

// TestWay is for P2.3 to P2.5: a carrier comes in, makes loops, and goes out, as in the chapter; its loops are counted on when it comes in again.
func TestWay(t *testing.T) {
	y, e := yarns.Enter(yarns.Yarn{}, api.Right)
	wantEnter(t, y, api.Left, yarns.Yarn{}, api.ErrYarn)
	y, e2 := yarns.Go(y, 7, list(l))
	y, first, e3 := yarns.Make(y)
	y, second, e4 := yarns.Make(y)
	if e != api.OK || e2 != api.OK || e3 != api.OK || e4 != api.OK {
		t.Fatalf("the errors are %d, %d, %d and %d", e, e2, e3, e4)
	}
	if first.N != 0 || !first.New || !slices.Equal(first.Past, list(l)) || second.N != 1 || second.New || len(second.Past) != 0 {
		t.Errorf("the loops are %v and %v", first, second)
	}
	y, _ = yarns.Leave(y)
	y, _ = yarns.Enter(y, api.Left)
	wantMake(t, y, in(leftEnd, 3, false), yarns.Made{N: 2, New: true}, api.OK)
}

// TestReduceTwice is for P2.6: a list that is reduced is not reduced further, and nothing is left of a list and its inverse.
func TestReduceTwice(t *testing.T) {
	try := func(ps []yarns.Pass) {
		once := yarns.Reduce(ps)
		wantList(t, "Reduce of Reduce", yarns.Reduce(once), once)
		wantList(t, "Reduce of a list and its inverse", yarns.Reduce(slices.Concat(ps, yarns.Inverse(ps))), nil)
		wantList(t, "Reduce of an inverse and its list", yarns.Reduce(slices.Concat(yarns.Inverse(ps), ps)), nil)
		wantList(t, "Inverse of Inverse", yarns.Inverse(yarns.Inverse(ps)), ps)
	}
	allLists(5, list(l, r, fl, fr, ol, yr), try)
	random := rand.New(rand.NewSource(3))
	for range 200 {
		try(randomList(random, 3000))
	}
}

// TestParts is for P2.6: the order in which parts of a list are reduced does not matter.
func TestParts(t *testing.T) {
	random := rand.New(rand.NewSource(4))
	for range 2000 {
		ps := randomList(random, 40)
		i := random.Intn(len(ps) + 1)
		j := i + random.Intn(len(ps)-i+1)
		want := yarns.Reduce(ps)
		wantList(t, "Reduce", yarns.Reduce(slices.Concat(yarns.Reduce(ps[:i]), ps[i:])), want)
		wantList(t, "Reduce", yarns.Reduce(slices.Concat(ps[:i], yarns.Reduce(ps[i:]))), want)
		wantList(t, "Reduce", yarns.Reduce(slices.Concat(ps[:i], yarns.Reduce(ps[i:j]), ps[j:])), want)
	}
}

// TestThereAndBack is for P2.6: a carrier that goes somewhere and back has the same passes pending as before; one that goes in two steps, as one that goes in one.
func TestThereAndBack(t *testing.T) {
	random := rand.New(rand.NewSource(5))
	for range 1000 {
		y := in(7, 3, true, yarns.Reduce(randomList(random, 30))...)
		one, two := randomList(random, 30), randomList(random, 30)
		z, e := yarns.Go(y, 21, one)
		if e != api.OK {
			t.Fatalf("Go = %d", e)
		}
		wantGo(t, z, 7, yarns.Inverse(one), y, api.OK)
		both, _ := yarns.Go(y, 35, slices.Concat(one, two))
		wantGo(t, z, 35, two, both, api.OK)
	}
}

// TestValidResults is for P2.1 and P2.6: the yarns that are returned are valid.
func TestValidResults(t *testing.T) {
	random := rand.New(rand.NewSource(6))
	y := yarns.Yarn{}
	for range 20000 {
		var z yarns.Yarn
		var e api.Errno
		switch random.Intn(8) {
		case 0:
			z, e = yarns.Enter(y, api.Dir(random.Intn(2)))
		case 1:
			z, e = yarns.Leave(y)
		case 2:
			z, _, e = yarns.Make(y)
		default:
			z, e = yarns.Go(y, random.Intn(200)-15, randomList(random, 6))
		}
		if c := yarns.Check(z); c != api.OK {
			t.Fatalf("%v became %v, Check of which is %d", y, z, c)
		}
		if e == api.OK {
			y = z
		}
	}
}

// TestMemory is for R1 and R4: no argument is changed, and no memory is shared with one, or between two results.
func TestMemory(t *testing.T) {
	for _, ps := range [][]yarns.Pass{list(l, fl, ol), list(l, fl, fr, ol, or, or), list(l), repeat(4096, l)} {
		mine := slices.Clone(ps)
		one, two, three, four := yarns.Reduce(mine), yarns.Reduce(mine), yarns.Inverse(mine), yarns.Inverse(mine)
		for i := range one {
			one[i] = pass(6, 6, true, api.Right)
		}
		for i := range three {
			three[i] = pass(6, 6, true, api.Right)
		}
		wantList(t, "the second result of Reduce", two, naive(ps, func(int) int { return 0 }))
		wantList(t, "the second result of Inverse", four, yarns.Inverse(ps))
		if !slices.Equal(mine, ps) {
			t.Errorf("%v became %v", ps, mine)
		}
	}
}

// TestYarnMemory is for R1 and R4: the same of Go and Make, where the arguments have room behind them.
func TestYarnMemory(t *testing.T) {
	pending := append(make([]yarns.Pass, 0, 99), l, fl, ol, yl)
	passed := append(make([]yarns.Pass, 0, 99), yr, or, l, l)
	for _, some := range [][]yarns.Pass{nil, passed[:1], passed[:2], passed, list(l)} {
		y := in(7, 3, true, pending...)
		y.Pending = pending[:len(pending):cap(pending)]
		was, wasPassed := slices.Clone(pending[:cap(pending)]), slices.Clone(passed[:cap(passed)])
		one, _ := yarns.Go(y, 9, some)
		two, _ := yarns.Go(y, 9, some)
		_, made, _ := yarns.Make(y)
		_, other, _ := yarns.Make(y)
		for _, ps := range [][]yarns.Pass{one.Pending, made.Past} {
			for i := range ps {
				ps[i] = pass(6, 6, true, api.Right)
			}
		}
		if !slices.Equal(was, pending[:cap(pending)]) || !slices.Equal(wasPassed, passed[:cap(passed)]) {
			t.Errorf("the arguments became %v and %v", pending, passed)
		}
		if !slices.Equal(two.Pending, naive(slices.Concat(pending, some), func(int) int { return 0 })) || !slices.Equal(other.Past, pending) {
			t.Errorf("the second results became %v and %v", two.Pending, other.Past)
		}
	}
}

// TestNothingPending is for R3 and R4: an empty list is the same as none, also where a list has room.
func TestNothingPending(t *testing.T) {
	y := in(7, 3, false)
	y.Pending = make([]yarns.Pass, 0, 8)
	z, e := yarns.Go(y, 9, make([]yarns.Pass, 0, 8))
	if e != api.OK || !same(z, in(9, 3, false)) || cap(z.Pending) != 0 {
		t.Errorf("Go = %v, %d", z, e)
	}
	made, past, e := yarns.Make(y)
	if e != api.OK || cap(made.Pending) != 0 || cap(past.Past) != 0 {
		t.Errorf("Make = %v, %v, %d", made, past, e)
	}
	wantEnter(t, yarns.Yarn{Pending: make([]yarns.Pass, 0, 8)}, api.Left, in(leftEnd, 0, true), api.OK)
	full := in(7, 3, false, repeat(4096, l)...)
	for _, got := range []func() (yarns.Yarn, api.Errno){
		func() (yarns.Yarn, api.Errno) { return yarns.Leave(full) },
		func() (yarns.Yarn, api.Errno) { return yarns.Go(full, 9, repeat(4096, r)) },
		func() (yarns.Yarn, api.Errno) { z, _, e := yarns.Make(full); return z, e },
	} {
		if z, e := got(); e != api.OK || len(z.Pending) != 0 || cap(z.Pending) != 0 {
			t.Errorf("%d passes are pending, with room for %d, and the error %d", len(z.Pending), cap(z.Pending), e)
		}
	}
}
