package fabrics_test

import (
	"fmt"
	"math"
	"math/rand"
	"reflect"
	"slices"
	"strconv"
	"strings"
	"testing"

	"gansey/api"
	"gansey/fabrics"
	"gansey/loops"
	"gansey/yarns"
)

// The tests count the limits themselves, so that they do not depend on what they test.
const (
	yarnCount = 6
	maxLoops  = 2048
	maxCross  = 1048576
)

// badIds are names that no loop of a valid table has, some of which would be names if numbers overflowed.
var badIds = []api.Id{
	{}, {Yarn: 0, N: 1}, {Yarn: 1, N: -1}, {Yarn: 7, N: 0}, {Yarn: 255, N: 0}, {Yarn: 1, N: maxLoops}, {Yarn: 1, N: 1 << 32}, {Yarn: 1, N: -1 << 32},
	{Yarn: 1, N: 1 << 62}, {Yarn: 1, N: math.MaxInt}, {Yarn: 1, N: math.MinInt}, {Yarn: 0, N: math.MinInt}, {Yarn: 255, N: math.MaxInt}, {Yarn: 6, N: 0},
}

// id reads the name of a loop, such as 1.0.
func id(s string) api.Id {
	yarn, n, ok := strings.Cut(s, ".")
	y, err := strconv.ParseUint(yarn, 10, 8)
	k, err2 := strconv.Atoi(n)
	if !ok || err != nil || err2 != nil {
		panic(s)
	}
	return api.Id{Yarn: uint8(y), N: k}
}

// ids reads the names of loops.
func ids(s string) []api.Id {
	var l []api.Id
	for _, word := range strings.Fields(s) {
		l = append(l, id(word))
	}
	return l
}

// pass reads a pass, such as 1.0> or 1.0<+.
func pass(s string) yarns.Pass {
	s, isFront := strings.CutSuffix(s, "+")
	p := yarns.Pass{Front: isFront}
	if right, is := strings.CutSuffix(s, ">"); is {
		p.Id, p.Dir = id(right), api.Right
		return p
	}
	left, is := strings.CutSuffix(s, "<")
	if !is {
		panic(s)
	}
	p.Id = id(left)
	return p
}

// loop reads the words of a loop behind its name.
func loop(words []string) loops.Loop {
	l := loops.Loop{Bed: api.Front}
	if words[0] == "back" {
		l.Bed = api.Back
	} else if words[0] != "front" {
		panic(words[0])
	}
	part := ""
	for _, w := range words[1:] {
		switch {
		case w == "new" || w == "through" || w == "past":
			part = w
			l.New = l.New || w == "new"
		case part == "through":
			l.Through = append(l.Through, id(w))
		case part == "past":
			l.Past = append(l.Past, pass(w))
		default:
			panic(w)
		}
	}
	return l
}

// crossing reads the words of a crossing.
func crossing(words []string) fabrics.Crossing {
	n, err := strconv.Atoi(words[2])
	if err != nil || len(words) != 3 {
		panic(words[2])
	}
	return fabrics.Crossing{A: id(words[0]), B: id(words[1]), N: n}
}

// read reads the lines of a fabric, with line breaks or slashes between them; it need not be valid.
func read(s string) fabrics.Fabric {
	f := fabrics.Fabric{Yarns: make(loops.Table, yarnCount)}
	for _, text := range strings.FieldsFunc(s, func(r rune) bool { return r == '\n' || r == '/' }) {
		words := strings.Fields(text)
		switch words[0] {
		case "cross":
			f.Crossings = append(f.Crossings, crossing(words[1:]))
		case "held":
			f.Held = append(f.Held, ids(strings.Join(words[1:], " "))...)
		case "fallen":
			f.Fallen = append(f.Fallen, ids(strings.Join(words[1:], " "))...)
		default:
			name := id(words[0])
			for len(f.Yarns) < int(name.Yarn) {
				f.Yarns = append(f.Yarns, nil)
			}
			if len(f.Yarns[name.Yarn-1]) != name.N {
				panic(text)
			}
			f.Yarns[name.Yarn-1] = append(f.Yarns[name.Yarn-1], loop(words[1:]))
		}
	}
	return f
}

const exampleText = "1.0 front new\n1.1 front\n1.2 back through 1.0 past 1.1<+\ncross 1.1 1.2 -1\nheld 1.1 1.2\n"

// example returns the fabric of the chapter.
func example() fabrics.Fabric { return read(exampleText) }

// plain returns a fabric of n loops of each of these yarns, all of them held.
func plain(n int, yarn ...uint8) fabrics.Fabric {
	f := fabrics.Fabric{Yarns: make(loops.Table, yarnCount)}
	for _, y := range yarn {
		for k := range n {
			f.Yarns[y-1] = append(f.Yarns[y-1], loops.Loop{New: k == 0})
			f.Held = append(f.Held, api.Id{Yarn: y, N: k})
		}
	}
	return f
}

// deepTable returns a copy of a table that shares nothing with it.
func deepTable(t loops.Table) loops.Table {
	own := make(loops.Table, len(t))
	for y, list := range t {
		for _, l := range list {
			l.Through, l.Past = slices.Clone(l.Through), slices.Clone(l.Past)
			own[y] = append(own[y], l)
		}
	}
	return own
}

// deep returns a copy of a fabric that shares nothing with it.
func deep(f fabrics.Fabric) fabrics.Fabric {
	return fabrics.Fabric{Yarns: deepTable(f.Yarns), Crossings: slices.Clone(f.Crossings), Held: slices.Clone(f.Held), Fallen: slices.Clone(f.Fallen)}
}

// alike reports whether two fabrics are the same, without the package: what is empty and what is nil looks the same.
func alike(a, b fabrics.Fabric) bool { return fmt.Sprint(a) == fmt.Sprint(b) }

// less reports whether one name comes before another one.
func less(a, b api.Id) bool { return a.Yarn < b.Yarn || a.Yarn == b.Yarn && a.N < b.N }

// sorted returns names in their order, each as often as it is there.
func sorted(l []api.Id) []api.Id {
	var out []api.Id
	for _, name := range l {
		i := 0
		for i < len(out) && !less(name, out[i]) {
			i++
		}
		out = slices.Insert(out, i, name)
	}
	return out
}

// sums are crossings by their loops, the lesser one first.
type sums map[[2]api.Id]int

// list returns the crossings that are not 0, ascending.
func (s sums) list() []fabrics.Crossing {
	var l []fabrics.Crossing
	for pair, n := range s {
		if n != 0 {
			l = append(l, fabrics.Crossing{A: pair[0], B: pair[1], N: n})
		}
	}
	slices.SortFunc(l, func(c, d fabrics.Crossing) int {
		if less(c.A, d.A) || c.A == d.A && less(c.B, d.B) {
			return -1
		}
		return 1
	})
	return l
}

// pair returns two names, the lesser one first.
func pair(a, b api.Id) [2]api.Id {
	if less(b, a) {
		return [2]api.Id{b, a}
	}
	return [2]api.Id{a, b}
}

// names returns the names of all loops of a table, ascending.
func names(t loops.Table) []api.Id {
	var all []api.Id
	for y := range t {
		for n := range t[y] {
			if y < 255 {
				all = append(all, api.Id{Yarn: uint8(y + 1), N: n})
			}
		}
	}
	return all
}

// randomPast returns a reduced list of passes of some of these loops.
func randomPast(random *rand.Rand, there []api.Id) []yarns.Pass {
	var l []yarns.Pass
	for range random.Intn(4) {
		if len(there) == 0 {
			break
		}
		p := yarns.Pass{Id: there[random.Intn(len(there))], Front: random.Intn(2) == 0, Dir: api.Dir(random.Intn(2))}
		if len(l) == 0 || l[len(l)-1].Id != p.Id || l[len(l)-1].Front != p.Front {
			l = append(l, p)
		}
	}
	return l
}

// randomFabric returns a valid fabric.
func randomFabric(random *rand.Rand, count int) fabrics.Fabric {
	f := fabrics.Fabric{Yarns: make(loops.Table, yarnCount)}
	var there, free []api.Id
	for range count {
		y := random.Intn(yarnCount)
		l := loops.Loop{Bed: api.Bed(random.Intn(2)), New: len(f.Yarns[y]) == 0 || random.Intn(4) == 0, Past: randomPast(random, there)}
		random.Shuffle(len(free), func(i, j int) { free[i], free[j] = free[j], free[i] })
		if k := min(len(free), random.Intn(6)); k < 5 {
			l.Through, free = slices.Clone(free[:k]), free[k:]
		}
		name := api.Id{Yarn: uint8(y + 1), N: len(f.Yarns[y])}
		f.Yarns[y] = append(f.Yarns[y], l)
		there, free = append(there, name), append(free, name)
	}
	random.Shuffle(len(free), func(i, j int) { free[i], free[j] = free[j], free[i] })
	k := random.Intn(len(free) + 1)
	f.Held, f.Fallen = slices.Clone(free[:k]), sorted(free[k:])
	f.Crossings = randomSums(random, there).list()
	return f
}

// randomSums returns sums of crossings of some of these loops.
func randomSums(random *rand.Rand, there []api.Id) sums {
	s := sums{}
	for range random.Intn(6) {
		if len(there) < 2 {
			break
		}
		p := random.Perm(len(there))
		s[pair(there[p[0]], there[p[1]])] = []int{1, -1, 2, -7, maxCross, -maxCross, random.Intn(9) - 4}[random.Intn(7)]
	}
	return s
}

// breakCrossings changes the crossings of a fabric, so that they may not be valid any more.
func breakCrossings(random *rand.Rand, f *fabrics.Fabric, other api.Id) {
	if len(f.Crossings) == 0 {
		return
	}
	i, j := random.Intn(len(f.Crossings)), random.Intn(len(f.Crossings))
	c := &f.Crossings[i]
	switch random.Intn(6) {
	case 0:
		c.A, c.B = c.B, c.A
	case 1:
		f.Crossings[i], f.Crossings[j] = f.Crossings[j], f.Crossings[i]
	case 2:
		c.N = []int{0, maxCross + 1, -maxCross - 1, math.MaxInt, math.MinInt, maxCross, 1}[random.Intn(7)]
	case 3:
		c.A = other
	case 4:
		c.B = other
	case 5:
		f.Crossings = append(f.Crossings, *c)
	}
}

// breakTable changes the table of a fabric, so that it may not be valid any more.
func breakTable(random *rand.Rand, f *fabrics.Fabric, other api.Id) {
	y := random.Intn(yarnCount)
	if len(f.Yarns) < yarnCount || len(f.Yarns[y]) == 0 {
		return
	}
	n := random.Intn(len(f.Yarns[y]))
	l := &f.Yarns[y][n]
	switch random.Intn(6) {
	case 0:
		l.Bed = api.Bed(random.Intn(4))
	case 1:
		l.Through = append(l.Through, other)
	case 2:
		l.Through = nil
	case 3:
		l.Past = append(l.Past, yarns.Pass{Id: other, Dir: api.Dir(random.Intn(3))})
	case 4:
		f.Yarns[y] = f.Yarns[y][:n]
	case 5:
		f.Yarns = f.Yarns[:y]
	}
}

// broken returns a fabric that is changed somewhere, so that it may not be valid any more.
func broken(random *rand.Rand, f fabrics.Fabric) fabrics.Fabric {
	f = deep(f)
	other := api.Id{Yarn: uint8(random.Intn(yarnCount) + 1), N: random.Intn(5)}
	list := &f.Held
	if random.Intn(2) == 0 {
		list = &f.Fallen
	}
	switch n := len(*list); random.Intn(7) {
	case 0:
		breakTable(random, &f, other)
	case 1, 2:
		breakCrossings(random, &f, other)
	case 3:
		*list = append(*list, other)
	case 4:
		if n > 0 {
			(*list)[random.Intn(n)] = other
		}
	case 5:
		*list = (*list)[:random.Intn(n+1)]
	case 6:
		random.Shuffle(n, func(i, j int) { (*list)[i], (*list)[j] = (*list)[j], (*list)[i] })
	}
	return f
}

// slowCrossings reports whether crossings are as the chapter says it.
func slowCrossings(all []api.Id, l []fabrics.Crossing) bool {
	right := true
	for i, c := range l {
		right = right && less(c.A, c.B) && slices.Contains(all, c.A) && slices.Contains(all, c.B) && c.N != 0 && c.N <= maxCross && c.N >= -maxCross
		for _, d := range l[:i] {
			right = right && (less(d.A, c.A) || d.A == c.A && less(d.B, c.B))
		}
	}
	return right
}

// times returns how often a list has a name.
func times(l []api.Id, name api.Id) int {
	n := 0
	for _, x := range l {
		if x == name {
			n++
		}
	}
	return n
}

// slowState reports whether each loop is held, has fallen, or has one on it, as the chapter says it.
func slowState(f fabrics.Fabric) bool {
	var on []api.Id
	for _, list := range f.Yarns {
		for _, l := range list {
			on = append(on, l.Through...)
		}
	}
	for i := range f.Fallen {
		for j := range i {
			if !less(f.Fallen[j], f.Fallen[i]) {
				return false
			}
		}
	}
	for _, name := range names(f.Yarns) {
		if times(f.Held, name)+times(f.Fallen, name)+times(on, name) != 1 {
			return false
		}
	}
	return true
}

// slowCheck is Check, as the chapter says it, for fabrics with few loops.
func slowCheck(f fabrics.Fabric) api.Errno {
	if e := loops.Check(f.Yarns); e != api.OK {
		return e
	}
	all := names(f.Yarns)
	if !slowCrossings(all, f.Crossings) {
		return api.ErrArg
	}
	for _, name := range append(slices.Clone(f.Held), f.Fallen...) {
		if !slices.Contains(all, name) {
			return api.ErrNone
		}
	}
	if !slowState(f) {
		return api.ErrState
	}
	return api.OK
}

// short keeps what a failure prints readable.
func short(f fabrics.Fabric) any {
	if loops.Count(f.Yarns) > 40 || len(f.Yarns) > 12 {
		return "a fabric with " + strconv.Itoa(loops.Count(f.Yarns)) + " loops of " + strconv.Itoa(len(f.Yarns)) + " yarns"
	}
	return f
}

// isZero reports whether a fabric is the zero value.
func isZero(f fabrics.Fabric) bool { return reflect.DeepEqual(f, fabrics.Fabric{}) }

// wantCheck tests what Check returns, and that Cross and Text do as it says.
func wantCheck(t *testing.T, f fabrics.Fabric, e api.Errno) {
	t.Helper()
	if got := fabrics.Check(f); got != e {
		t.Errorf("Check(%v) = %d, expected %d", short(f), got, e)
	}
	if e == api.OK {
		if text := fabrics.Text(f); (text == "") != (loops.Count(f.Yarns) == 0) {
			t.Errorf("Text(%v) = %q", short(f), text)
		}
		return
	}
	if text := fabrics.Text(f); text != "" {
		t.Errorf("Text(%v) = %q, expected none", short(f), text)
	}
	// Cross returns the error of Check before all others.
	for _, b := range []api.Id{id("1.0"), id("1.1"), id("0.0")} {
		for _, sign := range []int{1, -1, 0} {
			if more, got := fabrics.Cross(f, id("1.0"), b, sign); got != e || !isZero(more) {
				t.Errorf("Cross(%v, 1.0, %v, %d) = %v, %d, expected %d", short(f), b, sign, more, got, e)
			}
		}
	}
}

// wantChecks tests what Check returns for a fabric with more lines.
func wantChecks(t *testing.T, base string, want map[string]api.Errno) {
	t.Helper()
	for s, e := range want {
		wantCheck(t, read(base+"/"+s), e)
	}
}

// wantIds tests a list of names that has no room for more.
func wantIds(t *testing.T, what string, got, want []api.Id) {
	t.Helper()
	if !slices.Equal(got, want) {
		t.Errorf("%s = %v, expected %v", what, got, want)
	}
	if cap(got) != len(got) {
		t.Errorf("%s has room for %d, expected %d", what, cap(got), len(got))
	}
}

// wantSame tests whether two fabrics are the same, in both orders.
func wantSame(t *testing.T, a, b fabrics.Fabric, want bool) {
	t.Helper()
	if fabrics.Same(a, b) != want || fabrics.Same(b, a) != want {
		t.Errorf("Same(%v, %v) = %t, %t, expected %t", short(a), short(b), fabrics.Same(a, b), fabrics.Same(b, a), want)
	}
}

// wantLinking tests the sum of two loops, in both orders.
func wantLinking(t *testing.T, f fabrics.Fabric, a, b api.Id, want int) {
	t.Helper()
	if x, y := fabrics.Linking(f, a, b), fabrics.Linking(f, b, a); x != want || y != want {
		t.Errorf("Linking(%v, %v, %v) = %d, %d, expected %d", short(f), a, b, x, y, want)
	}
}

// wantCross tests that Cross returns a fabric that has changed in its crossings alone.
func wantCross(t *testing.T, f fabrics.Fabric, a, b api.Id, sign int, crossings []fabrics.Crossing) fabrics.Fabric {
	t.Helper()
	want := deep(f)
	want.Crossings = crossings
	got, e := fabrics.Cross(f, a, b, sign)
	if e != api.OK || !alike(got, want) {
		t.Errorf("Cross(%v, %v, %v, %d) = %v, %d, expected %v", short(f), a, b, sign, short(got), e, crossings)
	}
	wantFull(t, got)
	return got
}

// wantNoCross tests an error of Cross.
func wantNoCross(t *testing.T, f fabrics.Fabric, a, b api.Id, sign int, want api.Errno) {
	t.Helper()
	if got, e := fabrics.Cross(f, a, b, sign); e != want || !isZero(got) {
		t.Errorf("Cross(%v, %v, %v, %d) = %v, %d, expected %d", short(f), a, b, sign, short(got), e, want)
	}
}

// wantFull tests that no slice of a fabric has room for more.
func wantFull(t *testing.T, f fabrics.Fabric) {
	t.Helper()
	full := cap(f.Yarns) == len(f.Yarns) && cap(f.Crossings) == len(f.Crossings) && cap(f.Held) == len(f.Held) && cap(f.Fallen) == len(f.Fallen)
	for _, list := range f.Yarns {
		full = full && cap(list) == len(list)
		for _, l := range list {
			full = full && cap(l.Through) == len(l.Through) && cap(l.Past) == len(l.Past)
		}
	}
	if !full {
		t.Errorf("a slice of the fabric %v has room for more", short(f))
	}
}

// TestExample is for P6.2, P6.4, P6.5 and P6.6: the examples of the chapter.
func TestExample(t *testing.T) {
	wantCheck(t, example(), api.OK)
	if text := fabrics.Text(example()); text != exampleText {
		t.Errorf("Text = %q", text)
	}
	wantCross(t, example(), id("1.2"), id("1.1"), 1, nil)
	wantLinking(t, example(), id("1.2"), id("1.1"), -1)
	const rest = "1.0 front new / 1.1 front / 1.2 back through 1.0 past 1.1<+ / cross 1.1 1.2 -1"
	wantCheck(t, read(rest+"/ held 1.0 1.1 1.2"), api.ErrState)
	wantCheck(t, read(rest+"/ held 1.2"), api.ErrState)
	wantIds(t, "Undone if 1.2 has fallen", fabrics.Undone(read(rest+"/ held 1.1 / fallen 1.2")), nil)
	wantIds(t, "Undone if 1.1 has fallen", fabrics.Undone(read(rest+"/ held 1.2 / fallen 1.1")), ids("1.1"))
}

// TestCompare is for P6.1: by the yarn first, then by the number, for all numbers.
func TestCompare(t *testing.T) {
	var ascending []api.Id
	for _, y := range []uint8{0, 1, 2, 6, 7, 127, 128, 255} {
		for _, n := range []int{math.MinInt, -1 << 32, -2, -1, 0, 1, 2, 9, 10, 2047, 2048, 1 << 32, math.MaxInt - 1, math.MaxInt} {
			ascending = append(ascending, api.Id{Yarn: y, N: n})
		}
	}
	for i, a := range ascending {
		for j, b := range ascending {
			want := 0
			if i < j {
				want = -1
			} else if i > j {
				want = 1
			}
			if got := fabrics.Compare(a, b); got != want {
				t.Errorf("Compare(%v, %v) = %d, expected %d", a, b, got, want)
			}
		}
	}
}

// TestEmpty is for P6.1: the fabric without loops is valid, and a new one each time.
func TestEmpty(t *testing.T) {
	f := fabrics.Empty()
	if len(f.Yarns) != yarnCount || loops.Count(f.Yarns) != 0 || len(f.Crossings)+len(f.Held)+len(f.Fallen) != 0 {
		t.Errorf("Empty = %v", f)
	}
	wantFull(t, f)
	wantCheck(t, f, api.OK)
	wantIds(t, "Undone of the fabric without loops", fabrics.Undone(f), nil)
	wantLinking(t, f, id("1.0"), id("1.1"), 0)
	wantNoCross(t, f, id("1.0"), id("1.1"), 1, api.ErrNone)
	if text := fabrics.Text(f); text != "" {
		t.Errorf("Text of the fabric without loops = %q", text)
	}
	f.Yarns[0] = plain(1, 1).Yarns[0]
	if loops.Count(fabrics.Empty().Yarns) != 0 {
		t.Error("Empty returns the same memory again")
	}
	wantSame(t, fabrics.Empty(), plain(0), true)
	wantCheck(t, fabrics.Fabric{Yarns: loops.Table{{}, nil, {}, nil, {}, {}}, Crossings: []fabrics.Crossing{}, Held: []api.Id{}, Fallen: []api.Id{}}, api.OK)
	// Without loops there is nothing that can cross, be held or have fallen.
	wantCheck(t, read("cross 1.0 1.1 1"), api.ErrArg)
	wantCheck(t, read("held 1.0"), api.ErrNone)
	wantCheck(t, read("fallen 1.0"), api.ErrNone)
}

// TestCheckTable is for P6.2: each error of the table comes first, whatever else is wrong.
func TestCheckTable(t *testing.T) {
	many := plain(maxLoops, 3)
	wantCheck(t, many, api.OK)
	wantCheck(t, plain(maxLoops+1, 3), api.ErrLimit)
	for s, e := range map[string]api.Errno{
		"7.0 front new": api.ErrWidth, "1.0 front": api.ErrArg, "1.0 front new through 1.1": api.ErrArg, "1.0 front new past 2.0<": api.ErrArg, "1.0 front new / 2.0 back new past 1.0< 1.0>": api.ErrArg,
		"1.0 front new / 1.1 front through 1.0 1.0": api.ErrThere, "1.0 front new / 1.1 front through 1.0 / 2.0 front new through 1.0": api.ErrThere, "1.0 front new through 1.0": api.ErrState, "1.0 front new past 1.1< / 1.1 back": api.ErrState,
	} {
		for _, more := range []string{"", "held 1.0", "cross 1.0 1.0 0", "held 8.0", "fallen 1.0 1.0", "cross 1.0 1.1 1 / cross 1.0 1.1 1 / held 5.5 / fallen 1.0 1.0"} {
			wantCheck(t, read(s+"/"+more), e)
		}
	}
	wantCheck(t, fabrics.Fabric{}, api.ErrWidth)
	wantCheck(t, fabrics.Fabric{Yarns: loops.Table{}, Held: ids("1.0")}, api.ErrWidth)
	short := example()
	short.Yarns = short.Yarns[:5]
	wantCheck(t, short, api.ErrWidth)
}

// TestCheckCrossings is for P6.2: each way in which crossings are not right, ErrArg.
func TestCheckCrossings(t *testing.T) {
	wantChecks(t, "1.0 front new / 1.1 front / 1.2 front / 2.0 back new / 2.1 front / held 1.0 1.1 1.2 2.0 2.1", map[string]api.Errno{
		"cross 1.0 1.1 1": api.OK, "cross 1.0 1.1 -1": api.OK, "cross 1.0 2.0 5": api.OK, "cross 1.2 2.0 5": api.OK, "cross 2.0 2.1 -9": api.OK,
		"cross 1.0 1.1 0": api.ErrArg, "cross 1.0 1.1 1048576": api.OK, "cross 1.0 1.1 -1048576": api.OK, "cross 1.0 1.1 1048577": api.ErrArg, "cross 1.0 1.1 -1048577": api.ErrArg,
		"cross 1.0 1.1 9223372036854775807": api.ErrArg, "cross 1.0 1.1 -9223372036854775808": api.ErrArg, "cross 1.0 1.1 4294967297": api.ErrArg, "cross 1.0 1.1 -4294967295": api.ErrArg,
		"cross 1.0 1.0 1": api.ErrArg, "cross 2.1 2.1 -1": api.ErrArg, "cross 1.1 1.0 1": api.ErrArg, "cross 2.0 1.0 1": api.ErrArg, "cross 2.0 1.2 1": api.ErrArg, "cross 2.1 2.0 -1": api.ErrArg,
		"cross 1.0 1.3 1": api.ErrArg, "cross 1.3 2.0 1": api.ErrArg, "cross 0.0 1.0 1": api.ErrArg, "cross 1.0 7.0 1": api.ErrArg, "cross 1.0 3.0 1": api.ErrArg, "cross 1.-1 1.0 1": api.ErrArg, "cross 2.1 2.2 1": api.ErrArg,
		"cross 1.0 1.1 1 / cross 1.0 1.2 1": api.OK, "cross 1.0 1.2 1 / cross 1.1 1.2 1": api.OK, "cross 1.0 2.1 1 / cross 1.1 1.2 1": api.OK, "cross 1.0 1.1 2 / cross 1.0 2.0 3 / cross 2.0 2.1 -4": api.OK,
		"cross 1.0 1.2 1 / cross 1.0 1.1 1": api.ErrArg, "cross 1.1 1.2 1 / cross 1.0 1.2 1": api.ErrArg, "cross 1.1 1.2 1 / cross 1.0 2.1 1": api.ErrArg, "cross 1.0 1.1 1 / cross 1.0 1.1 1": api.ErrArg, "cross 1.0 1.1 1 / cross 1.0 1.1 2": api.ErrArg,
		"cross 1.0 1.1 2 / cross 1.0 1.1 1": api.ErrArg, "cross 1.0 1.1 1 / cross 1.0 1.2 1 / cross 1.0 1.1 1": api.ErrArg, "cross 1.0 1.1 1 / cross 1.0 2.0 1 / cross 1.0 1.2 1": api.ErrArg, "cross 1.0 1.1 1 / cross 1.0 1.2 0": api.ErrArg,
	})
	for _, bad := range badIds {
		f := plain(3, 1, 2)
		f.Crossings = []fabrics.Crossing{{A: id("1.0"), B: bad, N: 1}}
		wantCheck(t, f, api.ErrArg)
		f.Crossings = []fabrics.Crossing{{A: bad, B: id("2.2"), N: 1}}
		wantCheck(t, f, api.ErrArg)
		f.Crossings = []fabrics.Crossing{{A: bad, B: bad, N: 1}}
		wantCheck(t, f, api.ErrArg)
	}
	all := plain(30, 1, 2, 3)
	s := sums{}
	for i, a := range names(all.Yarns) {
		for _, b := range names(all.Yarns)[:i] {
			s[pair(a, b)] = i + 1
		}
	}
	all.Crossings = s.list()
	wantCheck(t, all, api.OK)
	last := len(all.Crossings) - 1
	all.Crossings[last-1], all.Crossings[last] = all.Crossings[last], all.Crossings[last-1]
	wantCheck(t, all, api.ErrArg)
}

// TestCheckNone is for P6.2: names of no loop, in Held and in Fallen, at each place.
func TestCheckNone(t *testing.T) {
	wantChecks(t, "1.0 front new / 1.1 front / 3.0 back new", map[string]api.Errno{
		"held 1.0 1.1 3.0": api.OK, "held 1.0 1.1 3.1": api.ErrNone, "held 2.0 1.0 1.1 3.0": api.ErrNone, "held 1.0 1.2 1.1 3.0": api.ErrNone, "held 1.0 1.1 3.0 0.0": api.ErrNone,
		"fallen 1.0 1.1 3.0": api.OK, "fallen 1.0 1.1 3.1": api.ErrNone, "fallen 0.0 1.0 1.1 3.0": api.ErrNone, "fallen 1.0 1.1 2.0 3.0": api.ErrNone, "fallen 1.0 1.1 3.0 7.0": api.ErrNone,
		"held 1.0 / fallen 1.1 3.0": api.OK, "held 1.0 / fallen 1.1 3.0 3.1": api.ErrNone, "held 1.0 4.0 / fallen 1.1 3.0": api.ErrNone, "held 4.0 / fallen 4.0": api.ErrNone,
	})
	for _, bad := range badIds {
		for _, list := range [][]api.Id{{bad}, {bad, id("1.0")}, {id("1.0"), bad}} {
			f := plain(3, 1, 2)
			f.Held = append(list, f.Held...)
			wantCheck(t, f, api.ErrNone)
			f = plain(3, 1, 2)
			f.Fallen = list
			wantCheck(t, f, api.ErrNone)
			f.Held = nil
			wantCheck(t, f, api.ErrNone)
		}
	}
}

// TestCheckState is for P6.2: loops that are held or have fallen twice, both, or neither, those on which a loop stands, and Fallen in a wrong order.
func TestCheckState(t *testing.T) {
	wantChecks(t, "1.0 front new / 1.1 front / 2.0 back new / 2.1 front through 1.0", map[string]api.Errno{
		"held 1.1 2.0 2.1": api.OK, "held 2.1 2.0 1.1": api.OK, "held 2.0 1.1 / fallen 2.1": api.OK, "held 2.0 / fallen 1.1 2.1": api.OK, "fallen 1.1 2.0 2.1": api.OK,
		"": api.ErrState, "held 1.1 2.0": api.ErrState, "held 2.0 2.1": api.ErrState, "fallen 1.1 2.0": api.ErrState, "held 1.1 / fallen 2.0": api.ErrState,
		"held 1.1 2.0 2.1 1.1": api.ErrState, "held 1.1 1.1 2.0 2.1": api.ErrState, "held 1.1 1.1 2.0": api.ErrState, "held 1.1 2.1 1.1": api.ErrState, "held 2.0 2.0 / fallen 1.1": api.ErrState,
		"held 1.1 2.0 2.1 / fallen 2.1": api.ErrState, "held 1.1 2.0 / fallen 1.1": api.ErrState, "held 1.1 2.0 / fallen 2.0": api.ErrState, "held 1.1 2.0 2.1 / fallen 1.1 2.0 2.1": api.ErrState,
		"held 1.0 1.1 2.0 2.1": api.ErrState, "held 1.1 2.0 2.1 / fallen 1.0": api.ErrState, "held 1.0 1.1 2.0": api.ErrState, "held 1.0 2.0 / fallen 2.1": api.ErrState, "fallen 1.0 1.1 2.0": api.ErrState, "fallen 1.0 1.1 2.0 2.1": api.ErrState,
		"fallen 1.1 2.1 2.0": api.ErrState, "fallen 2.0 1.1 2.1": api.ErrState, "fallen 2.1 2.0 1.1": api.ErrState, "held 2.1 / fallen 2.0 1.1": api.ErrState, "fallen 1.1 1.1 2.0 2.1": api.ErrState, "fallen 1.1 2.0 2.0": api.ErrState, "fallen 1.1 2.0 2.1 2.1": api.ErrState, "held 1.0 1.0": api.ErrState, "held 1.0 1.0 1.1 2.0 2.1": api.ErrState,
	})
	// A loop that stands on another one of its own yarn, or on several.
	wantCheck(t, read("1.0 front new / 1.1 front through 1.0 / held 1.1"), api.OK)
	wantCheck(t, read("1.0 front new / 1.1 front through 1.0 / held 1.0"), api.ErrState)
	wantCheck(t, read("1.0 front new / 1.1 front / 1.2 front / 2.0 front new through 1.2 1.0 / held 2.0 1.1"), api.OK)
	wantCheck(t, read("1.0 front new / 1.1 front / 1.2 front / 2.0 front new through 1.2 1.0 / held 2.0"), api.ErrState)
	wantCheck(t, read("1.0 front new / 1.1 front / 1.2 front / 2.0 front new through 1.2 1.0 / held 2.0 1.1 / fallen 1.2"), api.ErrState)
	// To be gone past is not to have a loop on it.
	wantCheck(t, read("1.0 front new / 1.1 front past 1.0< / held 1.1"), api.ErrState)
	wantCheck(t, read("1.0 front new / 1.1 front past 1.0< / held 1.1 / fallen 1.0"), api.OK)
	many := plain(341, 1, 2, 3, 4, 5, 6)
	wantCheck(t, many, api.OK)
	many.Held[2045] = id("6.339")
	wantCheck(t, many, api.ErrState)
	many.Fallen = ids("6.340")
	wantCheck(t, many, api.ErrState)
	many.Held = many.Held[:2045]
	wantCheck(t, many, api.OK)
}

// TestErrorOrder is for P6.2: which error comes first where several apply, wherever it stands.
func TestErrorOrder(t *testing.T) {
	const base = "1.0 front new / 1.1 front / 2.0 back new"
	wantChecks(t, base, map[string]api.Errno{
		"cross 1.1 1.0 1 / held 9.9 / fallen 1.0 1.0": api.ErrArg, "cross 1.0 9.9 1 / held 9.9": api.ErrArg, "cross 1.0 1.1 1 / cross 1.1 2.0 0 / held 1.0": api.ErrArg, "cross 1.0 1.1 0 / held 1.0 1.1 2.0": api.ErrArg,
		"held 1.0 1.0 9.9": api.ErrNone, "held 1.0 / fallen 2.0 1.1 9.9": api.ErrNone, "held 1.0 1.1 2.0 / fallen 1.0 9.9": api.ErrNone, "held 9.9 / fallen 2.0 1.1 1.0": api.ErrNone, "held 1.0 1.0 / fallen 2.0 1.1": api.ErrState,
	})
	wantCheck(t, read(base+"/ 2.1 front through 7.0 / cross 1.1 1.0 1 / held 9.9 / fallen 1.0 1.0"), api.ErrArg)
	wantCheck(t, read(base+"/ 2.1 front through 2.1 / cross 1.1 1.0 1 / held 9.9 / fallen 1.0 1.0"), api.ErrState)
	wantCheck(t, read(base+"/ 2.1 front through 2.0 2.0 / cross 1.1 1.0 1 / held 9.9 / fallen 1.0 1.0"), api.ErrThere)
}

// TestCheck is for P6.2: fabrics of all kinds, valid ones and others.
func TestCheck(t *testing.T) {
	random := rand.New(rand.NewSource(62))
	cases := map[api.Errno]int{}
	for range 6000 {
		f := randomFabric(random, random.Intn(16))
		for range random.Intn(4) {
			f = broken(random, f)
		}
		e := slowCheck(f)
		wantCheck(t, f, e)
		cases[e]++
	}
	if cases[api.OK] < 500 || cases[api.ErrArg] < 500 || cases[api.ErrNone] < 200 || cases[api.ErrState] < 500 || cases[api.ErrWidth] < 50 {
		t.Errorf("only these cases: %v", cases)
	}
}

// variants returns fabrics, valid and others, that differ from each other in one field alone, or in few.
func variants() []fabrics.Fabric {
	const base = "1.0 front new / 1.1 front / 2.0 front new / 2.1 back through 1.0 1.1 past 1.0< 2.0>+"
	var all []fabrics.Fabric
	for _, s := range []string{
		"1.0 front new / 1.1 front / 2.0 back new / 2.1 back through 1.0 1.1 past 1.0< 2.0>+", "1.0 front new / 1.1 front new / 2.0 front new / 2.1 back through 1.0 1.1 past 1.0< 2.0>+",
		"1.0 front new / 1.1 front / 2.0 front new / 2.1 back through 1.1 1.0 past 1.0< 2.0>+", "1.0 front new / 1.1 front / 2.0 front new / 2.1 back through 1.0 past 1.0< 2.0>+", "1.0 front new / 1.1 front / 2.0 front new / 2.1 back past 1.0< 2.0>+",
		"1.0 front new / 1.1 front / 2.0 front new / 2.1 back through 1.0 1.1 past 2.0>+ 1.0<", "1.0 front new / 1.1 front / 2.0 front new / 2.1 back through 1.0 1.1 past 1.0< 2.0>", "1.0 front new / 1.1 front / 2.0 front new / 2.1 back through 1.0 1.1 past 1.0< 2.0<+",
		"1.0 front new / 1.1 front / 2.0 front new / 2.1 back through 1.0 1.1 past 1.0< 1.1>+", "1.0 front new / 1.1 front / 2.0 front new / 2.1 back through 1.0 1.1 past 1.0<", "1.0 front new / 1.1 front / 2.0 front new / 2.1 back through 1.0 1.1",
		"1.0 front new / 1.1 front / 2.0 front new / 2.1 back through 1.0 1.1 past 1.0< 2.0>+ / 2.2 front", "1.0 front new / 1.1 front / 2.0 front new", "1.0 front new / 1.1 front / 3.0 front new / 3.1 back through 1.0 1.1 past 1.0< 2.0>+",
	} {
		all = append(all, read(s+"/ cross 1.0 1.1 2 / held 2.1 2.0"))
	}
	for _, s := range []string{
		"cross 1.0 1.1 2 / held 2.1 2.0", "cross 1.0 1.1 2 / held 2.0 2.1", "cross 1.0 1.1 2 / held 2.0 / fallen 2.1", "cross 1.0 1.1 2 / held 2.1 / fallen 2.0", "cross 1.0 1.1 2 / fallen 2.0 2.1", "cross 1.0 1.1 2 / fallen 2.1 2.0",
		"cross 1.0 1.1 2 / held 2.1", "cross 1.0 1.1 2 / held 2.1 2.0 2.0", "cross 1.0 1.1 2", "held 2.1 2.0", "cross 1.0 1.1 3 / held 2.1 2.0", "cross 1.0 1.1 -2 / held 2.1 2.0", "cross 1.0 2.1 2 / held 2.1 2.0",
		"cross 2.0 2.1 2 / held 2.1 2.0", "cross 1.0 2.0 2 / held 2.1 2.0", "cross 1.1 1.0 2 / held 2.1 2.0", "cross 1.0 1.1 2 / cross 1.0 2.0 1 / held 2.1 2.0", "cross 1.0 2.0 1 / cross 1.0 1.1 2 / held 2.1 2.0", "cross 1.0 1.1 2 / held 2.1 9.9",
	} {
		all = append(all, read(base+"/"+s))
	}
	wide := read(base + "/ cross 1.0 1.1 2 / held 2.1 2.0")
	wide.Yarns = append(wide.Yarns, nil)
	return append(all, wide, fabrics.Fabric{}, fabrics.Fabric{Yarns: make(loops.Table, 1)}, fabrics.Empty())
}

// TestSame is for P6.3: a fabric is the same as its copy alone, whatever differs.
func TestSame(t *testing.T) {
	all := variants()
	for i, a := range all {
		for j, b := range all {
			wantSame(t, a, deep(b), i == j)
			if alike(a, b) != (i == j) {
				t.Fatalf("%v and %v are not two variants", a, b)
			}
		}
	}
	for b := range 256 {
		x, y := plain(2, 1), plain(2, 1)
		x.Yarns[0][1].Bed = api.Bed(b)
		wantSame(t, x, y, b == 0)
		x, y = plain(2, 1), plain(2, 1)
		x.Yarns[0][1].Past, y.Yarns[0][1].Past = []yarns.Pass{{Dir: api.Dir(b)}}, []yarns.Pass{{Dir: api.Left}}
		wantSame(t, x, y, b == 0)
	}
}

// TestSameEmpty is for P6.3 and R3: what is empty is the same as what is nil, but a table with fewer elements is another one.
func TestSameEmpty(t *testing.T) {
	empty := fabrics.Fabric{Yarns: loops.Table{{}, {}, {}, {}, {}, {}}, Crossings: []fabrics.Crossing{}, Held: []api.Id{}, Fallen: []api.Id{}}
	wantSame(t, empty, fabrics.Empty(), true)
	wantSame(t, fabrics.Fabric{Yarns: loops.Table{}}, fabrics.Fabric{}, true)
	for n := range 9 {
		for k := range 9 {
			wantSame(t, fabrics.Fabric{Yarns: make(loops.Table, n)}, fabrics.Fabric{Yarns: make(loops.Table, k)}, n == k)
		}
	}
	f := example()
	f.Yarns[0][0].Through, f.Yarns[0][0].Past, f.Yarns[4], f.Fallen = []api.Id{}, []yarns.Pass{}, []loops.Loop{}, []api.Id{}
	wantSame(t, f, example(), true)
}

// TestCross is for P6.4: fabrics of all kinds, in which crossings of all pairs are added in both orders of their names.
func TestCross(t *testing.T) {
	random := rand.New(rand.NewSource(64))
	cases := map[int]int{}
	for range 500 {
		f := randomFabric(random, 2+random.Intn(12))
		s := sums{}
		for _, c := range f.Crossings {
			s[pair(c.A, c.B)] = c.N
		}
		all := names(f.Yarns)
		for range 12 {
			p, sign := random.Perm(len(all)), 2*random.Intn(2)-1
			a, b := all[p[0]], all[p[1]]
			if len(f.Crossings) > 0 && random.Intn(2) == 0 {
				c := f.Crossings[random.Intn(len(f.Crossings))]
				a, b = c.B, c.A
			}
			sum := s[pair(a, b)] + sign
			if sum > maxCross || sum < -maxCross {
				wantNoCross(t, f, a, b, sign, api.ErrLimit)
				wantNoCross(t, f, b, a, sign, api.ErrLimit)
				cases[maxCross]++
				continue
			}
			s[pair(a, b)] = sum
			other := wantCross(t, f, b, a, sign, s.list())
			f = wantCross(t, f, a, b, sign, s.list())
			wantSame(t, f, other, true)
			wantCheck(t, f, api.OK)
			cases[min(2, max(-2, sum))]++
		}
	}
	if cases[0] < 100 || cases[1] < 100 || cases[-1] < 100 || cases[2] < 100 || cases[-2] < 100 || cases[maxCross] < 50 {
		t.Errorf("only these cases: %v", cases)
	}
}

// TestCrossByHand is for P6.4: a crossing stands where it belongs, and goes when its sum becomes 0.
func TestCrossByHand(t *testing.T) {
	f := plain(3, 1, 2)
	for _, c := range []struct {
		a, b string
		sign int
		want string
	}{
		{"1.1", "2.0", 1, "cross 1.1 2.0 1"}, {"2.0", "1.1", 1, "cross 1.1 2.0 2"}, {"2.1", "2.0", -1, "cross 1.1 2.0 2 / cross 2.0 2.1 -1"}, {"1.2", "1.0", 1, "cross 1.0 1.2 1 / cross 1.1 2.0 2 / cross 2.0 2.1 -1"},
		{"1.1", "1.2", -1, "cross 1.0 1.2 1 / cross 1.1 1.2 -1 / cross 1.1 2.0 2 / cross 2.0 2.1 -1"}, {"1.2", "1.0", -1, "cross 1.1 1.2 -1 / cross 1.1 2.0 2 / cross 2.0 2.1 -1"}, {"2.0", "1.1", -1, "cross 1.1 1.2 -1 / cross 1.1 2.0 1 / cross 2.0 2.1 -1"},
		{"1.1", "2.0", -1, "cross 1.1 1.2 -1 / cross 2.0 2.1 -1"}, {"1.1", "2.0", -1, "cross 1.1 1.2 -1 / cross 1.1 2.0 -1 / cross 2.0 2.1 -1"}, {"2.1", "2.0", 1, "cross 1.1 1.2 -1 / cross 1.1 2.0 -1"},
		{"1.2", "1.1", -1, "cross 1.1 1.2 -2 / cross 1.1 2.0 -1"}, {"2.0", "1.1", 1, "cross 1.1 1.2 -2"}, {"1.1", "1.2", 1, "cross 1.1 1.2 -1"}, {"1.1", "1.2", 1, ""}, {"1.1", "1.2", 1, "cross 1.1 1.2 1"},
	} {
		f = wantCross(t, f, id(c.a), id(c.b), c.sign, read(c.want).Crossings)
	}
	// Loops that have fallen, and those that have a loop on them, can have crossed.
	f = read("1.0 front new / 1.1 front through 1.0 / 1.2 front / held 1.1 / fallen 1.2")
	wantCross(t, f, id("1.0"), id("1.2"), 1, read("cross 1.0 1.2 1").Crossings)
}

// TestCrossArg is for P6.4: signs that are none, and a loop with itself; both come before names of no loop.
func TestCrossArg(t *testing.T) {
	signs := []int{0, 2, -2, 3, 255, 256, 257, 1<<32 + 1, 1<<32 - 1, -1 << 32, math.MaxInt, math.MinInt, math.MinInt + 1, maxCross, -maxCross}
	pairs := [][2]string{{"1.1", "1.2"}, {"1.2", "1.1"}, {"1.0", "1.0"}, {"1.0", "1.9"}, {"0.0", "1.0"}, {"7.0", "7.0"}}
	for _, f := range []fabrics.Fabric{example(), fabrics.Empty(), plain(3, 1)} {
		for _, sign := range signs {
			for _, p := range pairs {
				wantNoCross(t, f, id(p[0]), id(p[1]), sign, api.ErrArg)
			}
		}
		for _, sign := range []int{1, -1} {
			for _, name := range append(names(f.Yarns), badIds...) {
				wantNoCross(t, f, name, name, sign, api.ErrArg)
			}
			for _, bad := range badIds {
				wantNoCross(t, f, bad, id("1.0"), sign, api.ErrNone)
				wantNoCross(t, f, id("1.0"), bad, sign, api.ErrNone)
				wantNoCross(t, f, bad, id("5.5"), sign, api.ErrNone)
			}
		}
	}
	wantNoCross(t, example(), id("1.2"), id("1.3"), 1, api.ErrNone)
	wantNoCross(t, example(), id("2.0"), id("1.2"), 1, api.ErrNone)
}

// TestCrossLimit is for P6.4: sums that reach the greatest and the least one, and one more.
func TestCrossLimit(t *testing.T) {
	if fabrics.MaxCross != maxCross {
		t.Fatalf("MaxCross = %d", fabrics.MaxCross)
	}
	f := plain(3, 1, 2)
	with := func(n int) []fabrics.Crossing {
		return []fabrics.Crossing{{A: id("1.0"), B: id("1.2"), N: 1}, {A: id("1.2"), B: id("2.0"), N: n}, {A: id("2.0"), B: id("2.1"), N: -maxCross}}
	}
	for _, sign := range []int{1, -1} {
		f.Crossings = with(sign * (maxCross - 2))
		for _, n := range []int{maxCross - 1, maxCross} {
			f = wantCross(t, f, id("2.0"), id("1.2"), sign, with(sign*n))
			wantLinking(t, f, id("2.0"), id("1.2"), sign*n)
		}
		wantCheck(t, f, api.OK)
		wantNoCross(t, f, id("2.0"), id("1.2"), sign, api.ErrLimit)
		wantNoCross(t, f, id("1.2"), id("2.0"), sign, api.ErrLimit)
		// A sign that is none comes before, and another pair has another sum.
		wantNoCross(t, f, id("1.2"), id("2.0"), 2*sign, api.ErrArg)
		wantCross(t, f, id("1.2"), id("2.0"), -sign, with(sign*(maxCross-1)))
		wantCross(t, f, id("2.1"), id("2.0"), 1, append(with(sign * maxCross)[:2], fabrics.Crossing{A: id("2.0"), B: id("2.1"), N: 1 - maxCross}))
		wantNoCross(t, f, id("2.1"), id("2.0"), -1, api.ErrLimit)
	}
}

// TestLinking is for P6.4: the sums of all pairs of fabrics of all kinds, those that have none, and names of no loop.
func TestLinking(t *testing.T) {
	random := rand.New(rand.NewSource(65))
	for range 300 {
		f := randomFabric(random, random.Intn(12))
		s := sums{}
		for _, c := range f.Crossings {
			s[pair(c.A, c.B)] = c.N
		}
		all := append(names(f.Yarns), badIds...)
		for i, a := range all {
			for _, b := range all[:i+1] {
				wantLinking(t, f, a, b, s[pair(a, b)])
			}
		}
	}
}

// TestLinkingInvalid is for P6.4: fabrics whose table, names, numbers or order are not valid.
func TestLinkingInvalid(t *testing.T) {
	f := read("cross 2.0 2.1 7 / cross 1.5 3.0 -2 / cross 1.0 1.1 5 / cross 0.0 9.9 9223372036854775807 / cross 1.0 4.4 -9223372036854775808 / cross 1.1 1.2 0 / cross 1.0 1.2 3 / held 1.0")
	for _, yarnTable := range []loops.Table{nil, make(loops.Table, 3), make(loops.Table, 300), plain(3000, 1).Yarns} {
		f.Yarns = yarnTable
		for _, c := range f.Crossings {
			wantLinking(t, f, c.A, c.B, c.N)
		}
		wantLinking(t, f, id("2.0"), id("1.1"), 0)
		wantLinking(t, f, id("0.0"), id("0.0"), 0)
		wantLinking(t, f, id("9.9"), id("0.1"), 0)
	}
	// A pair whose greater loop stands first is the same pair; of one that is there twice the first one counts.
	f = read("cross 1.2 1.0 4 / cross 1.1 1.2 1 / cross 1.1 1.2 2 / cross 1.2 1.1 3")
	wantLinking(t, f, id("1.0"), id("1.2"), 4)
	wantLinking(t, f, id("1.1"), id("1.2"), 1)
	wantLinking(t, fabrics.Fabric{}, id("1.1"), id("1.2"), 0)
}

// isFastened reports whether a loop is the last one of its yarn and goes through another one.
func isFastened(t loops.Table, name api.Id) bool {
	for y, list := range t {
		for n, l := range list {
			if y < 255 && (api.Id{Yarn: uint8(y + 1), N: n}) == name {
				return n == len(list)-1 && times(l.Through, name) < len(l.Through)
			}
		}
	}
	return false
}

// slowUndone is Undone, as the chapter says it.
func slowUndone(f fabrics.Fabric) []api.Id {
	var out []api.Id
	for _, name := range sorted(f.Fallen) {
		if !isFastened(f.Yarns, name) && !slices.Contains(out, name) {
			out = append(out, name)
		}
	}
	return out
}

// TestUndone is for P6.5: fabrics of all kinds, valid ones and others.
func TestUndone(t *testing.T) {
	random := rand.New(rand.NewSource(66))
	fastened, undone := 0, 0
	for range 2000 {
		f := randomFabric(random, random.Intn(16))
		wantIds(t, "Undone", fabrics.Undone(f), slowUndone(f))
		for range 3 {
			f = broken(random, f)
			wantIds(t, "Undone", fabrics.Undone(f), slowUndone(f))
		}
		undone += len(slowUndone(f))
		fastened += len(f.Fallen) - len(slowUndone(f))
	}
	if fastened < 500 || undone < 500 {
		t.Errorf("only %d loops are fastened, and %d come undone", fastened, undone)
	}
}

// TestUndoneByHand is for P6.5: the last loop of a yarn that goes through another one, and one that does not.
func TestUndoneByHand(t *testing.T) {
	for s, want := range map[string]string{
		"1.0 front new / fallen 1.0": "1.0", "1.0 front new / 1.1 front / fallen 1.0 1.1": "1.0 1.1", "1.0 front new / 1.1 front / held 1.0 1.1": "",
		"1.0 front new / 1.1 front through 1.0 / fallen 1.1": "", "1.0 front new / 1.1 front through 1.0 / held 1.1": "", "1.0 front new / 1.1 front through 1.0 / 1.2 front / fallen 1.1 1.2": "1.1 1.2",
		"1.0 front new / 1.1 front through 1.0 / 1.2 front / held 1.2 / fallen 1.1": "1.1", "1.0 front new / 1.1 front past 1.0> / fallen 1.0 1.1": "1.0 1.1", "1.0 front new / 2.0 front new through 1.0 / fallen 2.0": "",
		"1.0 front new / 1.1 front / 2.0 front new through 1.0 / 6.0 back new through 1.1 / fallen 2.0 6.0": "", "1.0 front new / 1.1 front / 2.0 front new through 1.0 / 2.1 front / 6.0 back new through 1.1 / fallen 2.0 2.1 6.0": "2.0 2.1",
		"1.0 front new / 1.1 front / 1.2 back through 1.1 1.0 / fallen 1.2": "", "1.0 front new / 1.1 front / 1.2 back new / 2.0 front new / fallen 1.0 1.1 1.2 2.0": "1.0 1.1 1.2 2.0",
	} {
		f := read(s)
		wantCheck(t, f, api.OK)
		wantIds(t, "Undone of "+s, fabrics.Undone(f), ids(want))
	}
	last := plain(2047, 6)
	last.Yarns[5] = append(last.Yarns[5], loops.Loop{Through: ids("6.0")})
	last.Held, last.Fallen = nil, names(last.Yarns)[1:]
	wantCheck(t, last, api.OK)
	wantIds(t, "Undone of many loops", fabrics.Undone(last), last.Fallen[:2046])
}

// TestUndoneInvalid is for P6.5: fabrics that are not valid; ascending, each loop once.
func TestUndoneInvalid(t *testing.T) {
	for s, want := range map[string]string{
		"1.0 front new / 1.1 front / fallen 1.1 1.0": "1.0 1.1", "1.0 front new / 2.0 back new / 1.1 front / fallen 2.0 1.1 1.0": "1.0 1.1 2.0", "1.0 front new / fallen 1.0 1.0 1.0": "1.0", "1.0 front new / held 1.0 / fallen 1.0": "1.0",
		"fallen 1.0 0.0 7.0 1.-5": "0.0 1.-5 1.0 7.0", "1.0 front / 1.1 back through 1.0 1.0 / fallen 1.1 1.0": "1.0", "1.0 front new through 1.0 / fallen 1.0": "1.0", "1.0 front new through 1.0 2.0 / 2.0 front / fallen 1.0": "",
		"1.0 front new through 1.1 / 1.1 front through 1.0 / fallen 1.0 1.1": "1.0", "7.0 front / 7.1 front through 7.0 / fallen 7.2 7.1 7.0": "7.0 7.2", "1.0 front through 8.8 / fallen 1.0": "",
		"1.0 front new / 1.1 front / cross 1.1 1.0 0 / held 9.9 / fallen 1.1 1.0 1.1": "1.0 1.1", "1.0 front new / 1.1 front through 1.0 / fallen 1.1 1.1": "", "255.0 front / 255.1 back through 255.0 / fallen 255.0 255.1": "255.0",
	} {
		wantIds(t, "Undone of "+s, fabrics.Undone(read(s)), ids(want))
	}
	wantIds(t, "Undone of the zero fabric", fabrics.Undone(fabrics.Fabric{}), nil)
	wantIds(t, "Undone of names of no loop", fabrics.Undone(fabrics.Fabric{Fallen: badIds}), slowUndone(fabrics.Fabric{Fallen: badIds}))
	// A yarn that has no name, because there are too many, is not taken for another one.
	wide := fabrics.Fabric{Yarns: make(loops.Table, 300), Fallen: ids("0.1 1.1")}
	for y := 255; y < 300; y++ {
		wide.Yarns[y] = []loops.Loop{{}, {Through: ids("1.0")}}
	}
	wantIds(t, "Undone of many yarns", fabrics.Undone(wide), ids("0.1 1.1"))
}

// TestText is for P6.6: each part, with it and without it.
func TestText(t *testing.T) {
	for _, text := range []string{
		"1.0 front new\nheld 1.0\n", "1.0 back new\nheld 1.0\n", "1.0 front new\nfallen 1.0\n", "6.0 back new\n6.1 front\n6.2 back new\nheld 6.2 6.0\nfallen 6.1\n",
		"1.0 front new\n2.0 front new through 1.0\nheld 2.0\n", "1.0 front new\n2.0 back new past 1.0>\nheld 2.0 1.0\n", "1.0 front new\n2.0 back new past 1.0<\nheld 2.0 1.0\n", "1.0 front new\n2.0 back new past 1.0>+\nheld 2.0 1.0\n",
		"1.0 front new\n2.0 back new past 1.0<+ 1.0<\nheld 2.0 1.0\n", "1.0 front new\n1.1 front\n1.2 front\n1.3 back\n3.0 front new through 1.3 1.1 1.0 1.2\nfallen 3.0\n", "1.0 front new\n1.1 back through 1.0 past 1.0> 1.0>\nheld 1.1\n",
		"1.0 front new\n1.1 back new through 1.0\nfallen 1.1\n", "1.0 front new\n2.0 front new\ncross 1.0 2.0 1\nheld 1.0 2.0\n", "1.0 front new\n2.0 front new\ncross 1.0 2.0 -1048576\nfallen 1.0 2.0\n", "1.0 front new\n2.0 front new\ncross 1.0 2.0 1048576\nheld 2.0\nfallen 1.0\n",
		"1.0 front new\n1.1 back\n1.2 front\n2.0 back new past 1.1>+ 1.2< 1.1<\n5.0 front new through 1.2\ncross 1.0 1.1 -12\ncross 1.0 5.0 3\ncross 1.2 2.0 1\nheld 5.0 1.1\nfallen 1.0 2.0\n",
	} {
		f := read(text)
		wantCheck(t, f, api.OK)
		if got := fabrics.Text(f); got != text {
			t.Errorf("Text = %q, expected %q", got, text)
		}
	}
}

// TestTextLong is for P6.6: numbers of several digits, and as many loops as there may be.
func TestTextLong(t *testing.T) {
	var want strings.Builder
	held := "held"
	for n := range maxLoops {
		name := "4." + strconv.Itoa(n)
		held += " " + name
		if n == 0 {
			name += " front new"
		} else {
			name += " front"
		}
		want.WriteString(name + "\n")
	}
	want.WriteString("cross 4.9 4.10 77\ncross 4.1000 4.2047 -123456\n" + held + "\n")
	f := plain(maxLoops, 4)
	f.Crossings = read("cross 4.9 4.10 77 / cross 4.1000 4.2047 -123456").Crossings
	if got := fabrics.Text(f); got != want.String() {
		t.Error("the text of a fabric with many loops is wrong")
	}
}

// TestTextInvalid is for P6.6: a fabric that is not valid has no text, whatever is wrong with it.
func TestTextInvalid(t *testing.T) {
	for _, s := range []string{
		"1.0 front / held 1.0", "1.0 front new / held 1.0 1.0", "1.0 front new", "1.0 front new / held 1.0 / fallen 1.0", "1.0 front new / held 1.0 / cross 1.0 1.1 1", "1.0 front new / 1.1 front / held 1.0 1.1 / cross 1.0 1.1 0", "7.0 front new / held 7.0",
		"1.0 front new / held 1.0 2.0", "1.0 front new / 1.1 front / fallen 1.1 1.0", "1.0 front new / 1.1 front / held 1.1 1.0 / cross 1.1 1.0 1", "1.0 front new through 1.0", "1.0 front new / 1.1 front through 1.0 1.0 / held 1.1",
	} {
		if text := fabrics.Text(read(s)); text != "" {
			t.Errorf("Text of %s = %q, expected none", s, text)
		}
	}
	for _, f := range variants() {
		if text := fabrics.Text(f); (text == "") != (slowCheck(f) != api.OK || loops.Count(f.Yarns) == 0) {
			t.Errorf("Text(%v) = %q", f, text)
		}
	}
}

// TestEquivalence is for P6.7: Same is an equivalence, on fabrics of all kinds.
func TestEquivalence(t *testing.T) {
	random := rand.New(rand.NewSource(67))
	all := append(variants(), variants()...)
	for range 20 {
		f := randomFabric(random, random.Intn(4))
		all = append(all, f, deep(f), broken(random, f), broken(random, f))
	}
	for _, a := range all {
		if !fabrics.Same(a, a) {
			t.Errorf("%v is not the same as itself", short(a))
		}
		for _, b := range all {
			if fabrics.Same(a, b) != fabrics.Same(b, a) {
				t.Errorf("%v and %v are the same in one order alone", short(a), short(b))
			}
			for _, c := range all {
				if fabrics.Same(a, b) && fabrics.Same(b, c) && !fabrics.Same(a, c) {
					t.Errorf("%v, %v and %v are the same in turn, but not the first and the last", short(a), short(b), short(c))
				}
			}
		}
	}
}

// TestSameText is for P6.7: two valid fabrics have the same text exactly if they are the same; what is read from a text is the fabric.
func TestSameText(t *testing.T) {
	random := rand.New(rand.NewSource(68))
	var all []fabrics.Fabric
	for len(all) < 400 {
		f := randomFabric(random, random.Intn(5))
		if random.Intn(3) == 0 && len(all) > 0 {
			f = broken(random, all[random.Intn(len(all))])
		}
		if fabrics.Check(f) == api.OK {
			all = append(all, f)
		}
	}
	same := 0
	for i, a := range all {
		wantSame(t, read(fabrics.Text(a)), a, true)
		for _, b := range all[:i] {
			isSame := fabrics.Text(a) == fabrics.Text(b)
			wantSame(t, a, b, isSame)
			if isSame {
				same++
			}
		}
	}
	if same < 100 {
		t.Errorf("only %d pairs are the same", same)
	}
	for range 50 {
		f := randomFabric(random, 100)
		wantSame(t, read(fabrics.Text(f)), f, true)
	}
}

// cross adds a crossing that can be added.
func cross(t *testing.T, f fabrics.Fabric, c fabrics.Crossing) fabrics.Fabric {
	t.Helper()
	more, e := fabrics.Cross(f, c.A, c.B, c.N)
	if e != api.OK {
		t.Fatalf("Cross(%v, %v): %d", short(f), c, e)
	}
	return more
}

// TestCrossOrder is for P6.7: a crossing and its inverse are nothing, and crossings can be added in any order.
func TestCrossOrder(t *testing.T) {
	random := rand.New(rand.NewSource(69))
	for range 200 {
		f := randomFabric(random, 2+random.Intn(8))
		f.Crossings = slices.DeleteFunc(f.Crossings, func(c fabrics.Crossing) bool { return c.N > 100 || c.N < -100 })
		all := names(f.Yarns)
		var steps []fabrics.Crossing
		for range random.Intn(12) {
			p := random.Perm(len(all))
			c := fabrics.Crossing{A: all[p[0]], B: all[p[1]], N: 2*random.Intn(2) - 1}
			steps = append(steps, c)
			inverse := fabrics.Crossing{A: c.A, B: c.B, N: -c.N}
			wantSame(t, cross(t, cross(t, f, c), inverse), f, true)
			if random.Intn(3) == 0 {
				steps = append(steps, fabrics.Crossing{A: c.B, B: c.A, N: -c.N}, c)
			}
		}
		var want fabrics.Fabric
		for i := range 4 {
			got := f
			for _, c := range steps {
				got = cross(t, got, c)
			}
			if i == 0 {
				want = got
			}
			wantSame(t, got, want, true)
			random.Shuffle(len(steps), func(i, j int) { steps[i], steps[j] = steps[j], steps[i] })
		}
	}
}

// roomyList returns a list that has room for more, with a trap behind its end.
func roomyList[T any](l []T, trap T) []T {
	return append(append(make([]T, 0, len(l)+3), l...), trap)[:len(l)]
}

// trap is a name that stands behind the end of a slice, where no function may write.
var trap = api.Id{Yarn: 77, N: 77}

// roomy returns a fabric all of whose slices have room for more, with traps behind their ends.
func roomy(f fabrics.Fabric) fabrics.Fabric {
	f = deep(f)
	for y, list := range f.Yarns {
		for n, l := range list {
			list[n].Through, list[n].Past = roomyList(l.Through, trap), roomyList(l.Past, yarns.Pass{Id: trap})
		}
		f.Yarns[y] = roomyList(list, loops.Loop{Bed: 77})
	}
	f.Yarns = roomyList(f.Yarns, []loops.Loop{{Bed: 77}})
	f.Crossings = roomyList(f.Crossings, fabrics.Crossing{A: trap})
	f.Held, f.Fallen = roomyList(f.Held, trap), roomyList(f.Fallen, trap)
	return f
}

// areTrapsThere reports whether nothing was written behind the ends of the slices of a roomy fabric.
func areTrapsThere(f fabrics.Fabric) bool {
	there := f.Yarns[:len(f.Yarns)+1][len(f.Yarns)][0].Bed == 77 && f.Crossings[:len(f.Crossings)+1][len(f.Crossings)].A == trap
	there = there && f.Held[:len(f.Held)+1][len(f.Held)] == trap && f.Fallen[:len(f.Fallen)+1][len(f.Fallen)] == trap
	for _, list := range f.Yarns {
		there = there && list[:len(list)+1][len(list)].Bed == 77
		for _, l := range list {
			there = there && l.Through[:len(l.Through)+1][len(l.Through)] == trap && l.Past[:len(l.Past)+1][len(l.Past)].Id == trap
		}
	}
	return there
}

// addresses adds where the elements of a list lie.
func addresses[T any](all []any, l []T) []any {
	for i := range l {
		all = append(all, &l[i])
	}
	return all
}

// memory returns where all elements of a fabric lie.
func memory(f fabrics.Fabric) []any {
	all := addresses(nil, f.Yarns)
	for _, list := range f.Yarns {
		all = addresses(all, list)
		for _, l := range list {
			all = addresses(addresses(all, l.Through), l.Past)
		}
	}
	return addresses(addresses(addresses(all, f.Crossings), f.Held), f.Fallen)
}

// wantApart tests that no two of these elements lie at the same place.
func wantApart(t *testing.T, lists ...[]any) {
	t.Helper()
	seen := map[any]bool{}
	for _, list := range lists {
		for _, address := range list {
			if seen[address] {
				t.Fatal("memory is shared")
			}
			seen[address] = true
		}
	}
}

// memoryFabrics returns fabrics that have something to share; in some of them Fallen is not ascending.
func memoryFabrics() []fabrics.Fabric {
	random := rand.New(rand.NewSource(70))
	all := append(variants(), example(), read("1.0 front new / 1.1 front / 2.0 front new through 1.0 / fallen 2.0 1.1 1.0 1.1"))
	for range 30 {
		all = append(all, randomFabric(random, 40))
	}
	return all
}

// TestMemory is for R1 and R4: no argument is changed, and no result shares memory with it or with another result.
func TestMemory(t *testing.T) {
	for _, want := range memoryFabrics() {
		arg := roomy(want)
		other := roomy(want)
		wantSame(t, arg, other, true)
		fabrics.Check(arg)
		fabrics.Text(arg)
		fabrics.Linking(arg, id("1.0"), id("1.1"))
		first, second := fabrics.Undone(arg), fabrics.Undone(arg)
		lists := [][]any{memory(arg), addresses(nil, first), addresses(nil, second)}
		for _, a := range names(want.Yarns) {
			for _, sign := range []int{1, -1} {
				more, e := fabrics.Cross(arg, a, id("1.0"), sign)
				if e != api.OK && !isZero(more) {
					t.Errorf("Cross = %v, %d", more, e)
				}
				wantFull(t, more)
				lists = append(lists, memory(more))
			}
		}
		wantApart(t, lists...)
		if !alike(arg, want) || !alike(other, want) || !areTrapsThere(arg) || !areTrapsThere(other) {
			t.Errorf("the fabric %v has changed: %v", short(want), short(arg))
		}
	}
}

// TestRoom is for R4: nothing has room for more, however long it is.
func TestRoom(t *testing.T) {
	f := plain(40, 1, 2)
	s := sums{}
	all := names(f.Yarns)
	for i := range 79 {
		s[pair(all[i], all[i+1])] = 1
		f = wantCross(t, f, all[i+1], all[i], 1, s.list())
	}
	for i := range 79 {
		s[pair(all[i], all[i+1])] = 0
		f = wantCross(t, f, all[i], all[i+1], -1, s.list())
		f.Held, f.Fallen = f.Held[1:], all[:i+1]
		wantIds(t, "Undone", fabrics.Undone(f), all[:i+1])
		for n := range f.Yarns[1] {
			f.Yarns[1][n].Past = append(f.Yarns[1][n].Past, yarns.Pass{Id: id("1.0"), Dir: api.Right})
		}
	}
}
