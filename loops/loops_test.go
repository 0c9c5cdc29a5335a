package loops_test

import (
	"math"
	"math/rand"
	"reflect"
	"slices"
	"strconv"
	"strings"
	"testing"

	"gansey/api"
	"gansey/loops"
	"gansey/yarns"
)

// The tests count the limits themselves, so that they do not depend on what they test.
const (
	yarnCount  = 6
	maxLoops   = 2048
	maxStack   = 4
	maxPending = 4096
)

// badIds are names that no loop of a table has, some of which would be names if numbers overflowed.
var badIds = []api.Id{
	{}, {Yarn: 0, N: 0}, {Yarn: 0, N: 1}, {Yarn: 1, N: -1}, {Yarn: 7, N: 0}, {Yarn: 255, N: 0}, {Yarn: 1, N: 2048}, {Yarn: 6, N: 1 << 32},
	{Yarn: 1, N: -1 << 32}, {Yarn: 1, N: 1 << 62}, {Yarn: 1, N: math.MaxInt}, {Yarn: 1, N: math.MinInt}, {Yarn: 0, N: math.MinInt}, {Yarn: 255, N: math.MaxInt},
}

// id reads the name of a loop, such as 1.0.
func id(s string) api.Id {
	yarn, n, ok := strings.Cut(s, ".")
	y, err := strconv.Atoi(yarn)
	k, err2 := strconv.Atoi(n)
	if !ok || err != nil || err2 != nil {
		panic(s)
	}
	return api.Id{Yarn: uint8(y), N: k}
}

// ids reads the names of loops.
func ids(s string) []api.Id {
	var l []api.Id
	for _, name := range strings.Fields(s) {
		l = append(l, id(name))
	}
	return l
}

// loop reads a loop: f or b for its bed, n if it is New, the names of Through, and the passes of Past with > or <, and + for those in front, such as "b n 1.0 1.1>+".
func loop(s string) loops.Loop {
	var l loops.Loop
	for _, w := range strings.Fields(s) {
		name, isFront := strings.CutSuffix(w, "+")
		switch {
		case w == "f":
			l.Bed = api.Front
		case w == "b":
			l.Bed = api.Back
		case w == "n":
			l.New = true
		case strings.HasSuffix(name, ">"):
			l.Past = append(l.Past, yarns.Pass{Id: id(strings.TrimSuffix(name, ">")), Front: isFront, Dir: api.Right})
		case strings.HasSuffix(name, "<"):
			l.Past = append(l.Past, yarns.Pass{Id: id(strings.TrimSuffix(name, "<")), Front: isFront, Dir: api.Left})
		default:
			l.Through = append(l.Through, id(w))
		}
	}
	return l
}

// table reads a table of as many yarns as there are, each given by its loops, such as "f n, f 1.0".
func table(list ...string) loops.Table {
	t := make(loops.Table, max(yarnCount, len(list)))
	for y, s := range list {
		if s == "" {
			continue
		}
		for _, part := range strings.Split(s, ",") {
			t[y] = append(t[y], loop(part))
		}
	}
	return t
}

// example returns the table of the chapter.
func example() loops.Table { return table("f n, f, f 1.1", "f n 1.0 1.1>") }

// plain returns n loops that need nothing but each other in turn.
func plain(n int) []loops.Loop {
	l := make([]loops.Loop, n)
	if n > 0 {
		l[0].New = true
	}
	return l
}

// deep returns a copy of a table that shares nothing with it.
func deep(t loops.Table) loops.Table {
	if t == nil {
		return nil
	}
	own := make(loops.Table, len(t))
	for y, list := range t {
		for _, l := range list {
			own[y] = append(own[y], deepLoop(l))
		}
	}
	return own
}

func deepLoop(l loops.Loop) loops.Loop {
	l.Through, l.Past = slices.Clone(l.Through), slices.Clone(l.Past)
	return l
}

// sameLoop compares loops; what is empty is the same as what is nil.
func sameLoop(a, b loops.Loop) bool {
	return a.Bed == b.Bed && a.New == b.New && slices.Equal(a.Through, b.Through) && slices.Equal(a.Past, b.Past)
}

func sameTable(a, b loops.Table) bool {
	return slices.EqualFunc(a, b, func(x, y []loops.Loop) bool { return slices.EqualFunc(x, y, sameLoop) })
}

// randomIds returns some of the names that a list has.
func randomIds(random *rand.Rand, names []api.Id, most int) []api.Id {
	var l []api.Id
	for _, i := range random.Perm(len(names))[:min(len(names), random.Intn(most+1))] {
		l = append(l, names[i])
	}
	return l
}

// cancel reports whether two passes, one behind the other, are nothing.
func cancel(p, q yarns.Pass) bool {
	return p.Id == q.Id && p.Front == q.Front && p.Dir != q.Dir
}

// randomPast returns a reduced list of passes of loops with some of these names.
func randomPast(random *rand.Rand, names []api.Id, most int) []yarns.Pass {
	var l []yarns.Pass
	for range random.Intn(most + 1) {
		if len(names) == 0 {
			break
		}
		p := yarns.Pass{Id: names[random.Intn(len(names))], Front: random.Intn(2) == 0, Dir: api.Dir(random.Intn(2))}
		if len(l) > 0 && cancel(l[len(l)-1], p) {
			continue
		}
		l = append(l, p)
	}
	return l
}

// randomTable returns a valid table, and an order of it, the one in which it was made.
func randomTable(random *rand.Rand, count int) (loops.Table, []api.Id) {
	t := make(loops.Table, yarnCount)
	var order, free []api.Id
	for range count {
		y := random.Intn(yarnCount)
		l := loops.Loop{Bed: api.Bed(random.Intn(2)), New: len(t[y]) == 0 || random.Intn(4) == 0, Past: randomPast(random, order, 3)}
		if random.Intn(3) > 0 {
			l.Through = randomIds(random, free, 4)
		}
		free = slices.DeleteFunc(free, func(id api.Id) bool { return slices.Contains(l.Through, id) })
		name := api.Id{Yarn: uint8(y + 1), N: len(t[y])}
		t[y] = append(t[y], l)
		order, free = append(order, name), append(free, name)
	}
	return t, order
}

// broken returns a table that is changed somewhere, so that it may not be valid any more.
func broken(random *rand.Rand, t loops.Table) loops.Table {
	t = deep(t)
	y := random.Intn(len(t))
	if len(t[y]) == 0 {
		return t
	}
	n := random.Intn(len(t[y]))
	l := &t[y][n]
	other := api.Id{Yarn: uint8(random.Intn(yarnCount) + 1), N: random.Intn(4)}
	switch random.Intn(9) {
	case 0:
		l.Bed = api.Bed(random.Intn(4))
	case 1:
		l.New = false
	case 2:
		l.Through = append(l.Through, other)
	case 3:
		l.Past = append(l.Past, yarns.Pass{Id: other, Front: random.Intn(2) == 0, Dir: api.Dir(random.Intn(3))})
	case 4:
		t[y] = t[y][:n]
	case 5:
		t[y] = append(t[y], loops.Loop{Through: []api.Id{other}})
	case 6:
		t[y], t[0] = t[0], t[y]
	case 7:
		l.Through = append(l.Through, l.Through...)
	case 8:
		l.Past = append(l.Past, l.Past...)
	}
	return t
}

// names returns the names of all loops of a table, ascending.
func names(t loops.Table) []api.Id {
	var all []api.Id
	for y := range t {
		for n := range t[y] {
			if y < 255 {
				all = append(all, api.Id{Yarn: uint8(y + 1), N: n})
			}
		}
	}
	return all
}

// slowNeeds is Needs, as the chapter says it: each name that is needed goes where it belongs.
func slowNeeds(t loops.Table, id api.Id) []api.Id {
	if !slices.Contains(names(t), id) {
		return nil
	}
	l := t[id.Yarn-1][id.N]
	all := slices.Clone(l.Through)
	for _, p := range l.Past {
		all = append(all, p.Id)
	}
	if id.N > 0 {
		all = append(all, api.Id{Yarn: id.Yarn, N: id.N - 1})
	}
	var sorted []api.Id
	for _, need := range all {
		i := 0
		for i < len(sorted) && (sorted[i].Yarn < need.Yarn || sorted[i].Yarn == need.Yarn && sorted[i].N < need.N) {
			i++
		}
		if i == len(sorted) || sorted[i] != need {
			sorted = slices.Insert(sorted, i, need)
		}
	}
	return sorted
}

// canMake reports whether all that a loop needs is there.
func canMake(t loops.Table, id api.Id, there map[api.Id]bool) bool {
	for _, need := range slowNeeds(t, id) {
		if !there[need] {
			return false
		}
	}
	return true
}

// slowOrder is the first order, as the chapter says it: at each place the least of all loops that can be made. It is shorter than the table if there is none.
func slowOrder(t loops.Table) []api.Id {
	there := map[api.Id]bool{}
	var order []api.Id
	for {
		i := slices.IndexFunc(names(t), func(id api.Id) bool { return !there[id] && canMake(t, id, there) })
		if i < 0 {
			return order
		}
		next := names(t)[i]
		there[next] = true
		order = append(order, next)
	}
}

// isReduced reports whether no two passes, one behind the other, are nothing.
func isReduced(l []yarns.Pass) bool {
	for i := 1; i < len(l); i++ {
		if cancel(l[i-1], l[i]) {
			return false
		}
	}
	return true
}

// slowRight reports whether a loop is right, as the chapter says it.
func slowRight(t loops.Table, l loops.Loop) bool {
	right := l.Bed <= 1 && len(l.Through) <= maxStack && isReduced(l.Past) && len(l.Past) <= maxPending
	for _, id := range l.Through {
		right = right && slices.Contains(names(t), id)
	}
	for _, p := range l.Past {
		right = right && p.Dir <= 1 && slices.Contains(names(t), p.Id)
	}
	return right
}

// slowCheck is Check, as the chapter says it, for tables with few loops.
func slowCheck(t loops.Table) api.Errno {
	if len(t) != yarnCount {
		return api.ErrWidth
	}
	pulled := map[api.Id]int{}
	for y := range t {
		for n, l := range t[y] {
			if !slowRight(t, l) || n == 0 && !l.New {
				return api.ErrArg
			}
			for _, id := range l.Through {
				pulled[id]++
			}
		}
	}
	for _, times := range pulled {
		if times > 1 {
			return api.ErrThere
		}
	}
	if len(slowOrder(t)) < len(names(t)) {
		return api.ErrState
	}
	return api.OK
}

func wantCheck(t *testing.T, tab loops.Table, e api.Errno) {
	t.Helper()
	if got := loops.Check(tab); got != e {
		t.Errorf("Check(%v) = %d, expected %d", short(tab), got, e)
	}
	// Order returns the same error, and Add returns it before all others.
	if l, got := loops.Order(tab); got != e || e != api.OK && l != nil {
		t.Errorf("Order(%v) = %v, %d, expected %d", short(tab), l, got, e)
	}
	if e == api.OK {
		return
	}
	for _, yarn := range []uint8{0, 1, 6, 7, 255} {
		if more, got := loops.Add(tab, yarn, loop("f n")); got != e || more != nil {
			t.Errorf("Add(%v, %d) = %v, %d, expected %d", short(tab), yarn, more, got, e)
		}
	}
}

// short keeps what a failure prints readable.
func short(t loops.Table) any {
	if loops.Count(t) > 40 || len(t) > 12 {
		return "a table with " + strconv.Itoa(loops.Count(t)) + " loops of " + strconv.Itoa(len(t)) + " yarns"
	}
	return t
}

func wantIds(t *testing.T, what string, got, want []api.Id) {
	t.Helper()
	if !slices.Equal(got, want) {
		t.Errorf("%s = %v, expected %v", what, got, want)
	}
	if cap(got) != len(got) {
		t.Errorf("%s has room for %d, expected %d", what, cap(got), len(got))
	}
}

func wantOrder(t *testing.T, tab loops.Table, want []api.Id) {
	t.Helper()
	got, e := loops.Order(tab)
	if e != api.OK {
		t.Errorf("Order(%v): %d", short(tab), e)
	}
	wantIds(t, "Order", got, want)
}

func wantAbove(t *testing.T, tab loops.Table, id, want api.Id, ok bool) {
	t.Helper()
	if got, gok := loops.Above(tab, id); got != want || gok != ok {
		t.Errorf("Above(%v, %v) = %v, %v, expected %v, %v", short(tab), id, got, gok, want, ok)
	}
}

func wantNoLoop(t *testing.T, tab loops.Table, id api.Id) {
	t.Helper()
	if l, e := loops.Find(tab, id); e != api.ErrNone || !reflect.DeepEqual(l, loops.Loop{}) {
		t.Errorf("Find(%v, %v) = %v, %d, expected ErrNone", short(tab), id, l, e)
	}
	if l := loops.Needs(tab, id); l != nil {
		t.Errorf("Needs(%v, %v) = %v, expected none", short(tab), id, l)
	}
}

// wantFull tests that nothing of a loop has room for more.
func wantFull(t *testing.T, l loops.Loop) {
	t.Helper()
	if cap(l.Through) != len(l.Through) || cap(l.Past) != len(l.Past) {
		t.Errorf("a loop has room for %d and %d, expected %d and %d", cap(l.Through), cap(l.Past), len(l.Through), len(l.Past))
	}
}

func wantFullTable(t *testing.T, tab loops.Table) {
	t.Helper()
	if cap(tab) != len(tab) {
		t.Errorf("a table has room for %d, expected %d", cap(tab), len(tab))
	}
	for _, list := range tab {
		if cap(list) != len(list) {
			t.Errorf("a yarn has room for %d, expected %d", cap(list), len(list))
		}
		for _, l := range list {
			wantFull(t, l)
		}
	}
}

// TestExample is for P5.1 to P5.6: the examples of the chapter.
func TestExample(t *testing.T) {
	wantCheck(t, example(), api.OK)
	wantOrder(t, example(), ids("1.0 1.1 1.2 2.0"))
	wantIds(t, "Needs of 2.0", loops.Needs(example(), id("2.0")), ids("1.0 1.1"))
	wantIds(t, "Needs of 1.2", loops.Needs(example(), id("1.2")), ids("1.1"))
	wantAbove(t, example(), id("1.0"), id("2.0"), true)
	wantAbove(t, example(), id("2.0"), api.Id{}, false)
	for s, e := range map[string]api.Errno{"f 2.0": api.OK, "f 1.1": api.ErrThere, "f 2.1": api.ErrArg} {
		if _, got := loops.Add(example(), 1, loop(s)); got != e {
			t.Errorf("Add of %s = %d, expected %d", s, got, e)
		}
	}
	wantCheck(t, table("f n 2.0, f, f 1.1", "f n 1.0 1.1>"), api.ErrState)
}

// TestEmpty is for P5.1: the table without loops is valid, and a new one each time.
func TestEmpty(t *testing.T) {
	e := loops.Empty()
	if len(e) != yarnCount || loops.Count(e) != 0 {
		t.Errorf("Empty = %v", e)
	}
	wantFullTable(t, e)
	wantCheck(t, e, api.OK)
	wantOrder(t, e, nil)
	e[0] = plain(1)
	if loops.Count(loops.Empty()) != 0 {
		t.Error("Empty returns the same memory again")
	}
	wantCheck(t, loops.Table{{}, nil, {}, nil, {}, {}}, api.OK)
}

// TestWidth is for P5.1: tables with fewer and with more elements than yarns, whatever else is wrong with them.
func TestWidth(t *testing.T) {
	wantCheck(t, nil, api.ErrWidth)
	for _, n := range []int{0, 1, 2, 3, 4, 5, 7, 8, 12, 255, 256, 257, 262, 1000} {
		wantCheck(t, make(loops.Table, n), api.ErrWidth)
		if n == 0 {
			continue
		}
		for _, list := range [][]loops.Loop{plain(1), plain(2048), plain(2049), {loop("f")}, {loop("f n 1.0")}, {loop("f n"), loop("f 1.0"), loop("f 1.0")}} {
			tab := make(loops.Table, n)
			tab[n-1] = list
			wantCheck(t, tab, api.ErrWidth)
			tab[0] = list
			wantCheck(t, tab, api.ErrWidth)
		}
	}
}

// TestLimit is for P5.1 and P5.5: as many loops as there may be, of one yarn and of several, and one more, whatever else is wrong with them.
func TestLimit(t *testing.T) {
	for y := range yarnCount {
		tab := make(loops.Table, yarnCount)
		tab[y] = plain(maxLoops)
		wantCheck(t, tab, api.OK)
		wantOrder(t, tab, names(tab))
		tab[y] = plain(maxLoops + 1)
		wantCheck(t, tab, api.ErrLimit)
		tab[y][0].New = false
		tab[y][5] = loop("f 1.0 1.0 1.7")
		wantCheck(t, tab, api.ErrLimit)
		tab[y] = plain(maxLoops)
		tab[(y+1)%yarnCount] = plain(1)
		wantCheck(t, tab, api.ErrLimit)
		tab[y] = plain(maxLoops - 1)
		wantCheck(t, tab, api.OK)
	}
	even := make(loops.Table, yarnCount)
	for y := range even {
		even[y] = plain(341)
	}
	wantCheck(t, even, api.OK)
	even[5] = plain(343)
	wantCheck(t, even, api.OK)
	even[0] = plain(342)
	wantCheck(t, even, api.ErrLimit)
}

// TestRight is for P5.1: each way in which a loop is not right, for the first loop and others of several yarns, and what is just right.
func TestRight(t *testing.T) {
	for s, e := range map[string]api.Errno{
		"f": api.OK, "b": api.OK, "f n": api.OK, "b n 1.0 1.1 1.2 1.3": api.OK, "f 1.3 1.1": api.OK, "f 1.0>": api.OK, "f 1.0> 1.0>": api.OK, "f 1.0> 1.0<+ 1.0>+ 1.0<+": api.ErrArg,
		"f 1.0> 1.0<": api.ErrArg, "f 1.0< 1.0>": api.ErrArg, "f 1.0>+ 1.0<+": api.ErrArg, "f 1.0> 1.0<+": api.OK, "f 1.0>+ 1.0<": api.OK, "f 1.0> 1.1<": api.OK, "f 1.0> 1.1> 1.0<": api.OK, "f 1.0> 1.1> 1.1<": api.ErrArg,
		"f 1.0 1.1 1.2 1.3 1.4": api.ErrArg, "f 1.0 1.1 1.2 1.3 1.0": api.ErrArg, "f 1.9": api.ErrArg, "f 1.0 1.9": api.ErrArg, "f 4.0": api.ErrArg, "f 0.0": api.ErrArg, "f 7.0": api.ErrArg, "f 1.0 1.1 0.0": api.ErrArg,
		"f 1.9>": api.ErrArg, "f 1.0> 4.0<": api.ErrArg, "f 0.0>": api.ErrArg, "f 7.0<+": api.ErrArg, "f 1.0 1.0>": api.OK, "f 2.0": api.OK, "f 2.1>": api.OK,
	} {
		l := loop(s)
		wantCheck(t, loops.Table{plain(9), plain(2), {loop("f n"), l}, nil, nil, nil}, e)
		wantCheck(t, loops.Table{plain(9), plain(2), nil, nil, nil, {loop("f n"), loop("f"), l, loop("f")}}, e)
		first := deepLoop(l)
		first.New = true
		wantCheck(t, loops.Table{plain(9), plain(2), {first, loop("f")}, nil, nil, nil}, e)
		wantCheck(t, loops.Table{plain(9), plain(2), {first}, nil, {}, plain(3)}, e)
	}
}

// TestBadWays is for P5.1: beds and directions that are none, and names that would be valid if numbers overflowed, in Through and in Past, in front and behind.
func TestBadWays(t *testing.T) {
	with := func(l loops.Loop) loops.Table { return loops.Table{plain(3), {l}, nil, nil, nil, nil} }
	for b := range 256 {
		e := api.ErrArg
		if b < 2 {
			e = api.OK
		}
		wantCheck(t, with(loops.Loop{Bed: api.Bed(b), New: true}), e)
		wantCheck(t, with(loops.Loop{New: true, Past: []yarns.Pass{{Id: id("1.0"), Dir: api.Dir(b)}}}), e)
		wantCheck(t, with(loops.Loop{New: true, Past: []yarns.Pass{{Id: id("1.0"), Front: true}, {Id: id("1.1"), Dir: api.Dir(b)}}}), e)
	}
	for _, bad := range badIds {
		wantCheck(t, with(loops.Loop{New: true, Through: []api.Id{bad}}), api.ErrArg)
		wantCheck(t, with(loops.Loop{New: true, Through: []api.Id{id("1.2"), bad}}), api.ErrArg)
		wantCheck(t, with(loops.Loop{New: true, Past: []yarns.Pass{{Id: bad}}}), api.ErrArg)
		wantCheck(t, with(loops.Loop{New: true, Past: []yarns.Pass{{Id: id("1.2"), Dir: api.Right}, {Id: bad, Front: true, Dir: api.Right}}}), api.ErrArg)
	}
	// The last name of each yarn is valid, and the one behind it is not.
	for y := range yarnCount {
		tab := loops.Table{plain(1), plain(2), plain(3), plain(4), plain(5), plain(6)}
		tab[y] = append(tab[y], loops.Loop{Through: []api.Id{{Yarn: uint8(y + 1), N: y}}})
		wantCheck(t, tab, api.OK)
		tab[y][y+1].Through[0].N = y + 1
		wantCheck(t, tab, api.ErrState)
		tab[y][y+1].Through[0].N = y + 2
		wantCheck(t, tab, api.ErrArg)
	}
}

// longPast returns n passes of the first two loops, reduced.
func longPast(n int) []yarns.Pass {
	l := make([]yarns.Pass, n)
	for i := range l {
		l[i] = yarns.Pass{Id: api.Id{Yarn: 1, N: i % 2}, Dir: api.Dir(i / 3 % 2)}
	}
	return l
}

// TestLongPast is for P5.1: as many passes as there may be, and one more.
func TestLongPast(t *testing.T) {
	for n, e := range map[int]api.Errno{maxPending - 1: api.OK, maxPending: api.OK, maxPending + 1: api.ErrArg, 3 * maxPending: api.ErrArg} {
		past := longPast(n)
		if !isReduced(past) {
			t.Fatal("the list is not reduced")
		}
		wantCheck(t, loops.Table{plain(2), {loops.Loop{New: true, Past: past}}, nil, nil, nil, nil}, e)
	}
	past := longPast(maxPending)
	past[maxPending-1] = past[maxPending-2]
	past[maxPending-1].Dir ^= 1
	wantCheck(t, loops.Table{plain(2), {loops.Loop{New: true, Past: past}}, nil, nil, nil, nil}, api.ErrArg)
}

// TestNew is for P5.1: the first loop of each yarn is New; others may be.
func TestNew(t *testing.T) {
	for y := range yarnCount {
		tab := make(loops.Table, yarnCount)
		tab[y] = []loops.Loop{loop("f"), loop("f n")}
		wantCheck(t, tab, api.ErrArg)
		tab[y] = []loops.Loop{loop("f n"), loop("b n"), loop("f"), loop("f n")}
		wantCheck(t, tab, api.OK)
		tab[0] = []loops.Loop{loop("b")}
		wantCheck(t, tab, api.ErrArg)
	}
}

// TestThere is for P5.1: a loop that stands in Through twice, of one loop, of two of one yarn, and of two yarns.
func TestThere(t *testing.T) {
	for i, tab := range []loops.Table{
		table("f n, f 1.0 1.0"), table("f n, f, f 1.0 1.1 1.0"), table("f n, f 1.0, f 1.0"), table("f n, f 1.0, f, f 1.2, f 1.1 1.2"), table("f n", "f n 1.0", "", "", "", "b n 1.0"),
		table("f n, f, f 1.1", "f n 1.0 1.1"), table("f n 6.0", "", "", "", "", "f n, f 6.0"), table("f n, f 1.1 1.1"), table("f n 1.0, f 1.0"),
	} {
		if loops.Check(tab) != api.ErrThere {
			t.Errorf("%d", i)
		}
		wantCheck(t, tab, api.ErrThere)
	}
	// A yarn may go past a loop as often as it likes, and past one that it is pulled through.
	wantCheck(t, table("f n, f 1.0 1.0> 1.0>", "f n 1.0> 1.0<+", "f n 1.0>"), api.OK)
}

// TestState is for P5.1: loops that need themselves, or each other, or what their yarn makes behind them.
func TestState(t *testing.T) {
	for s, e := range map[string]api.Errno{
		"f n 1.0": api.ErrState, "f n 1.0>": api.ErrState, "f n 1.1, f": api.ErrState, "f n 1.2<+, f, f": api.ErrState, "f n, f 1.1": api.ErrState, "f n, f 1.2, f": api.ErrState,
		"f n, f 1.1>, f": api.ErrState, "f n 2.0; f n 1.0": api.ErrState, "f n 2.0>; f n 1.0>": api.ErrState, "f n 2.0; f n 3.0>; f n 1.0<+": api.ErrState, "f n 2.1; f n, f 3.0; f n 1.0": api.ErrState,
		"f n, f 2.1; f n, f 1.0": api.OK, "f n, f 2.0; f n 1.0": api.OK, "f n 2.1; f n, f 1.0": api.ErrState, "f n 6.0; f n 1.0; f n 2.0; f n 3.0; f n 4.0; f n": api.OK,
		"f n 6.0; f n 1.0; f n 2.0; f n 3.0; f n 4.0; f n 5.0": api.ErrState, "f n; f n, f 2.1 1.0; f n": api.ErrState, "f n, f, f; f n; f n, f 3.1>, f": api.ErrState,
	} {
		wantCheck(t, table(strings.Split(s, ";")...), e)
	}
}

// TestErrorOrder is for P5.1: which error comes first where several apply.
func TestErrorOrder(t *testing.T) {
	// Not right, twice there, and no order: in this order, wherever the loops stand.
	wantCheck(t, table("f n 1.0", "f n, f 2.0, f 2.0", "f n, f 7.0"), api.ErrArg)
	wantCheck(t, table("f n 1.0", "f n, f 2.0, f 2.0", "f"), api.ErrArg)
	wantCheck(t, table("f n 1.0", "f n, f 2.0, f 2.0", "f n"), api.ErrThere)
	wantCheck(t, table("f n 1.0", "f n, f 2.0, f 2.1", "f n"), api.ErrState)
	wantCheck(t, table("f n, f 1.0, f 1.0", "", "", "", "", "f n 6.0, f 6.9"), api.ErrArg)
	wantCheck(t, table("f n, f 1.0, f 1.0", "", "", "", "", "f n 6.0"), api.ErrThere)
	wantCheck(t, table("f n 7.0", "f n", "f n", "f n", "f n", "f n", "f n"), api.ErrWidth)
	many := table("f n 1.0", "f", "f n, f 3.0, f 3.0")
	many[4] = plain(maxLoops - 4)
	wantCheck(t, many, api.ErrLimit)
	many[4] = plain(maxLoops - 5)
	wantCheck(t, many, api.ErrArg)
	wantCheck(t, many[:5], api.ErrWidth)
}

// TestCheck is for P5.1 and P5.5: tables of all kinds, valid ones and others.
func TestCheck(t *testing.T) {
	random := rand.New(rand.NewSource(51))
	times := map[api.Errno]int{}
	for range 6000 {
		tab, _ := randomTable(random, random.Intn(24))
		for range random.Intn(4) {
			tab = broken(random, tab)
		}
		e := slowCheck(tab)
		wantCheck(t, tab, e)
		if e == api.OK {
			wantOrder(t, tab, slowOrder(tab))
		}
		times[e]++
	}
	if times[api.OK] < 500 || times[api.ErrArg] < 500 || times[api.ErrThere] < 100 || times[api.ErrState] < 100 {
		t.Errorf("only these cases: %v", times)
	}
}

// TestFind is for P5.2: each loop of tables of all kinds, and its fields.
func TestFind(t *testing.T) {
	random := rand.New(rand.NewSource(52))
	for range 300 {
		tab, order := randomTable(random, random.Intn(30))
		tab = broken(random, tab)
		count := 0
		for _, name := range names(tab) {
			l, e := loops.Find(tab, name)
			if e != api.OK || !sameLoop(l, tab[name.Yarn-1][name.N]) {
				t.Errorf("Find(%v, %v) = %v, %d", tab, name, l, e)
			}
			wantFull(t, l)
			count++
		}
		if loops.Count(tab) != count {
			t.Errorf("Count(%v) = %d, expected %d", tab, loops.Count(tab), count)
		}
		for _, bad := range append(slices.Clone(badIds), order...) {
			if !slices.Contains(names(tab), bad) {
				wantNoLoop(t, tab, bad)
			}
		}
		for y := range tab {
			wantNoLoop(t, tab, api.Id{Yarn: uint8(y + 1), N: len(tab[y])})
			wantNoLoop(t, tab, api.Id{Yarn: uint8(y + 1), N: -1})
		}
	}
	if l, e := loops.Find(example(), id("2.0")); e != api.OK || !reflect.DeepEqual(l, loops.Loop{New: true, Through: ids("1.0"), Past: []yarns.Pass{{Id: id("1.1"), Dir: api.Right}}}) {
		t.Errorf("Find of 2.0 = %v, %d", l, e)
	}
}

// TestAnyTable is for P5.2, P5.3 and P5.4: tables with fewer and with more elements than yarns, and loops that are not right.
func TestAnyTable(t *testing.T) {
	for _, bad := range badIds {
		wantNoLoop(t, nil, bad)
		wantNoLoop(t, loops.Empty(), bad)
		wantNoLoop(t, example(), bad)
		wantAbove(t, nil, bad, api.Id{}, false)
		wantAbove(t, loops.Empty(), bad, api.Id{}, false)
		wantAbove(t, example(), bad, api.Id{}, false)
		wantAbove(t, loops.Table{{{}, {Through: []api.Id{id("1.0"), bad}}}}, bad, id("1.1"), true)
	}
	odd := loops.Table{{{Bed: 9}}, {loop("f 1.0 9.9 1.0 1.1 1.2 1.3 1.3>"), loop("f 1.0 2.1")}, nil, nil, nil, nil, nil, {loop("f 8.0"), loop("b 8.1> 8.1< 1.7")}}
	if n := loops.Count(odd); n != 5 {
		t.Errorf("Count of odd loops = %d", n)
	}
	for _, name := range []string{"1.0", "2.0", "2.1", "8.0", "8.1"} {
		l, e := loops.Find(odd, id(name))
		if k := id(name); e != api.OK || !sameLoop(l, odd[k.Yarn-1][k.N]) {
			t.Errorf("Find of %s = %v, %d", name, l, e)
		}
	}
	for name, want := range map[string]string{"1.0": "", "2.0": "1.0 1.1 1.2 1.3 9.9", "2.1": "1.0 2.0 2.1", "8.0": "8.0", "8.1": "1.7 8.0 8.1", "8.2": "", "7.0": "", "3.0": ""} {
		wantIds(t, "Needs of "+name, loops.Needs(odd, id(name)), ids(want))
	}
	for name, want := range map[string]string{"1.0": "2.0", "9.9": "2.0", "2.1": "2.1", "8.0": "8.0", "1.7": "8.1"} {
		wantAbove(t, odd, id(name), id(want), true)
	}
	for _, name := range []string{"2.0", "8.1", "8.2", "1.8"} {
		wantAbove(t, odd, id(name), api.Id{}, false)
	}
	if n := loops.Count(loops.Table{plain(3000), nil, plain(5), plain(4000), nil, nil, plain(1), plain(2)}); n != 7008 {
		t.Errorf("Count of many loops = %d", n)
	}
}

// TestManyYarns is for P5.2, P5.3 and P5.4: the yarn 255 has names, the yarns behind it have none, and are not taken for others.
func TestManyYarns(t *testing.T) {
	tab := make(loops.Table, 300)
	for y := range tab {
		tab[y] = []loops.Loop{loop("f n"), {Through: []api.Id{{Yarn: 200, N: y}}}}
	}
	if n := loops.Count(tab); n != 600 {
		t.Errorf("Count = %d", n)
	}
	wantNoLoop(t, tab, api.Id{Yarn: 0, N: 0})
	wantNoLoop(t, tab, api.Id{Yarn: 0, N: 1})
	for y := range 300 {
		if y < 255 {
			name := api.Id{Yarn: uint8(y + 1), N: 1}
			wantAbove(t, tab, api.Id{Yarn: 200, N: y}, name, true)
			if l, e := loops.Find(tab, name); e != api.OK || l.Through[0].N != y {
				t.Errorf("Find(%v) = %v, %d", name, l, e)
			}
			wantIds(t, "Needs", loops.Needs(tab, name), slowNeeds(tab, name))
		} else {
			wantAbove(t, tab, api.Id{Yarn: 200, N: y}, api.Id{}, false)
		}
	}
}

// TestAbove is for P5.3: all loops of tables of all kinds; the first loop counts if there are several.
func TestAbove(t *testing.T) {
	random := rand.New(rand.NewSource(53))
	above := 0
	for range 500 {
		tab, order := randomTable(random, random.Intn(30))
		tab = broken(random, broken(random, tab))
		for _, name := range append(order, names(tab)...) {
			var want api.Id
			all := names(tab)
			i := slices.IndexFunc(all, func(id api.Id) bool { return slices.Contains(tab[id.Yarn-1][id.N].Through, name) })
			if i >= 0 {
				want = all[i]
				above++
			}
			wantAbove(t, tab, name, want, i >= 0)
		}
	}
	if above < 2000 {
		t.Errorf("only %d loops have one above", above)
	}
	several := table("f n, f, f 3.0", "f n, f 3.1 3.0", "f n 3.2, f 3.0, f 3.1")
	wantAbove(t, several, id("3.0"), id("1.2"), true)
	wantAbove(t, several, id("3.1"), id("2.1"), true)
	wantAbove(t, several, id("3.2"), id("3.0"), true)
	wantAbove(t, several, id("1.2"), api.Id{}, false)
	// To be gone past is not to be gone through.
	wantAbove(t, table("f n", "f n 1.0>"), id("1.0"), api.Id{}, false)
}

// TestNeeds is for P5.4: all loops of tables of all kinds.
func TestNeeds(t *testing.T) {
	random := rand.New(rand.NewSource(54))
	many := 0
	for range 500 {
		tab, order := randomTable(random, random.Intn(30))
		tab = broken(random, broken(random, tab))
		for _, name := range append(order, names(tab)...) {
			want := slowNeeds(tab, name)
			wantIds(t, "Needs", loops.Needs(tab, name), want)
			if len(want) > 3 {
				many++
			}
		}
	}
	if many < 500 {
		t.Errorf("only %d loops need more than three", many)
	}
}

// TestNeedsByHand is for P5.4: ascending by the yarn first, each once, whether it is needed as the loop before, in Through or in Past.
func TestNeedsByHand(t *testing.T) {
	tab := table("f n, f, f, f", "f n, f, f 2.1 1.3 1.0 2.0> 1.3> 2.1< 1.3> 2.0>+", "f n 2.1> 2.0> 1.2> 1.3> 2.0>", "f n, f 4.0, f 4.1>, f 3.0 4.2 4.2> 1.1<")
	for name, want := range map[string]string{
		"1.0": "", "1.1": "1.0", "1.3": "1.2", "2.0": "", "2.2": "1.0 1.3 2.0 2.1", "3.0": "1.2 1.3 2.0 2.1", "4.1": "4.0", "4.2": "4.1", "4.3": "1.1 3.0 4.2", "4.4": "", "5.0": "",
	} {
		wantIds(t, "Needs of "+name, loops.Needs(tab, id(name)), ids(want))
	}
	long := loops.Table{plain(2), {loops.Loop{New: true, Past: longPast(maxPending)}}, nil, nil, nil, nil}
	wantIds(t, "Needs of a loop with many passes", loops.Needs(long, id("2.0")), ids("1.0 1.1"))
}

// TestOrderByHand is for P5.5: where several loops can be made, the least one by its yarn and then by its number.
func TestOrderByHand(t *testing.T) {
	for s, want := range map[string]string{
		"f n, f, f; f n, f": "1.0 1.1 1.2 2.0 2.1", "f n 2.0, f; f n, f": "2.0 1.0 1.1 2.1", "f n 2.1, f; f n, f": "2.0 2.1 1.0 1.1", "f n, f 3.0>; f n 3.1; f n, f, f": "1.0 3.0 1.1 3.1 2.0 3.2",
		"f n 6.0; f n 1.0; f n 2.0; f n 3.0; f n 4.0; f n": "6.0 1.0 2.0 3.0 4.0 5.0", "f n, f 2.0, f 2.1; f n, f 1.0, f 1.1; f n": "1.0 2.0 1.1 2.1 1.2 2.2 3.0",
		"; ; f n; ; ; f n": "3.0 6.0", "f n 3.0; f n; f n": "2.0 3.0 1.0", "f n, f 2.1 2.0; f n 1.0 3.0>, f; f n 4.0<; f n": "1.0 4.0 3.0 2.0 2.1 1.1",
	} {
		var list []string
		for _, part := range strings.Split(s, ";") {
			list = append(list, strings.TrimSpace(part))
		}
		wantOrder(t, table(list...), ids(want))
	}
	// A yarn that waits for the last loop of another one.
	tab := loops.Table{{loop("f n 2.1022"), loop("f")}, plain(1023), plain(1023), nil, nil, nil}
	want := append(names(loops.Table{nil, tab[1]}), names(tab[:1])...)
	wantOrder(t, tab, append(want, names(loops.Table{nil, nil, tab[2]})...))
}

// TestAdd is for P5.6: a loop of each yarn stands behind the others of its yarn; all other loops stay.
func TestAdd(t *testing.T) {
	random := rand.New(rand.NewSource(56))
	times := map[api.Errno]int{}
	for range 3000 {
		tab, order := randomTable(random, random.Intn(16))
		yarn := uint8(random.Intn(yarnCount) + 1)
		some := append(order, api.Id{Yarn: yarn, N: len(tab[yarn-1])})
		if random.Intn(3) > 0 {
			some = order
		}
		l := loops.Loop{Bed: api.Bed(random.Intn(2)), New: len(tab[yarn-1]) == 0 || random.Intn(9) == 0, Through: randomIds(random, some, 2), Past: randomPast(random, some, 3)}
		if random.Intn(9) == 0 {
			l.New = false
		}
		want := deep(tab)
		want[yarn-1] = append(want[yarn-1], l)
		e := slowCheck(want)
		if e != api.OK {
			want = nil
		}
		got, ge := loops.Add(tab, yarn, l)
		if ge != e || !sameTable(got, want) {
			t.Errorf("Add(%v, %d, %v) = %v, %d, expected %v, %d", tab, yarn, l, got, ge, want, e)
		}
		wantFullTable(t, got)
		times[e]++
	}
	if times[api.OK] < 500 || times[api.ErrArg] < 100 || times[api.ErrThere] < 100 || times[api.ErrState] < 100 {
		t.Errorf("only these cases: %v", times)
	}
}

// TestAddNoYarn is for P5.6: yarns that there are not, whatever the loop is; the error of the table comes before, that of the loop behind.
func TestAddNoYarn(t *testing.T) {
	for y := range 256 {
		yarn := uint8(y)
		more, e := loops.Add(example(), yarn, loop("f n"))
		if y >= 1 && y <= yarnCount {
			if e != api.OK || loops.Count(more) != 5 {
				t.Errorf("Add to the yarn %d = %v, %d", y, more, e)
			}
			continue
		}
		full := loops.Table{plain(maxLoops), nil, nil, nil, nil, nil}
		for _, tab := range []loops.Table{example(), loops.Empty(), full} {
			for _, s := range []string{"f n", "f", "f 1.0 1.0", "f n 1.1", "f 9.9"} {
				if more, e := loops.Add(tab, yarn, loop(s)); e != api.ErrArg || more != nil {
					t.Errorf("Add to the yarn %d = %v, %d, expected ErrArg", y, more, e)
				}
			}
		}
	}
}

// TestAddLimit is for P5.6: the last loop that a table may have, and one more, whatever the loop is.
func TestAddLimit(t *testing.T) {
	for y := range yarnCount {
		tab := loops.Table{plain(1), plain(1), plain(1), plain(1), plain(1), plain(1)}
		tab[y] = plain(maxLoops - 6)
		more, e := loops.Add(tab, uint8(y+1), loop("b"))
		if e != api.OK || loops.Count(more) != maxLoops || len(more[y]) != maxLoops-5 || more[y][maxLoops-6].Bed != api.Back {
			t.Fatalf("Add of the last loop of the yarn %d: %d", y+1, e)
		}
		for yarn := range yarnCount {
			for _, s := range []string{"b", "b n", "b 7.0", "b 1.0 1.0"} {
				if even, e := loops.Add(more, uint8(yarn+1), loop(s)); e != api.ErrLimit || even != nil {
					t.Errorf("Add of one loop more to the yarn %d: %d, expected ErrLimit", yarn+1, e)
				}
			}
		}
	}
}

// TestAddByHand is for P5.6: loops that are not right, the first of a yarn, through what is taken, and through themselves.
func TestAddByHand(t *testing.T) {
	for _, c := range []struct {
		yarn uint8
		loop string
		e    api.Errno
	}{
		{1, "f", api.OK}, {1, "b n", api.OK}, {2, "f", api.OK}, {3, "f", api.ErrArg}, {3, "f n", api.OK}, {6, "b", api.ErrArg}, {6, "b n", api.OK}, {1, "f 1.3", api.ErrState}, {1, "f 1.3>", api.ErrState},
		{1, "f 1.4", api.ErrArg}, {1, "f 1.2", api.OK}, {1, "f 1.0", api.ErrThere}, {3, "f n 1.1 1.0", api.ErrThere}, {3, "f n 2.0 1.2", api.OK}, {3, "f n 1.2 2.0 1.2", api.ErrThere}, {3, "f n 3.0 1.0", api.ErrThere},
		{3, "f n 2.0 2.1", api.ErrArg}, {3, "f n 1.0> 1.0<", api.ErrArg}, {3, "f n 1.0> 1.0>", api.OK}, {2, "b 1.2 2.0", api.OK}, {2, "b 1.0> 2.0<+ 1.1<", api.OK}, {2, "f 2.1", api.ErrState}, {4, "f n 3.0", api.ErrArg},
	} {
		more, e := loops.Add(example(), c.yarn, loop(c.loop))
		if e != c.e {
			t.Errorf("Add of %s to the yarn %d: %d, expected %d", c.loop, c.yarn, e, c.e)
		}
		if e == api.OK && !sameLoop(more[c.yarn-1][len(more[c.yarn-1])-1], loop(c.loop)) {
			t.Errorf("Add of %s to the yarn %d = %v", c.loop, c.yarn, more)
		}
	}
}

// rebuilt returns the table that has the loops of another one, added in an order.
func rebuilt(t *testing.T, tab loops.Table, order []api.Id) loops.Table {
	t.Helper()
	own := loops.Empty()
	for i, name := range order {
		l, e := loops.Find(tab, name)
		if i == 0 && (!l.New || len(l.Through) > 0 || len(l.Past) > 0) {
			t.Errorf("an order of %v begins with %v", short(tab), l)
		}
		more, e2 := loops.Add(own, name.Yarn, l)
		if e != api.OK || e2 != api.OK {
			t.Fatalf("the loop %v of %v: %d, %d", name, short(tab), e, e2)
		}
		own = more
	}
	return own
}

// TestConsequences is for P5.7: tables of all kinds are built anew in an order in which they were made, and in the first one, in which the loops of each yarn come in their order.
func TestConsequences(t *testing.T) {
	random := rand.New(rand.NewSource(57))
	for range 200 {
		tab, made := randomTable(random, random.Intn(60))
		first, e := loops.Order(tab)
		if e != api.OK || len(first) != loops.Count(tab) {
			t.Fatalf("Order(%v) = %v, %d", tab, first, e)
		}
		for _, order := range [][]api.Id{made, first} {
			if own := rebuilt(t, tab, order); !sameTable(own, tab) {
				t.Errorf("%v, added again, is %v", tab, own)
			}
		}
		var next [yarnCount]int
		for _, name := range first {
			if name.N != next[name.Yarn-1] {
				t.Errorf("the loop %v does not stand behind the one before", name)
			}
			next[name.Yarn-1]++
		}
	}
	tab, order := randomTable(random, 400)
	if own := rebuilt(t, tab, order); !sameTable(own, tab) {
		t.Error("a large table, added again, is another one")
	}
}

// trap is a loop that stands behind the end of a slice, where no function may write.
var trap = loops.Loop{Bed: 77}

// roomy returns a table all of whose slices have room for more, with traps behind their ends.
func roomy(t loops.Table) loops.Table {
	own := make(loops.Table, 0, len(t)+3)
	for _, list := range t {
		more := make([]loops.Loop, 0, len(list)+3)
		for _, l := range list {
			l.Through = append(append(make([]api.Id, 0, len(l.Through)+2), l.Through...), id("77.77"))[:len(l.Through)]
			l.Past = append(append(make([]yarns.Pass, 0, len(l.Past)+2), l.Past...), yarns.Pass{Id: id("77.77")})[:len(l.Past)]
			more = append(more, l)
		}
		own = append(own, append(more, trap)[:len(list)])
	}
	return append(own, []loops.Loop{trap})[:len(t)]
}

// wantTraps tests that no function has written behind the ends of the slices of a roomy table.
func wantTraps(t *testing.T, tab loops.Table) {
	t.Helper()
	right := tab[:len(tab)+1][len(tab)][0].Bed == 77
	for _, list := range tab {
		right = right && list[:len(list)+1][len(list)].Bed == 77
		for _, l := range list {
			right = right && l.Through[:len(l.Through)+1][len(l.Through)] == id("77.77") && l.Past[:len(l.Past)+1][len(l.Past)].Id == id("77.77")
		}
	}
	if !right {
		t.Error("a function has written behind the end of its argument")
	}
}

// scribble writes over all memory of a table.
func scribble(t loops.Table) {
	for y, list := range t {
		for n := range list {
			scribbleLoop(list[n])
			list[n] = trap
		}
		t[y] = nil
	}
}

func scribbleLoop(l loops.Loop) {
	for i := range l.Through {
		l.Through[i] = id("88.88")
	}
	for i := range l.Past {
		l.Past[i] = yarns.Pass{Id: id("88.88")}
	}
}

// memoryTables returns tables all of whose loops have something to share.
func memoryTables() []loops.Table {
	random := rand.New(rand.NewSource(58))
	all := []loops.Table{example(), table("f n, f 1.0 1.0>", "f n 1.1 1.0< 1.0<", "f n 2.0 1.1>+ 2.0<")}
	for range 20 {
		tab, _ := randomTable(random, 40)
		all = append(all, tab)
	}
	return all
}

// TestMemory is for R1 and R4: no argument is changed, and no result shares memory with it or with another result.
func TestMemory(t *testing.T) {
	for _, want := range memoryTables() {
		arg := roomy(want)
		order, _ := loops.Order(arg)
		loops.Check(arg)
		for _, name := range names(want) {
			needs, wantNeeds := loops.Needs(arg, name), loops.Needs(arg, name)
			l, _ := loops.Find(arg, name)
			other, _ := loops.Find(arg, name)
			loops.Above(arg, name)
			scribbleLoop(l)
			for i := range needs {
				needs[i] = id("88.88")
			}
			if !sameLoop(other, want[name.Yarn-1][name.N]) || !slices.Equal(loops.Needs(arg, name), wantNeeds) {
				t.Errorf("what is done with the loop %v changes it", name)
			}
		}
		again, _ := loops.Order(arg)
		for i := range order {
			order[i] = id("88.88")
		}
		if slices.Contains(again, id("88.88")) || !sameTable(arg, want) {
			t.Errorf("the table %v has changed: %v", want, arg)
		}
		wantTraps(t, arg)
	}
}

// TestRoom is for R4: nothing has room for more, however long it is.
func TestRoom(t *testing.T) {
	for n := range 100 {
		tab := loops.Table{plain(n + 2), {{New: true, Past: longPast(n)}}, nil, nil, nil, nil}
		l, e := loops.Find(tab, id("2.0"))
		if e != api.OK || len(l.Past) != n {
			t.Fatalf("Find of a loop with %d passes = %v, %d", n, l, e)
		}
		wantFull(t, l)
		more, e := loops.Add(tab, 3, l)
		if e != api.OK || len(more[0]) != n+2 {
			t.Fatalf("Add of a loop with %d passes = %v, %d", n, more, e)
		}
		wantFullTable(t, more)
		wantOrder(t, more, names(more))
	}
}

// TestAddMemory is for R1 and R4: neither the table nor the loop is changed or shared.
func TestAddMemory(t *testing.T) {
	for _, want := range memoryTables() {
		for y := range yarnCount {
			arg := roomy(want)
			wantLoop := loop("b n 1.0> 1.0>")
			for _, name := range names(want) {
				if _, ok := loops.Above(want, name); !ok {
					wantLoop.Through = []api.Id{name}
				}
			}
			l := deepLoop(wantLoop)
			more, e := loops.Add(arg, uint8(y+1), l)
			again, _ := loops.Add(arg, uint8(y+1), l)
			if e != api.OK {
				t.Fatalf("Add to the yarn %d of %v: %d", y+1, want, e)
			}
			copied := deep(again)
			scribble(more)
			if !sameTable(arg, want) || !sameLoop(l, wantLoop) {
				t.Error("the argument shares memory with the result")
			}
			wantTraps(t, arg)
			scribble(arg)
			scribbleLoop(l)
			if !sameTable(again, copied) {
				t.Error("a result shares memory with another one, or with the argument")
			}
			wantFullTable(t, again)
		}
	}
}
