package orders_test

import (
	"math"
	"math/rand"
	"slices"
	"strconv"
	"strings"
	"testing"

	"gansey/api"
	"gansey/orders"
	"gansey/stacks"
	"gansey/yarns"
)

// The tests count the limits themselves, so that they do not depend on what they test.
const (
	needleCount = 40
	maxStack    = 4
	maxRack     = 4
	allLeft     = -13 // left of all spots
	allRight    = 179 // right of all spots
)

// badRacks are racks that are not valid, some of which would be valid if numbers overflowed.
var badRacks = []int{5, -5, 6, -6, 100, -100, 256, 1<<8 + 1, 1 << 32, 1<<32 + 4, -(1 << 32), 1 << 62, 1<<62 - 1, math.MaxInt, math.MaxInt - 1, math.MinInt, math.MinInt + 1}

// farNumbers are numbers at the ends of the integers, and others that are far away.
var farNumbers = []int{math.MinInt, math.MinInt + 1, math.MinInt + 5, -(1 << 62), -(1 << 32) - 1, -1001, 1001, 1<<32 + 9, 1<<62 + 11, math.MaxInt - 5, math.MaxInt - 1, math.MaxInt}

var bothDirs = []api.Dir{api.Left, api.Right}

func front(at int) api.Needle { return api.Needle{Bed: api.Front, At: at} }

func back(at int) api.Needle { return api.Needle{Bed: api.Back, At: at} }

// loop reads the name of a loop, such as 1.0.
func loop(s string) api.Id {
	yarn, n, ok := strings.Cut(s, ".")
	y, err := strconv.Atoi(yarn)
	k, err2 := strconv.Atoi(n)
	if !ok || err != nil || err2 != nil {
		panic(s)
	}
	return api.Id{Yarn: uint8(y), N: k}
}

// loops reads the names of loops.
func loops(s string) []api.Id {
	var l []api.Id
	for _, name := range strings.Fields(s) {
		l = append(l, loop(name))
	}
	return l
}

// needle reads a needle, such as f2.
func needle(s string) api.Needle {
	at, err := strconv.Atoi(s[1:])
	if err != nil {
		panic(s)
	}
	if s[0] == 'b' {
		return back(at)
	}
	return front(at)
}

// beds returns beds that hold stacks, such as "f2 1.0 1.1".
func beds(list ...string) stacks.Beds {
	var b stacks.Beds
	for _, s := range list {
		name, held, _ := strings.Cut(s, " ")
		n := needle(name)
		bed := &b.Front
		if n.Bed == api.Back {
			bed = &b.Back
		}
		for len(*bed) < n.At {
			*bed = append(*bed, nil)
		}
		(*bed)[n.At-1] = loops(held)
	}
	return b
}

// example returns the beds of the chapter.
func example() stacks.Beds { return beds("f2 1.0 1.1", "b2 2.0 2.1", "b4 2.2") }

// fullBeds returns the beds on which every needle holds four loops.
func fullBeds() stacks.Beds {
	bed := func(yarn uint8) [][]api.Id {
		var all [][]api.Id
		for at := range needleCount {
			var l []api.Id
			for i := range maxStack {
				l = append(l, api.Id{Yarn: yarn, N: 1000 - 10*at - 3*i})
			}
			all = append(all, l)
		}
		return all
	}
	return stacks.Beds{Front: bed(1), Back: bed(6)}
}

// goodBeds returns beds that are valid.
func goodBeds() []stacks.Beds {
	return []stacks.Beds{
		{}, {Front: [][]api.Id{}, Back: make([][]api.Id, 40)}, example(), fullBeds(), {Front: fullBeds().Front}, {Back: fullBeds().Back},
		beds("f1 1.0"), beds("b1 1.0"), beds("f40 1.0 1.1 1.2 1.3"), beds("b40 6.2047 1.0 6.0 1.2047"),
		beds("f1 1.0", "b1 2.0"), beds("f40 1.0", "b40 2.0"), beds("f1 1.5 1.4 1.3", "f40 1.2 1.0", "b1 2.9 2.8", "b40 3.1 3.0"),
		beds("f5 3.7 3.6 3.8", "b5 4.7 4.6", "b6", "b7 5.0"), beds("f4 1.3 1.2 1.1 1.0", "b4 2.3 2.2 2.1 2.0"), beds("f3", "f2", "b9"),
		beds("f5 1.0", "f6 1.1", "f7 1.2", "b6 2.0"), beds("f6 1.1", "b5 2.0", "b6 2.1", "b7 2.2"), beds("f2 2.0", "f3 1.0", "b2 3.0", "b3 2.1 2.2"),
	}
}

// randomBeds returns beds with stacks of all kinds.
func randomBeds(random *rand.Rand) stacks.Beds {
	names := random.Perm(6 * 300)
	bed := func() [][]api.Id {
		all := make([][]api.Id, random.Intn(needleCount+1))
		for i := range all {
			if random.Intn(3) == 0 {
				continue
			}
			for range random.Intn(maxStack + 1) {
				all[i] = append(all[i], api.Id{Yarn: uint8(names[0]%6 + 1), N: names[0] / 6})
				names = names[1:]
			}
		}
		return all
	}
	return stacks.Beds{Front: bed(), Back: bed()}
}

// someBeds returns beds that are valid, those of goodBeds and others.
func someBeds(random *rand.Rand, more int) []stacks.Beds {
	all := goodBeds()
	for range more {
		all = append(all, randomBeds(random))
	}
	return all
}

// badBeds are beds that are not valid, and why.
type badBeds struct {
	beds stacks.Beds
	e    api.Errno
}

// allBadBeds returns beds that are not valid, for one reason and for several.
func allBadBeds() []badBeds {
	five, bad := loops("1.0 1.1 1.2 1.3 1.4"), []api.Id{{Yarn: 7}}
	return []badBeds{
		{beds("f41 1.0"), api.ErrFull}, {beds("b41"), api.ErrFull}, {stacks.Beds{Front: [][]api.Id{five}}, api.ErrFull}, {stacks.Beds{Back: [][]api.Id{nil, five}}, api.ErrFull},
		{beds("f1 0.1"), api.ErrArg}, {beds("b40 7.1"), api.ErrArg}, {beds("f3 1.2048"), api.ErrArg}, {beds("f3 1.-1"), api.ErrArg}, {stacks.Beds{Back: [][]api.Id{{{}}}}, api.ErrArg},
		{beds("f1 1.0 1.0"), api.ErrThere}, {beds("f1 1.0", "b40 1.0"), api.ErrThere}, {beds("b3 1.0", "b4 1.0"), api.ErrThere},
		{stacks.Beds{Front: [][]api.Id{bad}, Back: [][]api.Id{five}}, api.ErrFull}, {beds("f1 1.0 1.0", "f2 1.-1"), api.ErrArg}, {beds("f1 1.0 1.0", "b41"), api.ErrFull},
	}
}

// spot returns the spot of a needle.
func spot(n api.Needle, rack int) int {
	if n.Bed == api.Back {
		return 4*n.At + 4*rack
	}
	return 4*n.At + 2
}

// slowList is List, as the chapter says it: it goes over all spots.
func slowList(b stacks.Beds, rack int) []orders.Held {
	var all []orders.Held
	for s := allLeft; s <= allRight; s++ {
		for bed, list := range [][][]api.Id{b.Front, b.Back} {
			for i, l := range list {
				n := api.Needle{Bed: api.Bed(bed), At: i + 1}
				for _, id := range l {
					if spot(n, rack) == s {
						all = append(all, orders.Held{Id: id, Needle: n, Spot: s})
					}
				}
			}
		}
	}
	return all
}

// slowBetween is Between, as the chapter says it.
func slowBetween(l []orders.Held, from, to int) []yarns.Pass {
	var all []yarns.Pass
	for i := range l {
		if h := l[i]; to > from && h.Spot > from && h.Spot < to {
			all = append(all, yarns.Pass{Id: h.Id, Front: h.Needle.Bed == api.Back, Dir: api.Right})
		}
		if h := l[len(l)-1-i]; to < from && h.Spot > to && h.Spot < from {
			all = append(all, yarns.Pass{Id: h.Id, Front: h.Needle.Bed == api.Back, Dir: api.Left})
		}
	}
	return all
}

// stackAt returns the stack of the front needle with a spot.
func stackAt(b stacks.Beds, s int) []api.Id {
	for i, l := range b.Front {
		if spot(front(i+1), 0) == s {
			return l
		}
	}
	return nil
}

// slowStep is Step, as the chapter says it.
func slowStep(b stacks.Beds, rack int, d api.Dir) []orders.Cross {
	var all []orders.Cross
	if d == api.Right {
		for i := len(b.Back) - 1; i >= 0; i-- {
			other := stackAt(b, spot(back(i+1), rack)+2)
			for k := len(b.Back[i]) - 1; k >= 0; k-- {
				for m := range other {
					all = append(all, orders.Cross{A: b.Back[i][k], B: other[m], Sign: -1})
				}
			}
		}
		return all
	}
	for i := range b.Back {
		other := stackAt(b, spot(back(i+1), rack)-2)
		for k := range b.Back[i] {
			for m := len(other) - 1; m >= 0; m-- {
				all = append(all, orders.Cross{A: other[m], B: b.Back[i][k], Sign: 1})
			}
		}
	}
	return all
}

// slowMeets is Meets, as the chapter says it, for odd places.
func slowMeets(b stacks.Beds, rack int, d api.Dir, place int) []yarns.Pass {
	var all []yarns.Pass
	for i, l := range b.Back {
		s := spot(back(i+1), rack)
		if d == api.Right && (place == s+1 || place == s+3) {
			for k := len(l) - 1; k >= 0; k-- {
				all = append(all, yarns.Pass{Id: l[k], Front: true, Dir: api.Left})
			}
		}
		if d == api.Left && (place == s-1 || place == s-3) {
			for _, id := range l {
				all = append(all, yarns.Pass{Id: id, Front: true, Dir: api.Right})
			}
		}
	}
	return all
}

// behind returns the rack behind a step.
func behind(rack int, d api.Dir) int {
	if d == api.Right {
		return rack + 1
	}
	return rack - 1
}

// other returns the direction of the way back.
func other(d api.Dir) api.Dir {
	if d == api.Right {
		return api.Left
	}
	return api.Right
}

// isRack reports whether a rack is valid.
func isRack(rack int) bool { return rack >= -maxRack && rack <= maxRack }

// racks returns all valid racks.
func racks() []int {
	var all []int
	for rack := -maxRack; rack <= maxRack; rack++ {
		all = append(all, rack)
	}
	return all
}

// check compares a list that a function returned with what it should be: with an error nothing, and never with room for more.
func check[T comparable](t *testing.T, what string, got []T, ge api.Errno, want []T, e api.Errno) {
	t.Helper()
	if e != api.OK {
		want = nil
	}
	if ge != e || !slices.Equal(got, want) {
		t.Errorf("%s = %v, %d, expected %v, %d", what, got, ge, want, e)
	}
	if cap(got) != len(got) {
		t.Errorf("%s has room for %d, expected %d", what, cap(got), len(got))
	}
}

func wantList(t *testing.T, b stacks.Beds, rack int, want []orders.Held, e api.Errno) {
	t.Helper()
	got, ge := orders.List(b, rack)
	check(t, "List with rack "+strconv.Itoa(rack), got, ge, want, e)
}

func wantBetween(t *testing.T, l []orders.Held, from, to int, want []yarns.Pass) {
	t.Helper()
	check(t, "Between from "+strconv.Itoa(from)+" to "+strconv.Itoa(to), orders.Between(l, from, to), api.OK, want, api.OK)
}

func wantStep(t *testing.T, b stacks.Beds, rack int, d api.Dir, want []orders.Cross, e api.Errno) {
	t.Helper()
	got, ge := orders.Step(b, rack, d)
	check(t, "Step with rack "+strconv.Itoa(rack)+", direction "+strconv.Itoa(int(d)), got, ge, want, e)
}

func wantMeets(t *testing.T, b stacks.Beds, rack int, d api.Dir, place int, want []yarns.Pass, e api.Errno) {
	t.Helper()
	got, ge := orders.Meets(b, rack, d, place)
	check(t, "Meets with rack "+strconv.Itoa(rack)+", direction "+strconv.Itoa(int(d))+", place "+strconv.Itoa(place), got, ge, want, e)
}

// held reads a list, such as "2.0 b2 8, 1.0 f2 10".
func held(s string) []orders.Held {
	var l []orders.Held
	for _, part := range split(s) {
		w := strings.Fields(part)
		at, err := strconv.Atoi(w[2])
		if err != nil {
			panic(part)
		}
		l = append(l, orders.Held{Id: loop(w[0]), Needle: needle(w[1]), Spot: at})
	}
	return l
}

// crosses reads crossings with the same sign, such as "2.1 1.0, 2.1 1.1".
func crosses(s string, sign int) []orders.Cross {
	var l []orders.Cross
	for _, part := range split(s) {
		ids := loops(part)
		l = append(l, orders.Cross{A: ids[0], B: ids[1], Sign: sign})
	}
	return l
}

// passes reads passes in one direction, those in front with a plus, such as "2.0+ 1.0".
func passes(s string, d api.Dir) []yarns.Pass {
	var l []yarns.Pass
	for _, w := range strings.Fields(s) {
		name, isFront := strings.CutSuffix(w, "+")
		l = append(l, yarns.Pass{Id: loop(name), Front: isFront, Dir: d})
	}
	return l
}

// split returns the parts of a text between commas.
func split(s string) []string {
	if s == "" {
		return nil
	}
	return strings.Split(s, ", ")
}

// ids returns the names of a list.
func ids(l []orders.Held) []api.Id {
	var all []api.Id
	for _, h := range l {
		all = append(all, h.Id)
	}
	return all
}

// TestExample is for P4.1 to P4.4: the examples of the chapter.
func TestExample(t *testing.T) {
	b := example()
	first := held("2.0 b2 8, 2.1 b2 8, 1.0 f2 10, 1.1 f2 10, 2.2 b4 16")
	wantList(t, b, 0, first, api.OK)
	wantList(t, b, 1, held("1.0 f2 10, 1.1 f2 10, 2.0 b2 12, 2.1 b2 12, 2.2 b4 20"), api.OK)
	wantStep(t, b, 0, api.Right, crosses("2.1 1.0, 2.1 1.1, 2.0 1.0, 2.0 1.1", -1), api.OK)
	wantStep(t, b, 1, api.Left, crosses("1.1 2.0, 1.0 2.0, 1.1 2.1, 1.0 2.1", 1), api.OK)
	wantBetween(t, first, -13, 11, passes("2.0+ 2.1+ 1.0 1.1", api.Right))
	wantBetween(t, first, 11, 9, passes("1.1 1.0", api.Left))
	wantMeets(t, b, 0, api.Right, 9, passes("2.1+ 2.0+", api.Left), api.OK)
	wantMeets(t, b, 0, api.Right, 11, passes("2.1+ 2.0+", api.Left), api.OK)
	wantMeets(t, b, 0, api.Right, 13, nil, api.OK)
	wantStep(t, b, 4, api.Right, nil, api.ErrRack)
}

// TestList is for P4.1: the loops of all kinds of beds, with every rack, in the order of their spots, and on a needle in that of its stack.
func TestList(t *testing.T) {
	random := rand.New(rand.NewSource(41))
	for _, b := range someBeds(random, 300) {
		for _, rack := range racks() {
			wantList(t, b, rack, slowList(b, rack), api.OK)
		}
	}
}

// TestListByHand is for P4.1: beds without loops, with loops on one bed alone, and at the ends of the beds.
func TestListByHand(t *testing.T) {
	for _, c := range []struct {
		beds stacks.Beds
		rack int
		want string
	}{
		{stacks.Beds{}, 0, ""}, {stacks.Beds{Front: make([][]api.Id, 40), Back: make([][]api.Id, 40)}, -4, ""}, {beds("f3", "b7"), 4, ""},
		{beds("f3 1.2 1.0 1.1", "f1 1.5"), 0, "1.5 f1 6, 1.2 f3 14, 1.0 f3 14, 1.1 f3 14"}, {beds("f3 1.2", "f1 1.5"), -4, "1.5 f1 6, 1.2 f3 14"},
		{beds("b3 1.2 1.0 1.1", "b1 1.5"), 0, "1.5 b1 4, 1.2 b3 12, 1.0 b3 12, 1.1 b3 12"}, {beds("b3 1.2", "b1 1.5"), -4, "1.5 b1 -12, 1.2 b3 -4"},
		{beds("f1 1.0", "f40 1.1", "b1 2.0", "b40 2.1"), -4, "2.0 b1 -12, 1.0 f1 6, 2.1 b40 144, 1.1 f40 162"},
		{beds("f1 1.0", "f40 1.1", "b1 2.0", "b40 2.1"), 0, "2.0 b1 4, 1.0 f1 6, 2.1 b40 160, 1.1 f40 162"},
		{beds("f1 1.0", "f40 1.1", "b1 2.0", "b40 2.1"), 1, "1.0 f1 6, 2.0 b1 8, 1.1 f40 162, 2.1 b40 164"},
		{beds("f1 1.0", "f40 1.1", "b1 2.0", "b40 2.1"), 4, "1.0 f1 6, 2.0 b1 20, 1.1 f40 162, 2.1 b40 176"},
	} {
		wantList(t, c.beds, c.rack, held(c.want), api.OK)
	}
}

// between returns loops of the front needles 1 to 9, with two on the third, and of one back needle, which goes past all of them from rack -4 to rack 4.
func between() stacks.Beds {
	return beds("f1 1.1", "f2 1.2", "f3 1.3 1.0", "f4 1.4", "f5 1.5", "f6 1.6", "f7 1.7", "f8 1.8", "f9 1.9", "b5 2.1 2.0")
}

// TestListBetween is for P4.1: where a back stack stands between front stacks, with every rack.
func TestListBetween(t *testing.T) {
	for rack, want := range map[int]string{
		-4: "2.1 2.0 1.1 1.2 1.3 1.0 1.4 1.5 1.6 1.7 1.8 1.9", -3: "1.1 2.1 2.0 1.2 1.3 1.0 1.4 1.5 1.6 1.7 1.8 1.9", -2: "1.1 1.2 2.1 2.0 1.3 1.0 1.4 1.5 1.6 1.7 1.8 1.9",
		-1: "1.1 1.2 1.3 1.0 2.1 2.0 1.4 1.5 1.6 1.7 1.8 1.9", 0: "1.1 1.2 1.3 1.0 1.4 2.1 2.0 1.5 1.6 1.7 1.8 1.9", 1: "1.1 1.2 1.3 1.0 1.4 1.5 2.1 2.0 1.6 1.7 1.8 1.9",
		2: "1.1 1.2 1.3 1.0 1.4 1.5 1.6 2.1 2.0 1.7 1.8 1.9", 3: "1.1 1.2 1.3 1.0 1.4 1.5 1.6 1.7 2.1 2.0 1.8 1.9", 4: "1.1 1.2 1.3 1.0 1.4 1.5 1.6 1.7 1.8 2.1 2.0 1.9",
	} {
		got, e := orders.List(between(), rack)
		if e != api.OK || !slices.Equal(ids(got), loops(want)) {
			t.Errorf("List with rack %d = %v, %d, expected %s", rack, ids(got), e, want)
		}
	}
}

// TestStepBetween is for P4.3: a back stack between front stacks crosses one after the other, in both directions, until the limits.
func TestStepBetween(t *testing.T) {
	right := []string{"2.0 1.1, 2.1 1.1", "2.0 1.2, 2.1 1.2", "2.0 1.3, 2.0 1.0, 2.1 1.3, 2.1 1.0", "2.0 1.4, 2.1 1.4", "2.0 1.5, 2.1 1.5", "2.0 1.6, 2.1 1.6", "2.0 1.7, 2.1 1.7", "2.0 1.8, 2.1 1.8"}
	left := []string{"1.1 2.1, 1.1 2.0", "1.2 2.1, 1.2 2.0", "1.0 2.1, 1.3 2.1, 1.0 2.0, 1.3 2.0", "1.4 2.1, 1.4 2.0", "1.5 2.1, 1.5 2.0", "1.6 2.1, 1.6 2.0", "1.7 2.1, 1.7 2.0", "1.8 2.1, 1.8 2.0"}
	for i := range 8 {
		wantStep(t, between(), i-4, api.Right, crosses(right[i], -1), api.OK)
		wantStep(t, between(), i-3, api.Left, crosses(left[i], 1), api.OK)
	}
	wantStep(t, between(), 4, api.Right, nil, api.ErrRack)
	wantStep(t, between(), -4, api.Left, nil, api.ErrRack)
}

// TestStepByHand is for P4.3: in which order several stacks cross, and where none do.
func TestStepByHand(t *testing.T) {
	several := beds("f2 1.0", "f3 1.1 1.2", "f4 1.3", "b2 2.0 2.1", "b3 2.2", "b4 2.3", "b5 2.4")
	corners := beds("f1 1.0", "f40 1.1", "b1 2.0", "b40 2.1")
	for _, c := range []struct {
		beds stacks.Beds
		rack int
		d    api.Dir
		want string
	}{
		{several, 0, api.Right, "2.3 1.3, 2.2 1.1, 2.2 1.2, 2.1 1.0, 2.0 1.0"}, {several, 1, api.Left, "1.0 2.0, 1.0 2.1, 1.2 2.2, 1.1 2.2, 1.3 2.3"},
		{several, 0, api.Left, "1.0 2.2, 1.2 2.3, 1.1 2.3, 1.3 2.4"}, {several, -1, api.Right, "2.4 1.3, 2.3 1.1, 2.3 1.2, 2.2 1.0"},
		{several, 2, api.Right, "2.1 1.3, 2.0 1.3"}, {several, 3, api.Right, ""}, {several, 4, api.Left, ""}, {several, -4, api.Right, ""}, {several, -3, api.Right, "2.4 1.0"},
		{corners, 0, api.Right, "2.1 1.1, 2.0 1.0"}, {corners, 1, api.Left, "1.0 2.0, 1.1 2.1"}, {corners, 0, api.Left, ""}, {corners, 1, api.Right, ""}, {corners, -1, api.Right, ""},
		{beds("b1 1.0"), 0, api.Right, ""}, {beds("f1 1.0"), 0, api.Right, ""}, {beds("b1 1.0", "f1"), 1, api.Left, ""}, {stacks.Beds{}, 0, api.Left, ""}, {stacks.Beds{}, -4, api.Right, ""},
	} {
		sign := 1
		if c.d == api.Right {
			sign = -1
		}
		wantStep(t, c.beds, c.rack, c.d, crosses(c.want, sign), api.OK)
	}
}

// TestStep is for P4.3: steps in both directions from every rack, with all kinds of beds.
func TestStep(t *testing.T) {
	random := rand.New(rand.NewSource(43))
	crossed, left := 0, 0
	for _, b := range someBeds(random, 300) {
		for _, rack := range racks() {
			for _, d := range bothDirs {
				if !isRack(behind(rack, d)) {
					wantStep(t, b, rack, d, nil, api.ErrRack)
					left++
					continue
				}
				want := slowStep(b, rack, d)
				wantStep(t, b, rack, d, want, api.OK)
				crossed += len(want)
			}
		}
	}
	if crossed < 10000 || left < 600 {
		t.Errorf("only %d crossings and %d steps that leave the limits", crossed, left)
	}
}

// TestBetween is for P4.2: the lists of all kinds of beds, and all places of carriers and spots.
func TestBetween(t *testing.T) {
	random := rand.New(rand.NewSource(42))
	for _, b := range someBeds(random, 20) {
		l := slowList(b, random.Intn(9)-4)
		for range 400 {
			from, to := allLeft+random.Intn(allRight-allLeft+1), allLeft+random.Intn(allRight-allLeft+1)
			wantBetween(t, l, from, to, slowBetween(l, from, to))
			wantBetween(t, l, to, from, slowBetween(l, to, from))
			wantBetween(t, l, from, from, nil)
		}
		wantBetween(t, l, allLeft, allRight, slowBetween(l, allLeft, allRight))
		wantBetween(t, l, allRight, allLeft, slowBetween(l, allRight, allLeft))
	}
}

// TestBetweenByHand is for P4.2: equal, turned and far away places; the places themselves do not count.
func TestBetweenByHand(t *testing.T) {
	first := held("2.0 b2 8, 2.1 b2 8, 1.0 f2 10, 1.1 f2 10, 2.2 b4 16")
	all := "2.0+ 2.1+ 1.0 1.1 2.2+"
	turned := "2.2+ 1.1 1.0 2.1+ 2.0+"
	for _, c := range []struct {
		from, to int
		want     string
	}{
		{8, 16, "1.0 1.1"}, {16, 8, "1.1 1.0"}, {8, 17, "1.0 1.1 2.2+"}, {7, 16, "2.0+ 2.1+ 1.0 1.1"}, {16, 7, "1.1 1.0 2.1+ 2.0+"}, {10, 8, ""}, {8, 10, ""}, {7, 9, "2.0+ 2.1+"},
		{9, 7, "2.1+ 2.0+"}, {9, 11, "1.0 1.1"}, {11, 15, ""}, {15, 17, "2.2+"}, {17, 15, "2.2+"}, {17, 179, ""}, {179, 17, ""}, {-13, 7, ""}, {7, 8, ""}, {8, 7, ""},
		{8, 8, ""}, {9, 9, ""}, {10, 10, ""}, {0, 0, ""}, {-13, -13, ""}, {math.MinInt, math.MinInt, ""}, {math.MaxInt, math.MaxInt, ""},
		{-13, 179, all}, {179, -13, turned}, {math.MinInt, math.MaxInt, all}, {math.MaxInt, math.MinInt, turned}, {-1 << 62, 1 << 62, all}, {math.MaxInt, 7, turned},
		{9, math.MaxInt, "1.0 1.1 2.2+"}, {math.MaxInt, 9, "2.2+ 1.1 1.0"}, {9, math.MinInt, "2.1+ 2.0+"}, {math.MinInt, 9, "2.0+ 2.1+"}, {math.MaxInt, math.MaxInt - 1, ""}, {math.MinInt, -1, ""},
	} {
		d := api.Left
		if c.to > c.from {
			d = api.Right
		}
		wantBetween(t, first, c.from, c.to, passes(c.want, d))
		wantBetween(t, nil, c.from, c.to, nil)
		wantBetween(t, []orders.Held{}, c.from, c.to, nil)
	}
}

// TestBetweenOfAnyList is for P4.2: lists that are no order, with loops that are there twice, names, needles and spots that are not valid.
func TestBetweenOfAnyList(t *testing.T) {
	odd := []orders.Held{
		{Id: loop("1.0"), Needle: front(5), Spot: 30}, {Id: loop("1.0"), Needle: back(5), Spot: 3}, {Spot: 20}, {Id: api.Id{Yarn: 200, N: -5}, Needle: api.Needle{Bed: 2, At: 1}, Spot: 11},
		{Id: loop("1.0"), Needle: front(5), Spot: 30}, {Id: loop("0.0"), Needle: api.Needle{Bed: 255, At: math.MinInt}, Spot: 9}, {Needle: api.Needle{Bed: api.Back, At: math.MaxInt}, Spot: 7},
	}
	right := []yarns.Pass{
		{Id: loop("1.0"), Dir: api.Right}, {Id: loop("1.0"), Front: true, Dir: api.Right}, {Dir: api.Right}, {Id: api.Id{Yarn: 200, N: -5}, Dir: api.Right},
		{Id: loop("1.0"), Dir: api.Right}, {Id: loop("0.0"), Dir: api.Right}, {Front: true, Dir: api.Right},
	}
	var left []yarns.Pass
	for i := range right {
		p := right[len(right)-1-i]
		p.Dir = api.Left
		left = append(left, p)
	}
	wantBetween(t, odd, 2, 31, right)
	wantBetween(t, odd, 31, 2, left)
	wantBetween(t, odd, 10, 21, right[2:4])
	wantBetween(t, odd, 21, 10, left[3:5])

	random := rand.New(rand.NewSource(44))
	passed := 0
	for range 3000 {
		l := make([]orders.Held, random.Intn(30))
		for i := range l {
			id := api.Id{Yarn: uint8(random.Intn(256)), N: random.Int() - random.Int()}
			l[i] = orders.Held{Id: id, Needle: api.Needle{Bed: api.Bed(random.Intn(4)), At: random.Intn(60) - 10}, Spot: anyNumber(random)}
		}
		from, to := anyNumber(random), anyNumber(random)
		want := slowBetween(l, from, to)
		wantBetween(t, l, from, to, want)
		passed += len(want)
	}
	if passed < 1000 {
		t.Errorf("only %d passes", passed)
	}
}

// anyNumber returns a number that is near, or far away.
func anyNumber(random *rand.Rand) int {
	if random.Intn(3) == 0 {
		return farNumbers[random.Intn(len(farNumbers))]
	}
	return random.Intn(40) - 20
}

// TestMeets is for P4.4: all odd places, with steps in both directions from every rack, with all kinds of beds.
func TestMeets(t *testing.T) {
	random := rand.New(rand.NewSource(45))
	met, none := 0, 0
	for _, b := range someBeds(random, 40) {
		for _, rack := range racks() {
			for _, d := range bothDirs {
				for place := allLeft - 14; place <= allRight+14; place += 1 + random.Intn(4) {
					e := api.OK
					switch {
					case !isRack(behind(rack, d)):
						e = api.ErrRack
					case place%2 == 0:
						e = api.ErrArg
					}
					want := slowMeets(b, rack, d, place)
					wantMeets(t, b, rack, d, place, want, e)
					if e == api.OK && len(want) > 0 {
						met++
					} else if e == api.OK {
						none++
					}
				}
			}
		}
	}
	if met < 1000 || none < 1000 {
		t.Errorf("only %d places are passed, and %d are not", met, none)
	}
}

// TestMeetsByHand is for P4.4: which places a stack passes, from one end to the other; front stacks stand still.
func TestMeetsByHand(t *testing.T) {
	b := beds("f2 1.0", "f3 1.1", "b3 2.0 2.1", "b5 2.2")
	corners := beds("f1 1.0", "f40 1.1", "b1 2.0", "b40 2.1 2.2")
	for _, c := range []struct {
		beds  stacks.Beds
		rack  int
		d     api.Dir
		place int
		want  string
	}{
		{b, 0, api.Right, 11, ""}, {b, 0, api.Right, 13, "2.1+ 2.0+"}, {b, 0, api.Right, 15, "2.1+ 2.0+"}, {b, 0, api.Right, 17, ""}, {b, 0, api.Right, 19, ""}, {b, 0, api.Right, 21, "2.2+"},
		{b, 0, api.Right, 23, "2.2+"}, {b, 0, api.Right, 25, ""}, {b, 0, api.Left, 7, ""}, {b, 0, api.Left, 9, "2.0+ 2.1+"}, {b, 0, api.Left, 11, "2.0+ 2.1+"}, {b, 0, api.Left, 13, ""},
		{b, 0, api.Left, 15, ""}, {b, 0, api.Left, 17, "2.2+"}, {b, 0, api.Left, 19, "2.2+"}, {b, 0, api.Left, 21, ""}, {b, 3, api.Right, 25, "2.1+ 2.0+"}, {b, 3, api.Right, 23, ""},
		{b, -3, api.Left, -1, "2.0+ 2.1+"}, {b, -3, api.Left, -3, "2.0+ 2.1+"}, {b, -3, api.Left, -5, ""}, {b, -3, api.Left, 1, ""}, {b, -3, api.Left, 7, "2.2+"},
		{corners, -4, api.Right, -11, "2.0+"}, {corners, -4, api.Right, -9, "2.0+"}, {corners, -4, api.Right, -13, ""}, {corners, -4, api.Right, -7, ""}, {corners, -3, api.Left, -11, "2.0+"},
		{corners, 3, api.Right, 173, "2.2+ 2.1+"}, {corners, 3, api.Right, 175, "2.2+ 2.1+"}, {corners, 3, api.Right, 177, ""}, {corners, 3, api.Right, 171, ""}, {corners, 4, api.Left, 175, "2.1+ 2.2+"},
		{corners, 0, api.Right, 1, ""}, {corners, 0, api.Right, -1, ""}, {corners, 0, api.Right, math.MaxInt, ""}, {corners, 0, api.Left, math.MaxInt, ""}, {corners, 0, api.Right, math.MinInt + 1, ""},
		{corners, 0, api.Left, math.MinInt + 1, ""}, {corners, 0, api.Right, 1<<32 + 5, ""}, {corners, 0, api.Right, 1<<62 + 5, ""}, {corners, 0, api.Right, 256 + 5, ""}, {corners, 0, api.Right, 5, "2.0+"},
		{beds("f2 1.0"), 0, api.Right, 9, ""}, {beds("f2 1.0"), 0, api.Left, 11, ""}, {stacks.Beds{}, 0, api.Right, 9, ""}, {beds("b2"), 0, api.Right, 9, ""},
	} {
		opposite := api.Left
		if c.d == api.Left {
			opposite = api.Right
		}
		wantMeets(t, c.beds, c.rack, c.d, c.place, passes(c.want, opposite), api.OK)
	}
}

// TestEvenPlaces is for P4.4: no carrier stands at an even place, whether a stack passes it or not.
func TestEvenPlaces(t *testing.T) {
	for _, place := range []int{0, 2, -2, 8, 10, 12, 14, 16, -12, -14, 178, 180, 1 << 32, 1 << 62, -1 << 62, math.MinInt, math.MaxInt - 1} {
		for _, d := range bothDirs {
			for _, b := range goodBeds() {
				wantMeets(t, b, 0, d, place, nil, api.ErrArg)
			}
			wantMeets(t, example(), 4, api.Right, place, nil, api.ErrRack)
			wantMeets(t, example(), -4, api.Left, place, nil, api.ErrRack)
		}
	}
}

// TestBadBeds is for P4.1, P4.3 and P4.4: the error of stacks.Check comes before all others.
func TestBadBeds(t *testing.T) {
	for i, c := range allBadBeds() {
		if e := stacks.Check(c.beds); e != c.e {
			t.Fatalf("%d: Check = %d, expected %d", i, e, c.e)
		}
		for _, rack := range append(racks(), badRacks...) {
			wantList(t, c.beds, rack, nil, c.e)
			for _, d := range []api.Dir{api.Left, api.Right, 2, 255} {
				wantStep(t, c.beds, rack, d, nil, c.e)
				wantMeets(t, c.beds, rack, d, 9, nil, c.e)
				wantMeets(t, c.beds, rack, d, 8, nil, c.e)
			}
		}
	}
}

// TestBadRacks is for P4.1, P4.3 and P4.4: racks that are out of range, also those from which a step would lead into it; this comes before directions that are none, and even places.
func TestBadRacks(t *testing.T) {
	for _, b := range goodBeds() {
		for _, rack := range badRacks {
			wantList(t, b, rack, nil, api.ErrRack)
			for _, d := range []api.Dir{api.Left, api.Right, 2, 3, 255} {
				wantStep(t, b, rack, d, nil, api.ErrRack)
				wantMeets(t, b, rack, d, 9, nil, api.ErrRack)
				wantMeets(t, b, rack, d, 8, nil, api.ErrRack)
			}
		}
		wantStep(t, b, 4, api.Right, nil, api.ErrRack)
		wantStep(t, b, -4, api.Left, nil, api.ErrRack)
		for _, place := range []int{9, 8, 21, 20, 0, 175, 177, math.MaxInt, math.MinInt} {
			wantMeets(t, b, 4, api.Right, place, nil, api.ErrRack)
			wantMeets(t, b, -4, api.Left, place, nil, api.ErrRack)
		}
	}
}

// TestBadDirections is for P4.3 and P4.4: directions that are neither Left nor Right, from every rack.
func TestBadDirections(t *testing.T) {
	for _, b := range []stacks.Beds{{}, example(), between()} {
		for _, rack := range racks() {
			for d := 2; d <= math.MaxUint8; d++ {
				wantStep(t, b, rack, api.Dir(d), nil, api.ErrArg)
				wantMeets(t, b, rack, api.Dir(d), 9, nil, api.ErrArg)
				wantMeets(t, b, rack, api.Dir(d), 8, nil, api.ErrArg)
			}
		}
	}
}

// stepped is a step that the tests of consequences do.
type stepped struct {
	beds stacks.Beds
	rack int
	d    api.Dir
}

// allSteps returns the steps within the limits with all kinds of beds.
func allSteps(seed int64, more int) []stepped {
	var all []stepped
	for _, b := range append(someBeds(rand.New(rand.NewSource(seed)), more), between()) {
		for _, rack := range racks() {
			for _, d := range bothDirs {
				if isRack(behind(rack, d)) {
					all = append(all, stepped{b, rack, d})
				}
			}
		}
	}
	return all
}

// TestCrossingsLead is for P4.5: the crossings of a step, done one after the other, lead from the order before to the order behind, and each of them is of neighbours.
func TestCrossingsLead(t *testing.T) {
	crossed := 0
	for _, s := range allSteps(46, 200) {
		before, e := orders.List(s.beds, s.rack)
		after, e2 := orders.List(s.beds, behind(s.rack, s.d))
		crossings, e3 := orders.Step(s.beds, s.rack, s.d)
		if e != api.OK || e2 != api.OK || e3 != api.OK {
			t.Fatalf("%v: the errors are %d, %d and %d", s, e, e2, e3)
		}
		way := ids(before)
		for _, c := range crossings {
			i := slices.Index(way, c.A)
			if i < 0 || i+1 == len(way) || way[i+1] != c.B {
				t.Fatalf("%v: %v are no neighbours in %v", s, c, way)
			}
			way[i], way[i+1] = c.B, c.A
			crossed++
		}
		if !slices.Equal(way, ids(after)) {
			t.Errorf("%v: the crossings lead to %v, expected %v", s, way, ids(after))
		}
	}
	if crossed < 10000 {
		t.Errorf("only %d crossings", crossed)
	}
}

// TestStepBack is for P4.5: a step and the step back have the same crossings in the opposite order, with A and B exchanged and the other sign.
func TestStepBack(t *testing.T) {
	for _, s := range allSteps(47, 200) {
		there, e := orders.Step(s.beds, s.rack, s.d)
		if e != api.OK {
			t.Fatalf("%v: the error is %d", s, e)
		}
		var want []orders.Cross
		for _, c := range slices.Backward(there) {
			want = append(want, orders.Cross{A: c.B, B: c.A, Sign: -c.Sign})
		}
		wantStep(t, s.beds, behind(s.rack, s.d), other(s.d), want, api.OK)
	}
}

// TestMeetsBack is for P4.5: what a carrier meets in a step is the inverse of what it meets in the step back.
func TestMeetsBack(t *testing.T) {
	met := 0
	for _, s := range allSteps(48, 20) {
		for place := allLeft; place <= allRight; place += 2 {
			there, e := orders.Meets(s.beds, s.rack, s.d, place)
			if e != api.OK {
				t.Fatalf("%v: the error is %d", s, e)
			}
			wantMeets(t, s.beds, behind(s.rack, s.d), other(s.d), place, yarns.Inverse(there), api.OK)
			if met += len(there); len(yarns.Reduce(there)) != len(there) {
				t.Errorf("%v: %v is not reduced", s, there)
			}
		}
	}
	if met < 1000 {
		t.Errorf("only %d loops are met", met)
	}
}

// roomy returns the same beds, every slice of which has room behind it that holds something.
func roomy(b stacks.Beds) stacks.Beds {
	trap := loops("5.6 5.7 5.8")
	bed := func(list [][]api.Id) [][]api.Id {
		own := make([][]api.Id, 0, len(list)+3)
		for _, l := range list {
			own = append(own, slices.Concat(l, trap)[:len(l)])
		}
		return append(own, slices.Clone(trap), slices.Clone(trap), slices.Clone(trap))[:len(list)]
	}
	return stacks.Beds{Front: bed(b.Front), Back: bed(b.Back)}
}

// room returns the loops of beds and of all the room behind their slices.
func room(b stacks.Beds) []api.Id {
	var all []api.Id
	for _, list := range [][][]api.Id{b.Front, b.Back} {
		for _, l := range list[:cap(list)] {
			all = append(all, l[:cap(l)]...)
			all = append(all, api.Id{N: cap(l)})
		}
	}
	return all
}

// checkMemory lets a function return a list twice, scribbles on the first one, and looks whether the second one or an argument has changed.
func checkMemory[T comparable](t *testing.T, name string, call func() ([]T, api.Errno), junk T, unchanged func() bool) {
	t.Helper()
	one, e := call()
	two, e2 := call()
	want := slices.Clone(one)
	for i := range one {
		one[i] = junk
	}
	if e != api.OK || e2 != api.OK || len(one) == 0 || slices.Contains(want, junk) {
		t.Fatalf("%s = %v, %d and %v, %d", name, want, e, two, e2)
	}
	check(t, name+" for the second time", two, e2, want, api.OK)
	if !unchanged() {
		t.Errorf("%s: an argument has changed", name)
	}
}

// TestMemory is for R1 and R4: no argument is changed, and no memory is shared with one, or between two results.
func TestMemory(t *testing.T) {
	b := roomy(example())
	was := room(b)
	same := func() bool { return slices.Equal(room(b), was) }
	junk := api.Id{Yarn: 9, N: 9}
	checkMemory(t, "List", func() ([]orders.Held, api.Errno) { return orders.List(b, 0) }, orders.Held{Id: junk}, same)
	for _, d := range bothDirs {
		rack := 1 - int(d)
		checkMemory(t, "Step", func() ([]orders.Cross, api.Errno) { return orders.Step(b, rack, d) }, orders.Cross{A: junk}, same)
		checkMemory(t, "Meets", func() ([]yarns.Pass, api.Errno) { return orders.Meets(b, rack, d, 11) }, yarns.Pass{Id: junk}, same)
	}
	l := held("2.0 b2 8, 2.1 b2 8, 1.0 f2 10, 1.1 f2 10, 2.2 b4 16, 5.6 b4 9, 5.7 f4 9")
	before := slices.Clone(l)
	sameList := func() bool { return slices.Equal(l, before) }
	for _, ends := range [][2]int{{7, 11}, {11, 7}} {
		checkMemory(t, "Between", func() ([]yarns.Pass, api.Errno) { return orders.Between(l[:5], ends[0], ends[1]), api.OK }, yarns.Pass{Id: junk}, sameList)
	}
}

// TestManyLoops is for P4.1 and P4.3: beds that are full, and every step with them.
func TestManyLoops(t *testing.T) {
	b := fullBeds()
	for _, rack := range racks() {
		l, e := orders.List(b, rack)
		if e != api.OK || len(l) != 2*needleCount*maxStack {
			t.Errorf("List with rack %d has %d loops, %d", rack, len(l), e)
		}
	}
	// From rack r to r + 1, the back needle n crosses the front needle n + r.
	for rack := -maxRack; rack < maxRack; rack++ {
		crossings, e := orders.Step(b, rack, api.Right)
		if want := (needleCount - max(rack, -rack)) * maxStack * maxStack; e != api.OK || len(crossings) != want {
			t.Errorf("Step with rack %d has %d crossings, %d, expected %d", rack, len(crossings), e, want)
		}
	}
}
