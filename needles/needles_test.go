package needles_test

import (
	"math"
	"strconv"
	"testing"

	"gansey/api"
	"gansey/needles"
)

// The tests count the needles and racks themselves, so that they do not depend on what they test.
const (
	needleCount = 40
	lastRack    = 4
)

func front(at int) api.Needle { return api.Needle{Bed: api.Front, At: at} }

func back(at int) api.Needle { return api.Needle{Bed: api.Back, At: at} }

// allNeedles returns all valid needles.
func allNeedles() []api.Needle {
	var all []api.Needle
	for at := 1; at <= needleCount; at++ {
		all = append(all, front(at), back(at))
	}
	return all
}

// position returns the position of a valid needle with a valid rack.
func position(n api.Needle, rack int) int {
	if n.Bed == api.Back {
		return n.At + rack
	}
	return n.At
}

// wantSpot returns the spot of a valid needle with a valid rack.
func wantSpot(n api.Needle, rack int) int {
	if n.Bed == api.Back {
		return 4 * position(n, rack)
	}
	return 4*position(n, rack) + 2
}

// badNeedles are needles that are not valid.
var badNeedles = []api.Needle{
	{}, front(0), back(0), front(41), back(41), front(-1), back(-1), front(44), back(-3),
	{Bed: 2, At: 1}, {Bed: 2, At: 40}, {Bed: 3, At: 7}, {Bed: 255, At: 20}, {Bed: 2}, {Bed: 255, At: -1},
	front(math.MaxInt), front(math.MinInt), back(math.MaxInt), back(math.MinInt),
	front(1 << 32), back(1<<32 + 1), front(1<<62 + 1), back(1<<62 + 1), front(1<<8 + 1), back(1<<8 + 1),
}

// badRacks are racks that are not valid.
var badRacks = []int{-5, 5, -6, 6, 40, -40, 1 << 8, 1 << 32, 1 << 62, -1 << 62, math.MaxInt, math.MinInt}

// TestCheck is for P1.1.
func TestCheck(t *testing.T) {
	for _, n := range allNeedles() {
		if e := needles.Check(n); e != api.OK {
			t.Errorf("Check(%v) = %d, expected OK", n, e)
		}
	}
	for _, n := range badNeedles {
		if e := needles.Check(n); e != api.ErrArg {
			t.Errorf("Check(%v) = %d, expected ErrArg", n, e)
		}
	}
}

// TestSpotExamples is for P1.2: the values of the chapter, and both ends of the beds.
func TestSpotExamples(t *testing.T) {
	for _, c := range []struct {
		n          api.Needle
		rack, want int
	}{
		{front(1), 0, 6}, {back(1), 0, 4}, {back(40), 0, 160}, {back(1), -4, -12},
		{front(40), 0, 162}, {front(40), 4, 162}, {front(1), -4, 6}, {back(40), 4, 176},
		{back(40), -4, 144}, {back(1), 4, 20}, {back(4), -4, 0}, {back(3), -4, -4},
	} {
		if got := needles.Spot(c.n, c.rack); got != c.want {
			t.Errorf("Spot(%v, %d) = %d, expected %d", c.n, c.rack, got, c.want)
		}
	}
}

// TestSpot is for P1.2: every needle with every rack.
func TestSpot(t *testing.T) {
	for rack := -lastRack; rack <= lastRack; rack++ {
		for _, n := range allNeedles() {
			if got := needles.Spot(n, rack); got != wantSpot(n, rack) {
				t.Errorf("Spot(%v, %d) = %d, expected %d", n, rack, got, wantSpot(n, rack))
			}
		}
	}
}

// TestSpotOfNothing is for P1.2: needles and racks that are not valid.
func TestSpotOfNothing(t *testing.T) {
	for _, n := range badNeedles {
		for rack := -lastRack; rack <= lastRack; rack++ {
			if got := needles.Spot(n, rack); got != 0 {
				t.Errorf("Spot(%v, %d) = %d, expected 0", n, rack, got)
			}
		}
	}
	for _, rack := range badRacks {
		for _, n := range append(allNeedles(), badNeedles...) {
			if got := needles.Spot(n, rack); got != 0 {
				t.Errorf("Spot(%v, %d) = %d, expected 0", n, rack, got)
			}
		}
	}
}

// wantAt compares what At returns with what it should.
func wantAt(t *testing.T, spot, rack int, want api.Needle, e api.Errno) {
	t.Helper()
	if got, ge := needles.At(spot, rack); got != want || ge != e {
		t.Errorf("At(%d, %d) = %v, %d, expected %v, %d", spot, rack, got, ge, want, e)
	}
}

// TestAtExamples is for P1.2: the values of the chapter, and both ends of the beds.
func TestAtExamples(t *testing.T) {
	wantAt(t, 6, 3, front(1), api.OK)
	wantAt(t, 16, 3, back(1), api.OK)
	wantAt(t, 4, 3, api.Needle{}, api.ErrNone)
	wantAt(t, 0, -4, back(4), api.OK)
	wantAt(t, 0, 0, api.Needle{}, api.ErrNone)
	wantAt(t, -12, -4, back(1), api.OK)
	wantAt(t, -12, -3, api.Needle{}, api.ErrNone)
	wantAt(t, 176, 4, back(40), api.OK)
	wantAt(t, 176, 3, api.Needle{}, api.ErrNone)
	wantAt(t, 2, 0, api.Needle{}, api.ErrNone)
	wantAt(t, 162, -4, front(40), api.OK)
	wantAt(t, 166, 4, api.Needle{}, api.ErrNone)
}

// TestAt is for P1.2: every spot, and all around them, with every rack.
func TestAt(t *testing.T) {
	for rack := -lastRack; rack <= lastRack; rack++ {
		owners := map[int]api.Needle{}
		for _, n := range allNeedles() {
			owners[wantSpot(n, rack)] = n
		}
		for spot := -250; spot <= 450; spot++ {
			if n, ok := owners[spot]; ok {
				wantAt(t, spot, rack, n, api.OK)
			} else {
				wantAt(t, spot, rack, api.Needle{}, api.ErrNone)
			}
		}
	}
}

// TestAtFarSpots is for P1.2: spots that would be those of needles if the numbers overflowed.
func TestAtFarSpots(t *testing.T) {
	for rack := -lastRack; rack <= lastRack; rack++ {
		for _, far := range []int{math.MinInt, 1 << 8, 1 << 16, 1 << 32, 1 << 62, -1 << 62, -1 << 32} {
			for _, n := range allNeedles() {
				wantAt(t, far+wantSpot(n, rack), rack, api.Needle{}, api.ErrNone)
			}
		}
		wantAt(t, math.MaxInt, rack, api.Needle{}, api.ErrNone)
		wantAt(t, math.MaxInt-1, rack, api.Needle{}, api.ErrNone)
	}
}

// TestAtBadRacks is for P1.2: the rack is looked at before the spot.
func TestAtBadRacks(t *testing.T) {
	for _, rack := range badRacks {
		for _, spot := range []int{6, 4, 160, 162, 7, 0, -12, 4 + 4*rack, math.MaxInt, math.MinInt} {
			wantAt(t, spot, rack, api.Needle{}, api.ErrRack)
		}
	}
}

// wantOpposite compares what Opposite returns with what it should.
func wantOpposite(t *testing.T, n api.Needle, rack int, want api.Needle, e api.Errno) {
	t.Helper()
	if got, ge := needles.Opposite(n, rack); got != want || ge != e {
		t.Errorf("Opposite(%v, %d) = %v, %d, expected %v, %d", n, rack, got, ge, want, e)
	}
}

// TestOppositeExamples is for P1.3: the values of the chapter, and both ends of the beds.
func TestOppositeExamples(t *testing.T) {
	wantOpposite(t, front(4), 3, back(1), api.OK)
	wantOpposite(t, back(1), 3, front(4), api.OK)
	wantOpposite(t, front(3), 3, api.Needle{}, api.ErrRack)
	wantOpposite(t, front(1), 0, back(1), api.OK)
	wantOpposite(t, back(40), 0, front(40), api.OK)
	wantOpposite(t, back(40), 1, api.Needle{}, api.ErrRack)
	wantOpposite(t, front(40), -1, api.Needle{}, api.ErrRack)
	wantOpposite(t, back(1), -1, api.Needle{}, api.ErrRack)
	wantOpposite(t, front(1), -4, back(5), api.OK)
	wantOpposite(t, back(36), 4, front(40), api.OK)
}

// TestOpposite is for P1.3: every needle with every rack; the one opposite is looked for among all needles.
func TestOpposite(t *testing.T) {
	for rack := -lastRack; rack <= lastRack; rack++ {
		for _, n := range allNeedles() {
			want, e := api.Needle{}, api.ErrRack
			for _, m := range allNeedles() {
				if m.Bed != n.Bed && position(m, rack) == position(n, rack) {
					want, e = m, api.OK
				}
			}
			wantOpposite(t, n, rack, want, e)
		}
	}
}

// TestOppositeErrors is for P1.3: the needle is looked at before the rack.
func TestOppositeErrors(t *testing.T) {
	for _, n := range badNeedles {
		for rack := -lastRack; rack <= lastRack; rack++ {
			wantOpposite(t, n, rack, api.Needle{}, api.ErrArg)
		}
		for _, rack := range badRacks {
			wantOpposite(t, n, rack, api.Needle{}, api.ErrArg)
		}
	}
	for _, n := range allNeedles() {
		for _, rack := range badRacks {
			wantOpposite(t, n, rack, api.Needle{}, api.ErrRack)
		}
	}
}

// TestText is for P1.4: the texts of all needles, and of what is none.
func TestText(t *testing.T) {
	for at := 1; at <= needleCount; at++ {
		if got, want := needles.Text(front(at)), "f"+strconv.Itoa(at); got != want {
			t.Errorf("Text of front needle %d = %q, expected %q", at, got, want)
		}
		if got, want := needles.Text(back(at)), "b"+strconv.Itoa(at); got != want {
			t.Errorf("Text of back needle %d = %q, expected %q", at, got, want)
		}
	}
	for _, n := range badNeedles {
		if got := needles.Text(n); got != "" {
			t.Errorf("Text(%v) = %q, expected an empty text", n, got)
		}
	}
}

// TestParse is for P1.4: the texts of all needles.
func TestParse(t *testing.T) {
	for at := 1; at <= needleCount; at++ {
		if n, e := needles.Parse("f" + strconv.Itoa(at)); n != front(at) || e != api.OK {
			t.Errorf("Parse(f%d) = %v, %d", at, n, e)
		}
		if n, e := needles.Parse("b" + strconv.Itoa(at)); n != back(at) || e != api.OK {
			t.Errorf("Parse(b%d) = %v, %d", at, n, e)
		}
	}
}

// wantForm checks that a text is that of no needle.
func wantForm(t *testing.T, s string) {
	t.Helper()
	if n, e := needles.Parse(s); n != (api.Needle{}) || e != api.ErrForm {
		t.Errorf("Parse(%q) = %v, %d, expected ErrForm", s, n, e)
	}
}

// TestParseErrors is for P1.4: texts that are those of no needle.
func TestParseErrors(t *testing.T) {
	for _, s := range []string{
		"", "f", "b", "1", "12", "fb", "bf", "ff1", "fb1", "f1b", "f1f1", "f1,", "f1 b1",
		"f0", "b0", "f00", "f41", "b41", "f100", "b400", "f-1", "b-0", "f+1", "b+40",
		"g1", "a1", "F1", "B1", "x40", "\x001", "\x011", "\xff1", "é1",
		" f1", "f1 ", "f 1", "f1\n", "\tf1", "f1\x00", "f1.0", "f1e0", "f0x1", "f1_0", "f0b1", "f\u0661", "f\uff11", "f1\xff",
		"f257", "b4294967297", "f18446744073709551617", "b18446744073709551656", "f99999999999999999999999999",
		"f9223372036854775807", "f9223372036854775808", "f-9223372036854775808", "b-18446744073709551615",
	} {
		wantForm(t, s)
	}
	for at := 1; at <= needleCount; at++ {
		for _, bed := range []string{"f", "b"} {
			wantForm(t, bed+"0"+strconv.Itoa(at))
			wantForm(t, bed+"00"+strconv.Itoa(at))
			wantForm(t, bed+"+"+strconv.Itoa(at))
			wantForm(t, bed+"-"+strconv.Itoa(at))
		}
	}
}

// TestParseShortTexts is for P1.4: of all texts of up to three bytes of an alphabet, those of needles are read, and no others.
func TestParseShortTexts(t *testing.T) {
	texts := map[string]api.Needle{}
	for at := 1; at <= needleCount; at++ {
		texts["f"+strconv.Itoa(at)] = front(at)
		texts["b"+strconv.Itoa(at)] = back(at)
	}
	var try func(s string)
	try = func(s string) {
		if n, ok := texts[s]; ok {
			if got, e := needles.Parse(s); got != n || e != api.OK {
				t.Errorf("Parse(%q) = %v, %d, expected %v", s, got, e, n)
			}
		} else {
			wantForm(t, s)
		}
		if len(s) == 3 {
			return
		}
		for _, c := range "fbgFB0123456789+- x_." {
			try(s + string(c))
		}
	}
	try("")
}

// TestSpotsDiffer is for P1.5: for a rack different needles have different spots, which are even and between the ends.
func TestSpotsDiffer(t *testing.T) {
	least, greatest := math.MaxInt, math.MinInt
	for rack := -lastRack; rack <= lastRack; rack++ {
		owners := map[int]api.Needle{}
		for _, n := range allNeedles() {
			spot := needles.Spot(n, rack)
			if other, ok := owners[spot]; ok {
				t.Errorf("with rack %d, %v and %v have the spot %d", rack, other, n, spot)
			}
			owners[spot] = n
			least, greatest = min(least, spot), max(greatest, spot)
			if spot%2 != 0 {
				t.Errorf("with rack %d, the spot of %v is %d, which is odd", rack, n, spot)
			}
		}
	}
	if least != -12 || greatest != 176 {
		t.Errorf("the spots are from %d to %d, expected -12 to 176", least, greatest)
	}
}

// TestEnds is for P1.5: LeftEnd is less than every spot, RightEnd greater, by an odd number.
func TestEnds(t *testing.T) {
	if needles.LeftEnd != -13 || needles.RightEnd != 179 {
		t.Errorf("the ends are %d and %d, expected -13 and 179", needles.LeftEnd, needles.RightEnd)
	}
	for rack := -lastRack; rack <= lastRack; rack++ {
		for _, n := range allNeedles() {
			left := needles.Spot(n, rack) - needles.LeftEnd
			right := needles.RightEnd - needles.Spot(n, rack)
			if left <= 0 || left%2 != 1 || right <= 0 || right%2 != 1 {
				t.Errorf("with rack %d, %v is %d and %d from the ends", rack, n, left, right)
			}
		}
	}
}

// TestInverses is for P1.5: At inverts Spot, Parse inverts Text, and Opposite is its own inverse.
func TestInverses(t *testing.T) {
	for rack := -lastRack; rack <= lastRack; rack++ {
		pairs := 0
		for _, n := range allNeedles() {
			wantAt(t, needles.Spot(n, rack), rack, n, api.OK)
			if m, e := needles.Parse(needles.Text(n)); m != n || e != api.OK {
				t.Errorf("Parse of the text of %v = %v, %d", n, m, e)
			}
			other, e := needles.Opposite(n, rack)
			if e != api.OK {
				continue
			}
			pairs++
			wantOpposite(t, other, rack, n, api.OK)
			by := needles.Spot(other, rack) - needles.Spot(n, rack)
			if n.Bed == api.Back {
				by = -by
			}
			if by != -2 {
				t.Errorf("with rack %d, the spot of the back needle of %v and %v is %d more, expected -2", rack, n, other, by)
			}
		}
		if want := 2 * (needleCount - max(rack, -rack)); pairs != want {
			t.Errorf("with rack %d, %d needles have an opposite, expected %d", rack, pairs, want)
		}
	}
}
