package operations_test

import (
	"fmt"
	"math"
	"math/rand"
	"regexp"
	"slices"
	"strconv"
	"strings"
	"testing"

	"gansey/api"
	"gansey/operations"
)

// The tests count the limits themselves, so that they do not depend on what they test.
const (
	needleCount = 40
	yarnCount   = 6
	lastRack    = 4
	maxOps      = 4096
)

func front(at int) api.Needle { return api.Needle{Bed: api.Front, At: at} }

func back(at int) api.Needle { return api.Needle{Bed: api.Back, At: at} }

// line is an operation and its text.
type line struct {
	o operations.Op
	s string
}

// needleTexts returns all needles with their texts.
func needleTexts() map[string]api.Needle {
	all := map[string]api.Needle{}
	for at := 1; at <= needleCount; at++ {
		all["f"+strconv.Itoa(at)] = front(at)
		all["b"+strconv.Itoa(at)] = back(at)
	}
	return all
}

// dirTexts are the directions with their texts.
var dirTexts = map[string]api.Dir{"left": api.Left, "right": api.Right}

// stitchTexts are the kinds that use a Dir, a needle and a yarn, with their words.
var stitchTexts = map[string]operations.Kind{"knit": operations.Knit, "tuck": operations.Tuck, "miss": operations.Miss}

// moveTexts are the kinds that use a needle, with their words.
var moveTexts = map[string]operations.Kind{"xfer": operations.Xfer, "drop": operations.Drop}

// allLines returns all valid operations with their texts, as the table of the chapter says them, sorted by text.
func allLines() []line {
	var all []line
	add := func(o operations.Op, words ...any) {
		s := strings.TrimSuffix(fmt.Sprintln(words...), "\n")
		all = append(all, line{o, s})
	}
	for yarn := 1; yarn <= yarnCount; yarn++ {
		y := uint8(yarn)
		add(operations.Op{Kind: operations.Out, Yarn: y}, "out", yarn)
		for side, d := range dirTexts {
			add(operations.Op{Kind: operations.In, Dir: d, Yarn: y}, "in", yarn, side)
			for n, needle := range needleTexts() {
				for word, k := range stitchTexts {
					add(operations.Op{Kind: k, Dir: d, Needle: needle, Yarn: y}, word, side, n, yarn)
				}
			}
		}
	}
	for rack := -lastRack; rack <= lastRack; rack++ {
		add(operations.Op{Kind: operations.Rack, Rack: rack}, "rack", rack)
	}
	for n, needle := range needleTexts() {
		for word, k := range moveTexts {
			add(operations.Op{Kind: k, Needle: needle}, word, n)
		}
	}
	slices.SortFunc(all, func(a, b line) int { return strings.Compare(a.s, b.s) })
	return all
}

// texts returns all valid operations by their texts.
func texts() map[string]operations.Op {
	all := map[string]operations.Op{}
	for _, l := range allLines() {
		all[l.s] = l.o
	}
	return all
}

// TestAllLines checks that the tests know all operations: 12 In, 6 Out, 9 Rack, 3 times 960 stitches, 2 times 80 moves.
func TestAllLines(t *testing.T) {
	if n, m := len(allLines()), len(texts()); n != 12+6+9+3*960+2*80 || m != n {
		t.Errorf("%d operations with %d texts", n, m)
	}
}

// fields are the names of the fields of an operation besides its Kind.
var fields = []string{"Dir", "Needle", "Yarn", "Rack"}

// uses tells which fields each kind uses, as in the table of the chapter.
var uses = map[operations.Kind]string{
	operations.In: "Dir Yarn", operations.Out: "Yarn", operations.Rack: "Rack",
	operations.Knit: "Dir Needle Yarn", operations.Tuck: "Dir Needle Yarn", operations.Miss: "Dir Needle Yarn",
	operations.Xfer: "Needle", operations.Drop: "Needle",
}

// badNeedles are needles that are not valid, some of which would be if their numbers overflowed; none is zero.
var badNeedles = []api.Needle{
	back(0), front(-1), back(-1), front(41), back(41), {Bed: 2}, {Bed: 2, At: 1}, {Bed: 255, At: 40}, {Bed: 3, At: -7},
	front(1<<8 + 1), back(1<<32 + 1), front(1<<62 + 1), front(math.MaxInt), back(math.MinInt), front(math.MinInt),
}

// badRacks are racks that are not valid.
var badRacks = []int{-5, 5, -6, 6, 8, -8, 1<<8 - 4, 1 << 8, 1 << 16, 1 << 32, -1 << 32, 1 << 62, math.MaxInt, math.MinInt}

// bad returns operations that differ from this one in a field, whose value is valid for no kind that uses it.
func bad(o operations.Op, field string) []operations.Op {
	var l []operations.Op
	change := func() *operations.Op {
		l = append(l, o)
		return &l[len(l)-1]
	}
	switch field {
	case "Dir":
		for _, d := range []api.Dir{2, 3, 4, 127, 128, 254, 255} {
			change().Dir = d
		}
	case "Needle":
		change().Needle = api.Needle{}
		for _, n := range badNeedles {
			change().Needle = n
		}
	case "Yarn":
		for _, y := range []uint8{0, 7, 8, 127, 128, 250, 255} {
			change().Yarn = y
		}
	case "Rack":
		for _, r := range badRacks {
			change().Rack = r
		}
	}
	return l
}

// set returns operations that differ from this one in a field, whose value is not 0: valid ones, and others.
func set(o operations.Op, field string) []operations.Op {
	l := bad(o, field)
	l = slices.DeleteFunc(l, func(x operations.Op) bool {
		return field == "Needle" && x.Needle == (api.Needle{}) || field == "Yarn" && x.Yarn == 0
	})
	for n := 1; n <= needleCount; n++ {
		x := o
		switch {
		case field == "Dir" && n == 1:
			x.Dir = api.Right
		case field == "Needle":
			x.Needle = api.Needle{Bed: api.Bed(n % 2), At: n}
		case field == "Yarn" && n <= yarnCount:
			x.Yarn = uint8(n)
		case field == "Rack" && n <= 2*lastRack+1 && n != lastRack+1:
			x.Rack = n - lastRack - 1
		default:
			continue
		}
		l = append(l, x)
	}
	return l
}

// wantCheck compares what Check returns with what it should; if that is an error, there is no text.
func wantCheck(t *testing.T, o operations.Op, want api.Errno) {
	t.Helper()
	if e := operations.Check(o); e != want {
		t.Errorf("Check(%v) = %d, expected %d", o, e, want)
	}
	if s := operations.Text(o); want != api.OK && s != "" {
		t.Errorf("Text(%v) = %q, expected an empty text", o, s)
	}
	if s := operations.Format([]operations.Op{o}); want != api.OK && s != "" {
		t.Errorf("Format of %v alone = %q, expected an empty text", o, s)
	}
}

// TestCheckValid is for P7.1: all valid operations.
func TestCheckValid(t *testing.T) {
	for _, l := range allLines() {
		wantCheck(t, l.o, api.OK)
	}
}

// TestCheckExamples is for P7.1: the values of the chapter, and those at the limits.
func TestCheckExamples(t *testing.T) {
	for _, c := range []struct {
		o    operations.Op
		want api.Errno
	}{
		{operations.Op{Kind: operations.Rack, Rack: 5}, api.ErrRack},
		{operations.Op{Kind: operations.Rack, Rack: 5, Yarn: 1}, api.ErrArg},
		{operations.Op{Kind: operations.Rack, Rack: 4}, api.OK},
		{operations.Op{Kind: operations.Rack, Rack: -4}, api.OK},
		{operations.Op{Kind: operations.Rack, Rack: 3}, api.OK},
		{operations.Op{Kind: operations.Rack, Rack: -3}, api.OK},
		{operations.Op{Kind: operations.Rack}, api.OK},
		{operations.Op{Kind: operations.Rack, Rack: -5}, api.ErrRack},
		{operations.Op{Kind: operations.Rack, Rack: 4, Yarn: 1}, api.ErrArg},
		{operations.Op{Kind: operations.Out, Yarn: 6}, api.OK},
		{operations.Op{Kind: operations.Out, Yarn: 7}, api.ErrArg},
		{operations.Op{Kind: operations.Out}, api.ErrArg},
		{operations.Op{Kind: operations.Out, Yarn: 1, Rack: 5}, api.ErrArg},
		{operations.Op{Kind: operations.Out, Yarn: 1, Rack: 1}, api.ErrArg},
		{operations.Op{Kind: operations.In, Yarn: 1, Dir: 2}, api.ErrArg},
		{operations.Op{Kind: operations.Xfer, Needle: front(40)}, api.OK},
		{operations.Op{Kind: operations.Xfer, Needle: front(41)}, api.ErrArg},
		{operations.Op{Kind: operations.Drop, Needle: back(1), Dir: api.Right}, api.ErrArg},
		{operations.Op{}, api.ErrArg},
	} {
		wantCheck(t, c.o, c.want)
	}
}

// TestCheckKinds is for P7.1: a Kind that is none, with the fields of each of those that are one.
func TestCheckKinds(t *testing.T) {
	for k := range 256 {
		if k >= 1 && k <= 8 {
			continue
		}
		kind := operations.Kind(k)
		wantCheck(t, operations.Op{Kind: kind}, api.ErrArg)
		wantCheck(t, operations.Op{Kind: kind, Rack: 5}, api.ErrArg)
		for i, l := range allLines() {
			if i%37 == 0 || k == 0 || k == 9 {
				l.o.Kind = kind
				wantCheck(t, l.o, api.ErrArg)
			}
		}
	}
}

// TestCheckFields is for P7.1: each field that a Kind uses is not valid, or one that it does not use is not 0.
func TestCheckFields(t *testing.T) {
	for _, l := range someLines() {
		for _, field := range fields {
			isUsed := strings.Contains(uses[l.o.Kind], field)
			if !isUsed {
				for _, o := range set(l.o, field) {
					wantCheck(t, o, api.ErrArg)
				}
				continue
			}
			for _, o := range bad(l.o, field) {
				want := api.ErrArg
				if field == "Rack" {
					want = api.ErrRack
				}
				wantCheck(t, o, want)
			}
		}
	}
}

// TestCheckRack is for P7.1: ErrRack is only for what would be valid with a Rack of 0.
func TestCheckRack(t *testing.T) {
	for _, rack := range append([]int{-lastRack, -1, 0, 1, lastRack}, badRacks...) {
		o := operations.Op{Kind: operations.Rack, Rack: rack}
		for _, field := range []string{"Dir", "Needle", "Yarn"} {
			for _, x := range set(o, field) {
				wantCheck(t, x, api.ErrArg)
			}
		}
		if slices.Contains(badRacks, rack) {
			wantCheck(t, o, api.ErrRack)
		} else {
			wantCheck(t, o, api.OK)
		}
	}
	for _, l := range allLines() {
		if l.o.Kind != operations.Rack {
			for _, rack := range []int{1, -4, 5, math.MinInt} {
				l.o.Rack = rack
				wantCheck(t, l.o, api.ErrArg)
			}
		}
	}
}

// slowCheck is Check, found by looking for the operation among all that are valid.
func slowCheck(valid map[operations.Op]string, o operations.Op) api.Errno {
	if _, ok := valid[o]; ok {
		return api.OK
	}
	o.Rack = 0
	if _, ok := valid[o]; ok && o.Kind == operations.Rack {
		return api.ErrRack
	}
	return api.ErrArg
}

// TestCheckProduct is for P7.1 and P7.2: operations with all fields of all kinds of values.
func TestCheckProduct(t *testing.T) {
	valid := map[operations.Op]string{}
	for _, l := range allLines() {
		valid[l.o] = l.s
	}
	someNeedles := append([]api.Needle{{}, front(1), back(40), front(17)}, badNeedles[:6]...)
	for _, kind := range []operations.Kind{0, 1, 2, 3, 4, 5, 6, 7, 8, 9, 12, 255} {
		for _, d := range []api.Dir{0, 1, 2, 255} {
			for _, n := range someNeedles {
				for _, y := range []uint8{0, 1, 6, 7, 255} {
					for _, rack := range []int{0, 1, -4, 4, 5, -5, 1 << 32, math.MinInt} {
						o := operations.Op{Kind: kind, Dir: d, Needle: n, Yarn: y, Rack: rack}
						wantCheck(t, o, slowCheck(valid, o))
						if s := operations.Text(o); s != valid[o] {
							t.Errorf("Text(%v) = %q, expected %q", o, s, valid[o])
						}
					}
				}
			}
		}
	}
}

// wantParse checks that a text is that of an operation.
func wantParse(t *testing.T, s string, want operations.Op) {
	t.Helper()
	if o, e := operations.Parse(s); o != want || e != api.OK {
		t.Errorf("Parse(%q) = %v, %d, expected %v", s, o, e, want)
	}
}

// wantForm checks that a text is that of no operation.
func wantForm(t *testing.T, s string) {
	t.Helper()
	if o, e := operations.Parse(s); o != (operations.Op{}) || e != api.ErrForm {
		t.Errorf("Parse(%q) = %v, %d, expected ErrForm", s, o, e)
	}
}

// TestTextExamples is for P7.2: the values of the chapter, and a text of each Kind.
func TestTextExamples(t *testing.T) {
	for _, l := range []line{
		{operations.Op{Kind: operations.In, Dir: api.Left, Yarn: 3}, "in 3 left"},
		{operations.Op{Kind: operations.In, Dir: api.Right, Yarn: 6}, "in 6 right"},
		{operations.Op{Kind: operations.Out, Yarn: 6}, "out 6"},
		{operations.Op{Kind: operations.Rack, Rack: -2}, "rack -2"},
		{operations.Op{Kind: operations.Rack}, "rack 0"},
		{operations.Op{Kind: operations.Rack, Rack: 4}, "rack 4"},
		{operations.Op{Kind: operations.Knit, Dir: api.Right, Needle: front(4), Yarn: 3}, "knit right f4 3"},
		{operations.Op{Kind: operations.Knit, Needle: back(40), Yarn: 1}, "knit left b40 1"},
		{operations.Op{Kind: operations.Tuck, Dir: api.Right, Needle: back(1), Yarn: 2}, "tuck right b1 2"},
		{operations.Op{Kind: operations.Miss, Needle: front(39), Yarn: 5}, "miss left f39 5"},
		{operations.Op{Kind: operations.Xfer, Needle: back(12)}, "xfer b12"},
		{operations.Op{Kind: operations.Drop, Needle: front(1)}, "drop f1"},
	} {
		if s := operations.Text(l.o); s != l.s {
			t.Errorf("Text(%v) = %q, expected %q", l.o, s, l.s)
		}
		wantParse(t, l.s, l.o)
	}
}

// TestText is for P7.2 and P7.4: the texts of all operations, which Parse inverts.
func TestText(t *testing.T) {
	for _, l := range allLines() {
		s := operations.Text(l.o)
		if s != l.s {
			t.Errorf("Text(%v) = %q, expected %q", l.o, s, l.s)
		}
		wantParse(t, l.s, l.o)
		wantParse(t, s, l.o)
	}
}

// TestParseErrors is for P7.2: texts that are those of no operation.
func TestParseErrors(t *testing.T) {
	for _, s := range []string{
		"rack 5", "rack -0", "knit f4 3", "in 07 left", // the chapter's
		"", " ", "  ", "   ", "\n", "\t", "#", "# rack 1", "rack 1 # a remark", "rack 1\nrack 1", "\x00",
		"in", "out", "rack", "knit", "tuck", "miss", "xfer", "drop", "left", "right", "f1", "1", "in ", "out ", "rack ", "xfer ", "knit ", "drop ",
		"in 1", "in left", "in left 1", "in 1 left 1", "in 1 left f1", "in 1 up", "in 1 ", "in  left", "in 1 l", "in 1 Left", "in 1 LEFT", "in f1 left", "in 0 left", "in 7 right", "in 1 left right",
		"out left", "out 1 left", "out 0", "out 7", "out 1 1", "out -1", "out +1", "out 01", "out 1.0", "out f1", "out one", "out \u0661", "out \uff11",
		"rack left", "rack f1", "rack 1 1", "rack +1", "rack +0", "rack 00", "rack 01", "rack -01", "rack -5", "rack --1", "rack -", "rack +", "rack - 1", "rack 1-", "rack \u22121", "rack 0x1", "rack 1e0", "rack 0b1", "rack 0o1", "rack 1_0", "rack 0.0",
		"knit left f1", "knit left 1", "knit f1 1", "knit left f1 1 1", "knit left f1 1 left", "knit f1 left 1", "knit 1 f1 left", "knit left 1 f1", "knit up f1 1", "knit left f0 1", "knit left f41 1", "knit left f01 1", "knit left F1 1", "knit left c1 1", "knit left f1 0", "knit left f1 7", "knit left f1 01", "knit left f f1", "knit left f 1", "knit left f1 ", "knit  f1 1", "knit left  1",
		"tuck left b-1 1", "tuck left b+1 1", "tuck left b1 +1", "tuck left b1 -1", "tuck left b 1 1", "tuck left b1 1.", "tuck left b1 1,", "miss right b40 257", "miss right b257 1", "miss Right b40 1",
		"xfer", "xfer f", "xfer 1", "xfer f1 b1", "xfer f1 1", "xfer left f1", "xfer left f1 1", "xfer f41", "xfer f00", "xfer b0", "xfer f1f1", "xfer f1,", "drop f1 f2", "drop b41", "drop 1", "drop f1 1",
		"In 1 left", "IN 1 left", "Out 1", "OUT 1", "Rack 1", "kNit left f1 1", "KNIT left f1 1", "Tuck left f1 1", "Miss left f1 1", "Xfer f1", "Drop f1", "inn 1 left", "ou 1", "racks 1", "knits left f1 1", "transfer f1", "purl left f1 1", "split f1", "0 1", "4 left f1 1",
		"out 257", "out 258", "out 513", "in 257 left", "in 4294967297 left", "out 4294967297", "out 18446744073709551617", "out 99999999999999999999999", "out -255", "out 1" + strings.Repeat("0", 1000),
		"rack 256", "rack 4294967296", "rack -4294967296", "rack 18446744073709551616", "rack -18446744073709551615", "rack 9223372036854775807", "rack -9223372036854775808", "rack 9223372036854775808",
		"xfer f257", "xfer f4294967297", "xfer b18446744073709551617", "drop f-9223372036854775808",
		"rack\t1", "rack\n1", "rack\r1", "rack\v1", "rack\f1", "rack\u00a01", "rack\u20021", "rack\u30001", "rack,1", "rack,1", "rack1", "rack=1", "rack(1)", "rack\x001", "in_1_left", "in1left", "knit\u00a0left f1 1",
		"rack 1\n", "\nrack 1", "rack 1\r", "rack 1\t", "\track 1", "rack 1\x00", "\x00rack 1", "\ufeffrack 1", "rack 1\xff", "\xff", "é 1", "rack é", "räck 1", "out 1;", "out 1\u00a0",
		strings.Repeat(" ", 1000), strings.Repeat("rack ", 1000), strings.Repeat("rack 1 ", 1000), strings.Repeat("a", 10000),
	} {
		wantForm(t, s)
	}
}

// someLines returns some operations of each Kind, with the first and the last ones of it.
func someLines() []line {
	var some []line
	for i, l := range allLines() {
		if i%61 == 0 || l.o.Kind <= operations.Rack || l.o.Needle == front(1) && l.o.Yarn <= 1 || l.o.Needle == back(40) && l.o.Yarn%6 == 0 {
			some = append(some, l)
		}
	}
	return some
}

// TestParseWords is for P7.2: words that are missing, too many, in other places, other ones, or not separated by single spaces.
func TestParseWords(t *testing.T) {
	all := texts()
	want := func(s string) {
		t.Helper()
		if o, ok := all[s]; ok {
			wantParse(t, s, o)
		} else {
			wantForm(t, s)
		}
	}
	others := []string{"", "in", "out", "rack", "knit", "tuck", "miss", "xfer", "drop", "left", "right", "up", "f1", "b40", "f41", "b0", "f01", "f", "1", "6", "0", "7", "4", "-4", "-5", "-0", "+1", "01", "x", "#"}
	for _, l := range someLines() {
		words := strings.Split(l.s, " ")
		for i := range words {
			want(strings.Join(slices.Delete(slices.Clone(words), i, i+1), " "))
			want(strings.Join(slices.Insert(slices.Clone(words), i, words[i]), " "))
			for _, other := range others {
				want(strings.Join(slices.Insert(slices.Clone(words), i, other), " "))
				changed := slices.Clone(words)
				changed[i] = other
				want(strings.Join(changed, " "))
			}
			changed := slices.Clone(words)
			changed[i] = strings.ToUpper(words[i])
			if changed[i] != words[i] {
				wantForm(t, strings.Join(changed, " "))
			}
			for j := range i {
				changed := slices.Clone(words)
				changed[i], changed[j] = changed[j], changed[i]
				want(strings.Join(changed, " "))
			}
		}
		for _, other := range others {
			want(l.s + " " + other)
		}
		for _, blank := range []string{"  ", "\t", "\n", "\r", "\v", "\f", "\x00", "\u00a0", "\u2003", ",", ", ", " ,", "", " \t", "\t "} {
			wantForm(t, strings.ReplaceAll(l.s, " ", blank))
			wantForm(t, strings.Replace(l.s, " ", blank, 1))
			if blank != "" {
				wantForm(t, l.s+blank)
				wantForm(t, blank+l.s)
			}
		}
		wantForm(t, l.s+" ")
		wantForm(t, " "+l.s)
		wantForm(t, " "+l.s+" ")
		wantForm(t, l.s+"\n"+l.s)
	}
}

// TestParseNumbers is for P7.2: numbers that are written in other ways, too great, or empty.
func TestParseNumbers(t *testing.T) {
	for n := -300; n <= 5000; n++ {
		number := strconv.Itoa(n)
		if n >= 1 && n <= yarnCount {
			wantParse(t, "out "+number, operations.Op{Kind: operations.Out, Yarn: uint8(n)})
			wantParse(t, "in "+number+" right", operations.Op{Kind: operations.In, Dir: api.Right, Yarn: uint8(n)})
			wantParse(t, "knit left f1 "+number, operations.Op{Kind: operations.Knit, Needle: front(1), Yarn: uint8(n)})
		} else {
			wantForm(t, "out "+number)
			wantForm(t, "in "+number+" right")
			wantForm(t, "knit left f1 "+number)
		}
		if n >= -lastRack && n <= lastRack {
			wantParse(t, "rack "+number, operations.Op{Kind: operations.Rack, Rack: n})
		} else {
			wantForm(t, "rack "+number)
		}
		if n >= 1 && n <= needleCount {
			wantParse(t, "xfer f"+number, operations.Op{Kind: operations.Xfer, Needle: front(n)})
			wantParse(t, "tuck right b"+number+" 2", operations.Op{Kind: operations.Tuck, Dir: api.Right, Needle: back(n), Yarn: 2})
		} else {
			wantForm(t, "xfer f"+number)
			wantForm(t, "tuck right b"+number+" 2")
		}
	}
	for n := range needleCount + 2 {
		for _, before := range []string{"0", "00", "+", "-", "+0", "-0", "--", " ", "0x", "_"} {
			number := before + strconv.Itoa(n)
			for _, text := range []string{"out " + number, "in " + number + " left", "miss left f1 " + number, "xfer f" + number, "knit left b" + number + " 1"} {
				wantForm(t, text)
			}
			if before != "-" || n == 0 || n > lastRack {
				wantForm(t, "rack "+number)
			}
		}
	}
	for _, text := range []string{"out ", "in  left", "rack ", "rack -", "knit left f1 ", "xfer f", "drop b", "tuck left f 1"} {
		wantForm(t, text)
	}
}

// TestParseShortTexts is for P7.2 and P7.4: of all texts of up to four words of a vocabulary, those of operations are read, and no others.
func TestParseShortTexts(t *testing.T) {
	all := texts()
	vocabulary := []string{"in", "out", "rack", "knit", "miss", "xfer", "drop", "left", "right", "f1", "b40", "f41", "1", "6", "0", "7", "-4", "-0", "01", ""}
	found := 0
	var extend func(s string, count int)
	extend = func(s string, count int) {
		if o, ok := all[s]; ok {
			wantParse(t, s, o)
			found++
		} else {
			wantForm(t, s)
		}
		if count == 4 {
			return
		}
		for _, word := range vocabulary {
			if count == 0 {
				extend(word, 1)
			} else {
				extend(s+" "+word, count+1)
			}
		}
	}
	extend("", 0)
	// 2 of out, 4 of in, 3 of rack, 4 of xfer and drop, and 2 times 2 times 2 of each of knit and miss
	if found != 2+4+3+4+16 {
		t.Errorf("%d texts are those of operations", found)
	}
}

// TestParseChanged is for P7.4: each text with one byte changed, left out, or put in is read only if it is a text again.
func TestParseChanged(t *testing.T) {
	all := texts()
	want := func(s string) {
		if o, ok := all[s]; ok {
			wantParse(t, s, o)
		} else {
			wantForm(t, s)
		}
	}
	var some []byte
	for _, c := range []byte(" #+-0123456789abcdefhiklmnoprstuxRLF\n\t\x00\xff") {
		some = append(some, c)
	}
	var every []byte
	for c := range 256 {
		every = append(every, byte(c))
	}
	for i, l := range allLines() {
		bytes := some
		if i%23 == 0 || l.o.Kind <= operations.Rack {
			bytes = every
		}
		for k := range len(l.s) + 1 {
			if k < len(l.s) {
				want(l.s[:k] + l.s[k+1:])
				for _, c := range bytes {
					want(l.s[:k] + string([]byte{c}) + l.s[k+1:])
				}
			}
			if len(bytes) == len(every) {
				for _, c := range bytes {
					want(l.s[:k] + string([]byte{c}) + l.s[k:])
				}
			}
		}
		for k := range l.s {
			want(l.s[:k])
			want(l.s[k+1:])
		}
	}
}

// TestOnlyTexts is for P7.4: whatever Parse reads is what Text gives back.
func TestOnlyTexts(t *testing.T) {
	random := rand.New(rand.NewSource(7))
	kinds := []string{"in", "out", "rack", "knit", "tuck", "miss", "xfer", "drop"}
	parts := []string{"left", "right", "f", "b", "f1", "b40", "1", "2", "6", "-", "0", "4", "+", "#", "in"}
	blanks := []string{" ", " ", " ", " ", " ", " ", "", "  ", "\t", "\n"}
	read := 0
	for range 300000 {
		s := kinds[random.Intn(len(kinds))]
		for range random.Intn(4) {
			s += blanks[random.Intn(len(blanks))] + parts[random.Intn(len(parts))]
		}
		o, e := operations.Parse(s)
		switch {
		case e == api.OK && operations.Check(o) == api.OK && operations.Text(o) == s:
			read++
		case e != api.ErrForm || o != (operations.Op{}):
			t.Errorf("Parse(%q) = %v, %d", s, o, e)
		}
	}
	if read < 2000 {
		t.Errorf("only %d texts were read", read)
	}
}

// formatted is Format for valid operations.
func formatted(l []line) string {
	s := ""
	for _, x := range l {
		s += x.s + "\n"
	}
	return s
}

// opsOf returns the operations of lines.
func opsOf(l []line) []operations.Op {
	var ops []operations.Op
	for _, x := range l {
		ops = append(ops, x.o)
	}
	return ops
}

// wantProgram checks that a text is that of a program.
func wantProgram(t *testing.T, s string, want []operations.Op) {
	t.Helper()
	l, n, e := operations.Program(s)
	if !slices.Equal(l, want) || n != 0 || e != api.OK {
		t.Errorf("Program(%.200q) has %d operations, %d, %d, expected %d", s, len(l), n, e, len(want))
	}
	if cap(l) != len(l) {
		t.Errorf("Program(%.200q) has the capacity %d for %d operations", s, cap(l), len(l))
	}
}

// wantLine checks that a line of a text has an error.
func wantLine(t *testing.T, s string, at int, want api.Errno) {
	t.Helper()
	if l, n, e := operations.Program(s); len(l) != 0 || n != at || e != want {
		t.Errorf("Program(%.200q) has %d operations, %d, %d, expected the line %d, %d", s, len(l), n, e, at, want)
	}
}

// TestFormat is for P7.3: programs with and without operations, and some that are not valid.
func TestFormat(t *testing.T) {
	if s := operations.Format(nil); s != "" {
		t.Errorf("Format of nothing = %q", s)
	}
	if s := operations.Format([]operations.Op{}); s != "" {
		t.Errorf("Format of no operations = %q", s)
	}
	all := allLines()
	for _, n := range []int{1, 2, 3, 100, len(all)} {
		if s := operations.Format(opsOf(all[:n])); s != formatted(all[:n]) {
			t.Errorf("Format of %d operations is another text", n)
		}
	}
	if s := operations.Format([]operations.Op{{Kind: operations.In, Dir: api.Right, Yarn: 2}, {Kind: operations.Rack}}); s != "in 2 right\nrack 0\n" {
		t.Errorf("Format = %q", s)
	}
	// Format has no limit: that is the reader's.
	if s, want := operations.Format(slices.Repeat([]operations.Op{{Kind: operations.Rack, Rack: -1}}, maxOps+1)), strings.Repeat("rack -1\n", maxOps+1); s != want {
		t.Errorf("Format of %d operations has %d bytes, expected %d", maxOps+1, len(s), len(want))
	}
}

// TestFormatNothing is for P7.3: one operation that is not valid, somewhere, leaves nothing.
func TestFormatNothing(t *testing.T) {
	good := opsOf(someLines()[:5])
	for _, o := range []operations.Op{
		{}, {Kind: 9}, {Kind: operations.Rack, Rack: 5}, {Kind: operations.Out}, {Kind: operations.Out, Yarn: 7}, {Kind: operations.In, Yarn: 1, Dir: 2},
		{Kind: operations.Xfer}, {Kind: operations.Xfer, Needle: front(41)}, {Kind: operations.Drop, Needle: back(1), Yarn: 1}, {Kind: operations.Knit, Needle: front(1), Yarn: 1, Rack: 1},
	} {
		for i := range len(good) + 1 {
			if s := operations.Format(slices.Insert(slices.Clone(good), i, o)); s != "" {
				t.Errorf("Format with %v at %d = %q", o, i, s)
			}
		}
	}
}

// TestProgramExamples is for P7.3: the values of the chapter.
func TestProgramExamples(t *testing.T) {
	wantProgram(t, "  rack 1 # a remark\n\ndrop f1", []operations.Op{{Kind: operations.Rack, Rack: 1}, {Kind: operations.Drop, Needle: front(1)}})
	wantLine(t, "rack 1\nrack", 2, api.ErrForm)
}

// TestProgramLines is for P7.3: empty lines, remarks, spaces at the ends, and a last line break that is missing.
func TestProgramLines(t *testing.T) {
	up, down := operations.Op{Kind: operations.Rack, Rack: 1}, operations.Op{Kind: operations.Rack, Rack: -1}
	for _, c := range []struct {
		s    string
		want []operations.Op
	}{
		{"", nil}, {"\n", nil}, {"\n\n\n", nil}, {" ", nil}, {"   \n  ", nil}, {"#", nil}, {"##", nil}, {"# rack 1", nil}, {"  # rack 1\n", nil}, {"#\n#\n", nil}, {" # # ", nil}, {"#\x00\xff\t\r", nil},
		{"rack 1", []operations.Op{up}}, {"rack 1\n", []operations.Op{up}}, {"rack 1\n\n", []operations.Op{up}}, {"\nrack 1", []operations.Op{up}}, {"\n\n\nrack 1\n\n\n", []operations.Op{up}},
		{" rack 1", []operations.Op{up}}, {"rack 1 ", []operations.Op{up}}, {"     rack 1     ", []operations.Op{up}}, {"  rack 1  \n  rack -1  \n  ", []operations.Op{up, down}},
		{"rack 1#", []operations.Op{up}}, {"rack 1#x", []operations.Op{up}}, {"rack 1 #", []operations.Op{up}}, {"rack 1      # rack -1", []operations.Op{up}}, {"rack 1 # a # b", []operations.Op{up}}, {"rack 1##", []operations.Op{up}}, {"rack 1 # # #", []operations.Op{up}},
		{"rack 1#\nrack -1", []operations.Op{up, down}}, {"rack 1 # a\n# b\n  # c\nrack -1#d\n", []operations.Op{up, down}}, {"# a\n\n \nrack 1\n\n# b\nrack -1\n# c", []operations.Op{up, down}},
		{"rack 1 #\track\r", []operations.Op{up}}, {"rack 1 # \u2028rack 5\u0085x", []operations.Op{up}}, {"rack 1\nrack 1\nrack 1", []operations.Op{up, up, up}}, {"#rack 5\nrack 1", []operations.Op{up}},
	} {
		wantProgram(t, c.s, c.want)
	}
}

// TestProgramErrors is for P7.3: the first line that is not the text of an operation, wherever it is.
func TestProgramErrors(t *testing.T) {
	for _, bad := range []string{
		"rack", "rack 5", "rack -0", "knit f4 3", "in 07 left", "x", "rack  1", "rack 1 rack 1", "Rack 1", "rack 1 ,", "out 0", "xfer f41", "drop", "ra#ck 1", "rack # 1", "rack #1", "; rack 1", "// rack 1",
		"\t", "\r", "\v", "\f", "\x00", "\u00a0", "\u3000", "\ufeff", "\track 1", "rack 1\t", "rack 1\r", "rack\t1", "rack 1\t# x", "\t# x", "\r# x", " \t", "rack 1\u00a0", "\u00a0rack 1", "rack 1\rrack 1", "rack 1\u2028rack 1", "rack 1\u0085", "rack 1\v", "rack 1\x00", "\xff",
	} {
		wantLine(t, bad, 1, api.ErrForm)
		wantLine(t, bad+"\n", 1, api.ErrForm)
		wantLine(t, "  "+bad+"  # a remark\nrack 1\n", 1, api.ErrForm)
		wantLine(t, "rack 1\n"+bad+"\nrack 1\n", 2, api.ErrForm)
		wantLine(t, "\n# a remark\n   \nrack 1\n\n"+bad, 6, api.ErrForm)
		wantLine(t, "rack 1\nrack 2\nrack 3\n"+bad+"\n", 4, api.ErrForm)
		wantLine(t, bad+"\n"+bad, 1, api.ErrForm)
		wantLine(t, "\n"+bad+"\nrack 5\nx\n", 2, api.ErrForm)
	}
}

// TestProgramLimit is for P7.3: MaxOps operations and one more, with lines that have none before, between and behind them.
func TestProgramLimit(t *testing.T) {
	ops := slices.Repeat([]operations.Op{{Kind: operations.Rack, Rack: 1}}, maxOps)
	full := strings.Repeat("rack 1\n", maxOps)
	wantProgram(t, full[7:], ops[1:])
	wantProgram(t, full, ops)
	wantProgram(t, strings.TrimSuffix(full, "\n"), ops)
	wantProgram(t, full+"\n\n  \n# rack 1\n  # rack 1", ops)
	wantProgram(t, strings.ReplaceAll(full, "\n", " # a\n\n# b\n"), ops)
	wantLine(t, full+"rack 1", maxOps+1, api.ErrLimit)
	wantLine(t, full+"rack 1\n", maxOps+1, api.ErrLimit)
	wantLine(t, full+"drop f1 # a\n", maxOps+1, api.ErrLimit)
	wantLine(t, full+"rack 1\nrack 1\ndrop f1\n", maxOps+1, api.ErrLimit)
	wantLine(t, full+"rack 1\n\n# a\n  \n", maxOps+1, api.ErrLimit)
	wantLine(t, full+full+full, maxOps+1, api.ErrLimit)
	wantLine(t, full+"\n# a\n \n   rack 1 # b", maxOps+4, api.ErrLimit)
	wantLine(t, "\n# a\n"+full+"rack 1", maxOps+3, api.ErrLimit)
	wantLine(t, strings.ReplaceAll(full, "\n", "\n\n")+"rack 1\n", 2*maxOps+1, api.ErrLimit)
}

// TestProgramBoth is for P7.3 and R2: ErrForm is named first, so that it comes before ErrLimit, whichever line is the first one.
func TestProgramBoth(t *testing.T) {
	full := strings.Repeat("rack 1\n", maxOps)
	for _, bad := range []string{"x", "rack 5", "\t", "rack"} {
		wantLine(t, full+bad, maxOps+1, api.ErrForm)
		wantLine(t, full+bad+"\nrack 1\n", maxOps+1, api.ErrForm)
		wantLine(t, full+"rack 1\n"+bad, maxOps+2, api.ErrForm)
		wantLine(t, full+"rack 1\nrack 1\n\n"+bad+"\n"+bad+"\nrack 1\n", maxOps+4, api.ErrForm)
		wantLine(t, bad+"\n"+full+"rack 1\n", 1, api.ErrForm)
		wantLine(t, bad+"\n"+full+"rack 1\n"+bad, 1, api.ErrForm)
		wantLine(t, "rack 1\n"+bad+"\n"+full, 2, api.ErrForm)
		wantLine(t, full[7:]+bad+"\nrack 1\nrack 1\n", maxOps, api.ErrForm)
		wantLine(t, full+full+bad, 2*maxOps+1, api.ErrForm)
		wantLine(t, full+"rack 1 # "+bad, maxOps+1, api.ErrLimit)
	}
}

// TestProgramInvertsFormat is for P7.4: programs of all lengths up to MaxOps.
func TestProgramInvertsFormat(t *testing.T) {
	wantProgram(t, operations.Format(nil), nil)
	all := opsOf(allLines())
	wantProgram(t, operations.Format(all), all)
	random := rand.New(rand.NewSource(8))
	for _, n := range []int{0, 1, 2, 3, 7, 63, 64, 65, 1000, maxOps - 1, maxOps} {
		var l []operations.Op
		for range n {
			l = append(l, all[random.Intn(len(all))])
		}
		s := operations.Format(l)
		if strings.Count(s, "\n") != n {
			t.Errorf("Format of %d operations has %d lines", n, strings.Count(s, "\n"))
		}
		wantProgram(t, s, l)
		wantProgram(t, strings.TrimSuffix(s, "\n"), l)
	}
	wantLine(t, operations.Format(slices.Repeat(all[:1], maxOps+1)), maxOps+1, api.ErrLimit)
}

// linePattern matches a line of a program, as the chapter says it; its first group is the text of the operation, if there is one.
var linePattern = regexp.MustCompile(`\A *((?:in [1-6] (?:left|right)|out [1-6]|rack (?:-[1-4]|[0-4])|(?:knit|tuck|miss) (?:left|right) [fb](?:[1-9]|[123][0-9]|40) [1-6]|(?:xfer|drop) [fb](?:[1-9]|[123][0-9]|40))?) *(?:#(?s:.*))?\z`)

// slowProgram is Program, as the chapter says it, for texts with few operations.
func slowProgram(all map[string]operations.Op, s string) ([]operations.Op, int, api.Errno) {
	var l []operations.Op
	for i, x := range strings.Split(s, "\n") {
		m := linePattern.FindStringSubmatch(x)
		if m == nil {
			return nil, i + 1, api.ErrForm
		}
		if m[1] != "" {
			l = append(l, all[m[1]])
		}
	}
	return l, 0, api.OK
}

// TestProgramRandom is for P7.3: texts put together from pieces of all kinds.
func TestProgramRandom(t *testing.T) {
	all := texts()
	lines := allLines()
	random := rand.New(rand.NewSource(9))
	ends := []string{"\n", "\n", "\n", "\n", "\n\n", " \n", "\n ", "  \n  ", " # a\n", "#\n", "\n# b\n", "\n  # knit left f1 1\n", " # x # y\n \n"}
	odd := []string{"", "rack 5", "\t", "\r\n", " ", "knit left", "out 7", "x", "#", "\n"}
	right, wrong := 0, 0
	for range 20000 {
		s := ends[random.Intn(len(ends))]
		for range random.Intn(12) {
			s += lines[random.Intn(len(lines))].s + ends[random.Intn(len(ends))]
			if random.Intn(15) == 0 {
				s += odd[random.Intn(len(odd))]
			}
		}
		if random.Intn(4) == 0 && s != "" {
			k := random.Intn(len(s))
			s = s[:k] + s[k+random.Intn(2):] + odd[random.Intn(len(odd))]
		}
		want, n, e := slowProgram(all, s)
		if e == api.OK {
			wantProgram(t, s, want)
			right++
		} else {
			wantLine(t, s, n, e)
			wrong++
		}
	}
	if right < 2000 || wrong < 2000 {
		t.Errorf("%d programs and %d others", right, wrong)
	}
}

// TestMemory is for R1 and R4: arguments stay as they are, and results are memory of their own, without room for more.
func TestMemory(t *testing.T) {
	some := opsOf(someLines())
	before := slices.Clone(some)
	s := operations.Format(some[:20])
	if !slices.Equal(some, before) {
		t.Error("Format changes its argument")
	}
	first, _, _ := operations.Program(s)
	second, _, _ := operations.Program(s)
	if cap(first) != len(first) || len(first) != 20 {
		t.Errorf("the result has the length %d, and the capacity %d", len(first), cap(first))
	}
	clear(first)
	if !slices.Equal(second, before[:20]) {
		t.Error("two results share memory")
	}
	third, _, _ := operations.Program(s)
	if !slices.Equal(third, before[:20]) {
		t.Error("a result is kept")
	}
	clear(some)
	if s != formatted(someLines()[:20]) {
		t.Error("the text changes with the program")
	}
}

// TestErrorsGiveNothing is for P1: with an error every other result is its zero value, but for the line that has it.
func TestErrorsGiveNothing(t *testing.T) {
	if o, e := operations.Parse("knit right b12 7"); o != (operations.Op{}) || e != api.ErrForm {
		t.Errorf("Parse = %v, %d", o, e)
	}
	if l, n, e := operations.Program("rack 1\nrack 2\nrack 5"); l != nil || n != 3 || e != api.ErrForm {
		t.Errorf("Program = %v, %d, %d", l, n, e)
	}
	if l, n, e := operations.Program(strings.Repeat("rack 1\n", maxOps+1)); l != nil || n != maxOps+1 || e != api.ErrLimit {
		t.Errorf("Program has %d operations, %d, %d", len(l), n, e)
	}
}

// FuzzParse is for P1 and P7.4: any text is read as an operation that has it, or not at all.
func FuzzParse(f *testing.F) {
	for _, l := range someLines() {
		f.Add(l.s)
	}
	f.Add("rack -0\n# a\n\n  out 7 ")
	all := texts()
	f.Fuzz(func(t *testing.T, s string) {
		if o, ok := all[s]; ok {
			wantParse(t, s, o)
		} else {
			wantForm(t, s)
		}
		if strings.Count(s, "\n") >= maxOps {
			return
		}
		want, n, e := slowProgram(all, s)
		if l, m, d := operations.Program(s); !slices.Equal(l, want) || m != n || d != e {
			t.Errorf("Program(%q) = %v, %d, %d, expected %v, %d, %d", s, l, m, d, want, n, e)
		}
	})
}
