// Package needles is layer 1: see shared/doc/01-needles.md.
package needles

import (
	"strconv"
	"strings"

	"gansey/api"
)

// The places left and right of all needles, whatever the rack is.
const (
	LeftEnd  = -13
	RightEnd = 179
)

// letters has the letter of each bed at the index that is the bed.
const letters = "fb"

// Check returns why a needle is not valid, or OK. (P1.1)
func Check(n api.Needle) api.Errno {
	if n.Bed > api.Back || n.At < 1 || n.At > api.MaxNeedle {
		return api.ErrArg
	}
	return api.OK
}

// canRack reports whether a rack is valid.
func canRack(rack int) bool {
	return rack >= -api.MaxRack && rack <= api.MaxRack
}

// Spot returns the spot of a needle. (P1.2)
func Spot(n api.Needle, rack int) int {
	if Check(n) != api.OK || !canRack(rack) {
		return 0
	}
	if n.Bed == api.Back {
		return 4 * (n.At + rack)
	}
	return 4*n.At + 2
}

// At returns the needle with a spot. (P1.2)
func At(spot, rack int) (api.Needle, api.Errno) {
	if !canRack(rack) {
		return api.Needle{}, api.ErrRack
	}
	found, e := api.Needle{}, api.ErrNone
beds:
	for _, bed := range [...]api.Bed{api.Front, api.Back} {
		for i := range api.MaxNeedle {
			n := api.Needle{Bed: bed, At: i + 1}
			switch s := Spot(n, rack); {
			case s == spot:
				found, e = n, api.OK
				break beds
			case s > spot: // the spots of a bed ascend
				continue beds
			}
		}
	}
	return found, e
}

// Opposite returns the needle of the other bed with the same position. (P1.3)
func Opposite(n api.Needle, rack int) (api.Needle, api.Errno) {
	if e := Check(n); e != api.OK {
		return api.Needle{}, e
	}
	// The rack is looked at before it is added to anything: it may be any integer.
	if !canRack(rack) {
		return api.Needle{}, api.ErrRack
	}
	other := api.Needle{Bed: api.Back, At: n.At - rack}
	if n.Bed == api.Back {
		other = api.Needle{Bed: api.Front, At: n.At + rack}
	}
	if Check(other) != api.OK {
		return api.Needle{}, api.ErrRack
	}
	return other, api.OK
}

// Text formats a needle. (P1.4)
func Text(n api.Needle) string {
	if Check(n) != api.OK {
		return ""
	}
	return string(letters[n.Bed]) + strconv.Itoa(n.At)
}

// Parse returns the needle with a text. (P1.4)
func Parse(s string) (api.Needle, api.Errno) {
	if s == "" {
		return api.Needle{}, api.ErrForm
	}
	bed := strings.IndexByte(letters, s[0])
	at, err := strconv.Atoi(s[1:])
	if bed < 0 || err != nil {
		return api.Needle{}, api.ErrForm
	}
	n := api.Needle{Bed: api.Bed(bed), At: at}
	// Atoi also reads signs and leading zeros, which no text of a needle has.
	if Text(n) != s {
		return api.Needle{}, api.ErrForm
	}
	return n, api.OK
}
