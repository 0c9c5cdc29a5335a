// Package yarns is layer 2: see shared/doc/02-yarns.md.
package yarns

import (
	"gansey/api"
	"gansey/needles"
)

// MaxPending is the greatest number of passes of a yarn since its last loop.
const MaxPending = 4096

// Pass is that a yarn goes past a loop.
type Pass struct {
	Id    api.Id
	Front bool    // the yarn lies in front of the loop
	Dir   api.Dir // in which direction the yarn goes
}

// Yarn is a carrier, and what its yarn has passed since its last loop.
type Yarn struct {
	In      bool
	Place   int  // an odd spot; 0 if it is out
	Count   int  // of its loops
	New     bool // it came in behind its last loop
	Pending []Pass
}

// Made is what a yarn tells of a new loop.
type Made struct {
	N    int
	New  bool
	Past []Pass
}

// Check returns why a yarn is not valid, or OK. (P2.1)
func Check(y Yarn) api.Errno {
	right := y.Count >= 0 && y.Count <= api.MaxLoops
	if y.In {
		right = right && isPlace(y.Place) && isPending(y.Pending)
	} else {
		right = right && y.Place == 0 && !y.New && len(y.Pending) == 0
	}
	if !right {
		return api.ErrArg
	}
	return api.OK
}

// isPlace reports whether a carrier can stand at a place.
func isPlace(place int) bool {
	return place >= needles.LeftEnd && place <= needles.RightEnd && place%2 != 0
}

// isPending reports whether a list can be what is pending.
func isPending(l []Pass) bool {
	if len(l) > MaxPending || !arePasses(l) {
		return false
	}
	for i := 1; i < len(l); i++ {
		if cancel(l[i-1], l[i]) {
			return false
		}
	}
	return true
}

// arePasses reports whether all passes of a list are valid.
func arePasses(l []Pass) bool {
	for _, p := range l {
		if !Named(p.Id) || !isDir(p.Dir) {
			return false
		}
	}
	return true
}

// isDir reports whether there is such a direction.
func isDir(d api.Dir) bool { return d == api.Left || d == api.Right }

// Named reports whether a name is valid. (P2.1)
func Named(id api.Id) bool {
	return id.Yarn >= 1 && id.Yarn <= api.MaxYarn && id.N >= 0 && id.N < api.MaxLoops
}

// back returns the pass of the way back.
func back(p Pass) Pass {
	if p.Dir == api.Right {
		p.Dir = api.Left
	} else {
		p.Dir = api.Right
	}
	return p
}

// cancel reports whether two passes cancel. Each is compared with the way back of the other one, since Right is also the way back of what is no direction.
func cancel(p, q Pass) bool {
	return p == back(q) && q == back(p)
}

// Reduce takes passes away that cancel. (P2.2)
func Reduce(l []Pass) []Pass { return behind(nil, l) }

// behind returns the passes of two lists, the second list behind the first one, reduced.
func behind(first, second []Pass) []Pass {
	room := len(first) + len(second)
	kept := make([]Pass, 0, room)
	for _, list := range [...][]Pass{first, second} {
		for _, p := range list {
			last := len(kept) - 1
			if last >= 0 && cancel(kept[last], p) {
				kept = kept[:last:room]
			} else {
				kept = append(kept, p)
			}
		}
	}
	return copied(kept)
}

// copied returns a list in memory of its own that has no room for more.
func copied(l []Pass) []Pass {
	if len(l) == 0 {
		return nil
	}
	own := make([]Pass, len(l))
	copy(own, l)
	return own
}

// Inverse returns the passes of the way back. (P2.2)
func Inverse(l []Pass) []Pass {
	way := copied(l)
	for i, p := range l {
		way[len(l)-1-i] = back(p)
	}
	return way
}

// Enter lets a carrier come in at an end. (P2.3)
func Enter(y Yarn, side api.Dir) (Yarn, api.Errno) {
	if e := Check(y); e != api.OK {
		return Yarn{}, e
	}
	if !isDir(side) {
		return Yarn{}, api.ErrArg
	}
	if y.In {
		return Yarn{}, api.ErrYarn
	}
	place := needles.LeftEnd
	if side == api.Right {
		place = needles.RightEnd
	}
	return Yarn{In: true, Place: place, Count: y.Count, New: true}, api.OK
}

// checkIn returns why a yarn is not valid or its carrier not in, or OK.
func checkIn(y Yarn) api.Errno {
	if e := Check(y); e != api.OK {
		return e
	}
	if !y.In {
		return api.ErrYarn
	}
	return api.OK
}

// Leave lets a carrier go out. (P2.3)
func Leave(y Yarn) (Yarn, api.Errno) {
	if e := checkIn(y); e != api.OK {
		return Yarn{}, e
	}
	return Yarn{Count: y.Count}, api.OK
}

// Go moves a carrier to a place, past loops. (P2.4)
func Go(y Yarn, place int, passed []Pass) (Yarn, api.Errno) {
	if Check(y) != api.OK || !isPlace(place) || !arePasses(passed) {
		return Yarn{}, api.ErrArg
	}
	if !y.In {
		return Yarn{}, api.ErrYarn
	}
	pending := behind(y.Pending, passed)
	if len(pending) > MaxPending {
		return Yarn{}, api.ErrLimit
	}
	y.Place, y.Pending = place, pending
	return y, api.OK
}

// Make makes a loop. (P2.5)
func Make(y Yarn) (Yarn, Made, api.Errno) {
	if e := checkIn(y); e != api.OK {
		return Yarn{}, Made{}, e
	}
	if y.Count == api.MaxLoops {
		return Yarn{}, Made{}, api.ErrLimit
	}
	made := Made{N: y.Count, New: y.New, Past: copied(y.Pending)}
	return Yarn{In: true, Place: y.Place, Count: y.Count + 1}, made, api.OK
}
