// Package yarns is layer 2: see shared/doc/02-yarns.md.
package yarns

import "gansey/api"

// MaxPending is the greatest number of passes of a yarn since its last loop.
const MaxPending = 4096

// Pass is that a yarn goes past a loop.
type Pass struct {
	Id    api.Id
	Front bool    // the yarn lies in front of the loop
	Dir   api.Dir // in which direction the yarn goes
}

// Yarn is a carrier, and what its yarn has passed since its last loop.
type Yarn struct {
	In      bool
	Place   int  // an odd spot; 0 if it is out
	Count   int  // of its loops
	New     bool // it came in behind its last loop
	Pending []Pass
}

// Made is what a yarn tells of a new loop.
type Made struct {
	N    int
	New  bool
	Past []Pass
}

// Check returns why a yarn is not valid, or OK. (P2.1)
func Check(y Yarn) api.Errno { return api.OK }

// Named reports whether a name is valid. (P2.1)
func Named(id api.Id) bool { return false }

// Reduce takes passes away that cancel. (P2.2)
func Reduce(l []Pass) []Pass { return nil }

// Inverse returns the passes of the way back. (P2.2)
func Inverse(l []Pass) []Pass { return nil }

// Enter lets a carrier come in at an end. (P2.3)
func Enter(y Yarn, side api.Dir) (Yarn, api.Errno) { return Yarn{}, api.OK }

// Leave lets a carrier go out. (P2.3)
func Leave(y Yarn) (Yarn, api.Errno) { return Yarn{}, api.OK }

// Go moves a carrier to a place, past loops. (P2.4)
func Go(y Yarn, place int, passed []Pass) (Yarn, api.Errno) { return Yarn{}, api.OK }

// Make makes a loop. (P2.5)
func Make(y Yarn) (Yarn, Made, api.Errno) { return Yarn{}, Made{}, api.OK }
