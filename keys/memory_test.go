package keys_test

import (
	"fmt"
	"math/rand"
	"testing"

	"broadsheet/api"
)

// P14.1: two boxes on two disks side by side see nothing of each other, whatever is done to the one.
func TestBoxesAreByThemselves(t *testing.T) {
	eachRow(shortSteps(), 4, func(row []step) bool {
		one, other := begun(t, "R4: the one", 20), begun(t, "R4: the other", 40)
		if !other.plays(step{kind: doTake}) {
			return false
		}
		for _, s := range row {
			if !one.plays(s) {
				return false
			}
			if !other.holds() {
				t.Errorf("R4: %v on another disk", row)
				return false
			}
		}
		return other.plays(step{kind: doTake}, step{doArm, 1}, step{kind: doTake}, step{doCrash, 3}, step{kind: doOpen})
	})
}

// P14.1: by turns: each of three boxes goes on as its own account says.
func TestBoxesByTurns(t *testing.T) {
	boxes := []*bench{begun(t, "R4: first", size*all), begun(t, "R4: second", 50), begun(t, "R4: third", 9)}
	r := rand.New(rand.NewSource(2))
	for range 3000 {
		if !boxes[r.Intn(len(boxes))].plays(anyStep(r)) {
			return
		}
	}
}

// R3: a Take that is refused for room changes nothing that any call tells later.
func TestRefusedTakesChangeNothing(t *testing.T) {
	eachRow([]step{{kind: doTake}, {kind: doOpen}, {doCrash, 9}, {doGrow, 9}, {doGrow, 20}}, 5, func(row []step) bool {
		one, other := begun(t, "R3", 18), begun(t, "R3", 18)
		for _, s := range row {
			if one.a.next >= 0 && one.a.limit-len(one.a.text()) < size {
				for range 3 {
					one.b.Take()
				}
			}
			if !one.plays(s) || !other.plays(s) || told(one.d) != told(other.d) {
				t.Errorf("R3: refused Takes ahead of each of %v: %s, want %s", row, told(one.d), told(other.d))
				return false
			}
		}
		return true
	})
}

// R3: an Open that is refused leaves the box that goes on, and its disk, as they were.
func TestRefusedOpensChangeNothing(t *testing.T) {
	for n := range all {
		d := holding(t, used(n), 0)
		b := opened(t, "R3", d, n)
		refused(t, "R3: another disk", holding(t, used(17), 0), api.ErrCorrupt)
		refused(t, "R3: nil", nil, api.ErrArg)
		stands(t, fmt.Sprintf("R3: refused Opens, %d used", n), b, n)
		tells(t, "R3: refused Opens", d, used(n), 0, false)
		takes(t, "R3: refused Opens", b, n)
	}
}

// R2: the disk is handed on, not copied: what is done to it is seen by the box, and its bytes may be changed by nobody who asked for them.
func TestTheDiskIsHandedOn(t *testing.T) {
	d := made(t, 8)
	b := opened(t, "R2", d, 0)
	takesNone(t, "R2: no room", b, api.ErrFull, 0)
	d.Grow(27)
	takes(t, "R2: room", b, 0)
	text := d.Bytes()
	clear(text[:cap(text)])
	takes(t, "R2: bytes that were told are spoilt", b, 1)
	tells(t, "R2: bytes that were told are spoilt", d, used(2), 18, false)
	goesDark(t, d)
	takesNone(t, "R2: power went", b, api.ErrFull, 2)
}

// R4: the same steps are answered the same.
func TestTheSameAgain(t *testing.T) {
	for seed := range int64(50) {
		one, other := begun(t, "R4", 100), begun(t, "R4", 100)
		r, q := rand.New(rand.NewSource(seed)), rand.New(rand.NewSource(seed))
		for range 60 {
			if !one.plays(anyStep(r)) || !other.plays(anyStep(q)) {
				return
			}
			if told(one.d) != told(other.d) {
				t.Fatalf("R4: %s, then %s", told(one.d), told(other.d))
			}
		}
	}
}
