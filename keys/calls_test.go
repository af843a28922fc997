package keys_test

import (
	"fmt"
	"testing"

	"broadsheet/api"
	"broadsheet/journal"
	"broadsheet/keys"
)

// P14.1: Open makes no call of the disk that changes it where nothing is torn, opened or refused.
func TestOpenCallsNothing(t *testing.T) {
	for n := 1; n < 5; n++ {
		for key := range all + 1 {
			d := holding(t, used(key), 0)
			d.Arm(n)
			for range 3 {
				opened(t, "P14.1: armed", d, key)
			}
			tells(t, "P14.1: armed", d, used(key), 0, false)
			armedSo(t, "P14.1: Open", d, n)
		}
		for _, text := range []string{lies(""), lies("ab"), lies("\x01"), used(3) + lies("\x02"), used(17), used(2) + "12345678"} {
			d := holding(t, text, 5)
			d.Arm(n)
			for range 3 {
				refused(t, "P14.1: armed", d, api.ErrCorrupt)
			}
			tells(t, "P14.1: armed", d, text, 5, false)
			armedSo(t, "P14.1: Open that refuses", d, n)
		}
	}
}

// P14.1: Open makes one call, journal.Open's Cut, where something is torn, opened or refused.
func TestOpenCallsOneCut(t *testing.T) {
	for n := 2; n < 5; n++ {
		for _, rest := range torn() {
			for key := range all + 1 {
				d := holding(t, used(key)+rest, 0)
				d.Arm(n)
				opened(t, "P14.1: armed", d, key)
				tells(t, "P14.1: armed", d, used(key), size*key, false)
				armedSo(t, "P14.1: Open of what is torn", d, n-1)
			}
			for _, front := range []string{lies(""), lies("ab"), used(3) + lies("\x02"), used(17)} {
				d := holding(t, front+rest, 0)
				d.Arm(n)
				refused(t, "P14.1: armed", d, api.ErrCorrupt)
				tells(t, "P14.1: armed", d, front, len(front), false)
				armedSo(t, "P14.1: Open that refuses behind a Cut", d, n-1)
			}
		}
	}
}

// P14.1, P14.2: Take is two calls, an Append of the whole record and a Sync: with each Arm, what each Take answers, and how the disk is behind it.
func TestTakeIsAppendAndSync(t *testing.T) {
	for n := range 2*all + 5 {
		d := made(t, api.MaxDisk)
		b := opened(t, "P14.1", d, 0)
		d.Arm(n)
		there, synced, next := 0, 0, 0
		for i := range all + 2 {
			name := fmt.Sprintf("P14.1: Take %d, Arm(%d)", i, n)
			one, two := 2*i+1, 2*i+2 // which calls of the disk it makes
			if i < all && (n == 0 || one <= n) {
				there++
			}
			if i < all && (n == 0 || two < n) {
				takes(t, name, b, i)
				synced, next = there, i+1
			} else if next == all {
				takesNone(t, name, b, api.ErrUsed, all)
			} else {
				takesNone(t, name, b, api.ErrFull, next)
			}
			tells(t, name, d, used(there), size*synced, n > 0 && min(2*all, two) >= n)
		}
	}
}

// P14.1: Take makes the calls that an Add of its record makes, and answers its refusal: with each Arm and limit, one held against the other.
func TestTakeIsAnAdd(t *testing.T) {
	for arm := range 2*all + 3 {
		for limit := range size*all + 3 {
			one, other := made(t, limit), made(t, limit)
			b := opened(t, "P14.1", one, 0)
			j, _, _ := journal.Open(other)
			one.Arm(arm)
			other.Arm(arm)
			for key, tries := 0, 0; key < all && tries < all; tries++ {
				want := j.Add([]byte{byte(key)})
				got, why := b.Take()
				if why != want || why == api.OK && got != key || why != api.OK && got != 0 || told(one) != told(other) {
					t.Fatalf("P14.1: key %d, Arm(%d), limit %d: %d, %v, %s, by Add %v, %s", key, arm, limit, got, why, told(one), want, told(other))
				}
				if want == api.OK {
					key++
				}
				stands(t, "P14.1: as Adds", b, key)
			}
		}
	}
}

// P14.1: where there is no room Take is one call, an Append that is refused, and makes no Sync: what was loose stays so.
func TestTakeOfAFullDiskIsOneCall(t *testing.T) {
	for n := 2; n < 6; n++ {
		d := made(t, 30)
		answers(t, "P12.1: Append", d.Append([]byte(used(3))), api.OK)
		b := opened(t, "P14.1", d, 3)
		d.Arm(n)
		for i := range n - 1 {
			takesNone(t, fmt.Sprintf("P14.1: Arm(%d), call %d", n, i+1), b, api.ErrFull, 3)
			tells(t, "P14.1: no room", d, used(3), 0, false)
		}
		takesNone(t, fmt.Sprintf("P14.1: Arm(%d), call %d", n, n), b, api.ErrFull, 3)
		tells(t, "P14.1: no room, power went", d, used(3), 0, true)
	}
}

// P14.1: without a key left Take makes no call of the disk.
func TestTakeOfNoneLeftCallsNothing(t *testing.T) {
	for n := 1; n < 5; n++ {
		for name, begin := range spent(t) {
			b, d := begin()
			if d.Down() {
				continue
			}
			was := told(d)
			d.Arm(n)
			for range 9 {
				takesNone(t, "P14.1: "+name, b, api.ErrUsed, all)
			}
			if told(d) != was {
				t.Errorf("P14.1: %s: the disk is %s, want %s", name, told(d), was)
			}
			armedSo(t, "P14.1: "+name, d, n)
		}
	}
}

// P14.1: Next and Left make no call of the disk, and need no power.
func TestNextAndLeftCallNothing(t *testing.T) {
	for key := range all + 1 {
		d := holding(t, used(key), 0)
		b := opened(t, "P14.1", d, key)
		d.Arm(1)
		for range 5 {
			stands(t, "P14.1: armed", b, key)
		}
		tells(t, "P14.1: Next and Left", d, used(key), 0, false)
		armedSo(t, "P14.1: Next and Left", d, 1)
		stands(t, "P14.1: without power", b, key)
	}
}

// P14.1, P14.2: power goes at the first or the second call of a Take, then a Crash with each keep: the refusal, the next key stays; opened anew the box goes on behind all that was told, and behind the key of the record, if that is whole.
func TestPowerGoesAtATake(t *testing.T) {
	for key := range all {
		for call := 1; call < 3; call++ {
			for keep := -1; keep < 2*size; keep++ {
				d := made(t, size*all)
				b := opened(t, "P14.2", d, 0)
				for n := range key {
					takes(t, "P14.2", b, n)
				}
				d.Arm(call)
				for range 3 {
					takesNone(t, fmt.Sprintf("P14.2: key %d, power goes at call %d", key, call), b, api.ErrFull, key)
					tells(t, "P14.2: power went", d, used(key+1), size*key, true)
				}
				d.Crash(keep)
				next := key
				if keep >= size {
					next++
				}
				anew := opened(t, fmt.Sprintf("P14.2: key %d, Crash(%d)", key, keep), d, next)
				tells(t, "P14.2: behind the Crash", d, used(next), size*next, false)
				goesOn(t, "P14.2: behind the Crash", anew, next)
			}
		}
	}
}

// goesOn takes each key from next on to the last one.
func goesOn(t *testing.T, name string, b *keys.Box, next int) {
	t.Helper()
	for key := next; key < all; key++ {
		takes(t, name, b, key)
	}
	takesNone(t, name, b, api.ErrUsed, all)
}

// P14.2: records that were there and not synced are synced with the next key: what Take tells stands on the disk with all that is ahead of it.
func TestTakeSyncsAllThatIsAhead(t *testing.T) {
	for n := range all {
		d := holding(t, used(n), 0)
		b := opened(t, "P14.2: loose", d, n)
		takes(t, "P14.2: loose", b, n)
		d.Crash(0)
		tells(t, "P14.2: loose", d, used(n+1), size*(n+1), false)
		goesOn(t, "P14.2: loose", opened(t, "P14.2: loose, anew", d, n+1), n+1)
	}
}
