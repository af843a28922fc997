package ledger_test

import (
	"fmt"
	"testing"

	"broadsheet/api"
	"broadsheet/check"
	"broadsheet/disk"
	"broadsheet/keys"
	"broadsheet/ledger"
	"broadsheet/sign"
)

// publishes holds that Publish tells the checkpoint of the items, signed with that key, that Last tells it, too, and how many keys are left.
func publishes(t *testing.T, name string, l *ledger.Ledger, by *signer, key int, items []string, left int) {
	t.Helper()
	s, why := l.Publish()
	if why != api.OK || !by.isFor(s, key, items) {
		t.Errorf("%s: Publish: size %d, key %d, %v, want size %d, key %d", name, s.Check.Size, s.Sig.Index, why, len(items), key)
	}
	lasts(t, name, l, by, key, items)
	if l.KeysLeft() != left {
		t.Errorf("%s: KeysLeft %d, want %d", name, l.KeysLeft(), left)
	}
}

// publishesNone holds that Publish answers why, and no checkpoint.
func publishesNone(t *testing.T, name string, l *ledger.Ledger, why api.Errno) {
	t.Helper()
	left := l.KeysLeft()
	if s, got := l.Publish(); got != why || !nothing(s) {
		t.Errorf("%s: Publish: size %d, key %d, %v, want none, %v", name, s.Check.Size, s.Sig.Index, got, why)
	}
	if l.KeysLeft() != left {
		t.Errorf("%s: KeysLeft %d, want %d", name, l.KeysLeft(), left)
	}
}

// lasts holds that Last tells the checkpoint of the items, signed with that key.
func lasts(t *testing.T, name string, l *ledger.Ledger, by *signer, key int, items []string) {
	t.Helper()
	for range 2 {
		if s, ok := l.Last(); !ok || !by.isFor(s, key, items) {
			t.Errorf("%s: Last: size %d, key %d, %v, want size %d, key %d", name, s.Check.Size, s.Sig.Index, ok, len(items), key)
		}
	}
}

// lastsNone holds that Last tells nothing.
func lastsNone(t *testing.T, name string, l *ledger.Ledger) {
	t.Helper()
	for range 2 {
		if s, ok := l.Last(); ok || !nothing(s) {
			t.Errorf("%s: Last: size %d, key %d, %v, want none", name, s.Check.Size, s.Sig.Index, ok)
		}
	}
}

// P15.2: example 1: the same, one key; also of a ledger without leaves.
func TestPublishTwice(t *testing.T) {
	by := newSigner(1)
	for n := range 4 {
		k := roomy(t)
		l := opened(t, "P15.2: example 1", kept(t, written(alone(named(0, n))...)), k, named(0, n), 0)
		for range 5 {
			publishes(t, fmt.Sprintf("P15.2: example 1, %d leaves", n), l, by, 0, named(0, n), 15)
			tells(t, "P15.2: example 1", k, used(1), 9, false)
		}
		one, _ := l.Publish()
		other, _ := l.Publish()
		if !alike(one, other) {
			t.Error("P15.2: example 1: not the same")
		}
	}
}

// P15.2: Publish at each new size, until no key is left: its refusal, no checkpoint, and Last stands.
func TestPublishUntilNoKeyIsLeft(t *testing.T) {
	by := newSigner(1)
	d, k := roomy(t), roomy(t)
	l := opened(t, "P15.2", d, k, nil, 0)
	lastsNone(t, "P15.2: ahead of the first Publish", l)
	for key := range allKeys {
		items := named(0, key)
		publishes(t, "P15.2: each size", l, by, key, items, 15-key)
		tells(t, fmt.Sprintf("P15.2: key %d", key), k, used(key+1), 9*key+9, false)
		publishes(t, "P15.2: each size, twice", l, by, key, items, 15-key)
		adds(t, "P15.2", l, named(key, 1), key)
		lasts(t, "P15.2: behind an Add", l, by, key, items)
	}
	for range 3 {
		publishesNone(t, "P15.2: no key is left", l, api.ErrUsed)
		lasts(t, "P15.2: no key is left", l, by, 15, named(0, 15))
		tells(t, "P15.2: no key is left", k, used(16), 144, false)
	}
	adds(t, "P15.2: no key is left", l, named(16, 1), 16)
	publishesNone(t, "P15.2: no key is left, one more leaf", l, api.ErrUsed)
	l = opened(t, "P15.2: no key is left, anew", d, k, named(0, 17), 16)
	publishesNone(t, "P15.2: no key is left, anew", l, api.ErrUsed)
	lastsNone(t, "P15.2: no key is left, anew", l)
}

// P15.2: with all keys used the last checkpoint is told again and again while the size stays.
func TestPublishAgainWithoutAKey(t *testing.T) {
	by := newSigner(1)
	l := opened(t, "P15.2", kept(t, written([]string{"a"})), kept(t, used(15)), []string{"a"}, 15)
	for range 4 {
		publishes(t, "P15.2: the last key", l, by, 15, []string{"a"}, 0)
	}
	adds(t, "P15.2", l, []string{"a"}, 0)
	publishes(t, "P15.2: the last key", l, by, 15, []string{"a"}, 0)
	adds(t, "P15.2", l, []string{"b"}, 1)
	publishesNone(t, "P15.2: a new size", l, api.ErrUsed)
	lasts(t, "P15.2: a new size", l, by, 15, []string{"a"})
}

// P15.2: from each number of used keys: the key is the one that a box on the same disk would take.
func TestPublishTakesTheNextKey(t *testing.T) {
	by := newSigner(1)
	items := []string{"a", "b"}
	for n := range allKeys {
		k := kept(t, used(n))
		box, _ := keys.Open(kept(t, used(n)))
		want, _ := box.Take()
		l := opened(t, "P15.2", kept(t, written(items)), k, items, n)
		publishes(t, "P15.2: the next key", l, by, want, items, box.Left())
		tells(t, "P15.2: the next key", k, used(n+1), 9*n+9, false)
	}
}

// P15.2: Last is what was published since Open: behind Open anew it is none, and the same size is signed with another key.
func TestLastIsSinceOpen(t *testing.T) {
	by := newSigner(1)
	d, k := roomy(t), roomy(t)
	items := []string{"a", "b", "c"}
	l := opened(t, "P15.2", d, k, nil, 0)
	adds(t, "P15.2", l, items, 0, 1, 2)
	for key := range 5 {
		publishes(t, "P15.2: since Open", l, by, key, items, 15-key)
		l = opened(t, "P15.2: since Open, anew", d, k, items, key+1)
		lastsNone(t, "P15.2: since Open, anew", l)
	}
}

// P15.2: where the keys' disk is full Publish answers ErrFull, no checkpoint, and Last stands; with room again the same key signs.
func TestPublishWithoutRoom(t *testing.T) {
	by := newSigner(1)
	for room := range 9 {
		k := made(t, 9+room)
		l := opened(t, "P15.2", roomy(t), k, nil, 0)
		adds(t, "P15.2", l, []string{"a"}, 0)
		publishes(t, "P15.2: room", l, by, 0, []string{"a"}, 15)
		adds(t, "P15.2", l, []string{"b"}, 1)
		for range 3 {
			publishesNone(t, fmt.Sprintf("P15.2: room for %d bytes", room), l, api.ErrFull)
			lasts(t, "P15.2: no room", l, by, 0, []string{"a"})
			tells(t, "P15.2: no room", k, used(1), 9, false)
		}
		k.Grow(18)
		publishes(t, "P15.2: room again", l, by, 1, []string{"a", "b"}, 14)
		tells(t, "P15.2: room again", k, used(2), 18, false)
	}
	l := opened(t, "P15.2", roomy(t), made(t, 8), nil, 0)
	publishesNone(t, "P15.2: no room for the first", l, api.ErrFull)
	lastsNone(t, "P15.2: no room for the first", l)
}

// P15.2: where power goes at the keys' disk, at the first or the second call, or is gone: ErrFull, no checkpoint, and Last stands; the size that was published is told all the same.
func TestPublishWithoutPower(t *testing.T) {
	by := newSigner(1)
	for call := range 3 {
		k := roomy(t)
		l := opened(t, "P15.2", roomy(t), k, nil, 0)
		publishes(t, "P15.2", l, by, 0, nil, 15)
		if call == 0 {
			goesDark(t, k)
		} else {
			k.Arm(call)
			publishes(t, "P15.2: armed", l, by, 0, nil, 15)
			if k.Down() {
				t.Error("P15.2: Publish of the same size makes a call of the disk")
			}
		}
		adds(t, "P15.2", l, []string{"a"}, 0)
		there := 9
		if call > 0 {
			there = 18
		}
		for range 3 {
			publishesNone(t, fmt.Sprintf("P15.2: power goes at call %d", call), l, api.ErrFull)
			lasts(t, "P15.2: without power", l, by, 0, nil)
			tells(t, "P15.2: without power", k, used(2)[:there], 9, true)
		}
		adds(t, "P15.2: keys without power", l, []string{"b"}, 1)
	}
	k := kept(t, used(16))
	goesDark(t, k)
	l := opened(t, "P15.2", roomy(t), k, nil, 16)
	publishesNone(t, "P15.2: no key and no power", l, api.ErrUsed)
}

// P15.2: Publish makes no call of the disk of batches.
func TestPublishLeavesTheBatches(t *testing.T) {
	by := newSigner(1)
	text := written([]string{"a"})
	d := holding(t, text, 0)
	l := opened(t, "P15.2", d, roomy(t), []string{"a"}, 0)
	d.Arm(1)
	publishes(t, "P15.2", l, by, 0, []string{"a"}, 15)
	tells(t, "P15.2: the disk of batches", d, text, 0, false)
	armedSo(t, "P15.2: the disk of batches", d, 1)
	publishes(t, "P15.2: batches without power", l, by, 0, []string{"a"}, 15)
	addsNone(t, "P15.2: batches without power", l, []string{"b"}, api.ErrFull)
	publishes(t, "P15.2: behind a refused Add", l, by, 0, []string{"a"}, 15)
}

// P15.2: Publish makes the calls that a box's Take makes, and answers its refusal: with each Arm and limit, one held against the other.
func TestPublishIsATake(t *testing.T) {
	for arm := range 6 {
		for _, limit := range []int{0, 8, 9, 17, 18, 30} {
			one, other := made(t, limit), made(t, limit)
			l := opened(t, "P15.2", roomy(t), one, nil, 0)
			box, _ := keys.Open(other)
			one.Arm(arm)
			other.Arm(arm)
			for i := range 3 {
				adds(t, "P15.2", l, named(i, 1), i)
				key, want := box.Take()
				s, why := l.Publish()
				if why != want || s.Sig.Index != key || (len(s.Check.Root) == 32) != (want == api.OK) || told(one) != told(other) || l.KeysLeft() != box.Left() {
					t.Fatalf("P15.2: Arm(%d), limit %d: key %d, %v, %s, by Take %d, %v, %s", arm, limit, s.Sig.Index, why, told(one), key, want, told(other))
				}
			}
		}
	}
}

// P15.2: Public is sign.Public of the seed, through all that is done; of other seeds another one, by which nothing verifies.
func TestPublic(t *testing.T) {
	for n := range 3 {
		by := newSigner(n)
		d, k := roomy(t), roomy(t)
		l, why := ledger.Open(d, k, seedOf(n))
		answers(t, "P15.2: Open", why, api.OK)
		adds(t, "P15.2", l, []string{"a"}, 0)
		publishes(t, "P15.2: Public", l, by, 0, []string{"a"}, 15)
		for range 2 {
			if string(l.Public()) != string(sign.Public(seedOf(n))) {
				t.Errorf("P15.2: Public of seed %d: %x", n, l.Public())
			}
		}
		s, _ := l.Last()
		if !check.Verify(l.Public(), s) || check.Verify(sign.Public(seedOf(n+1)), s) {
			t.Errorf("P15.2: Verify under Public of seed %d", n)
		}
	}
}

// P15.2: a full ledger is published as others are.
func TestPublishOfAFullLedger(t *testing.T) {
	items := named(0, most)
	publishes(t, "P15.2: full", with(t, "P15.2", items), newSigner(1), 0, items, 15)
}

// P15.2: a refused Add changes nothing of what is published.
func TestPublishBehindRefusedAdds(t *testing.T) {
	by := newSigner(1)
	d := made(t, len(written([]string{"a"})))
	l := opened(t, "P15.2", d, roomy(t), nil, 0)
	adds(t, "P15.2", l, []string{"a"}, 0)
	publishes(t, "P15.2", l, by, 0, []string{"a"}, 15)
	addsNone(t, "P15.2", l, []string{"b"}, api.ErrFull)
	publishes(t, "P15.2: behind ErrFull", l, by, 0, []string{"a"}, 15)
	addsNone(t, "P15.2", l, named(0, 256), api.ErrLong)
	publishes(t, "P15.2: behind ErrLong", l, by, 0, []string{"a"}, 15)
	adds(t, "P15.2", l, []string{"a", "a"}, 0, 0)
	publishes(t, "P15.2: behind what was there", l, by, 0, []string{"a"}, 15)
}

// diskOf tells a disk with these batches.
func diskOf(t *testing.T, rows ...[]string) *disk.Disk {
	t.Helper()
	return kept(t, written(rows...))
}
