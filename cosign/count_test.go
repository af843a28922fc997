package cosign_test

import (
	"fmt"
	"math/rand"
	"slices"
	"testing"

	"broadsheet/api"
	"broadsheet/cosign"
)

// countIs holds Count against what the test knows ahead, and Met against each Quorum that may be.
func countIs(t *testing.T, name string, witnesses int, c api.Checkpoint, want int, l ...api.Cosig) {
	t.Helper()
	for quorum := 1; quorum <= witnesses; quorum++ {
		p := policy(witnesses, quorum)
		if got := cosign.Count(p, c, l...); got != want {
			t.Errorf("P11.2: Count, %s, %d witnesses: %d, want %d", name, witnesses, got, want)
		}
		if got := cosign.Met(p, c, l...); got != (want >= quorum) {
			t.Errorf("P11.2: Met, %s, a Quorum of %d of %d, %d cosigned: %v", name, quorum, witnesses, want, got)
		}
	}
}

// orders tells all orders of l.
func orders(l []api.Cosig) [][]api.Cosig {
	if len(l) == 0 {
		return [][]api.Cosig{nil}
	}
	var out [][]api.Cosig
	for i := range l {
		for _, rest := range orders(slices.Delete(slices.Clone(l), i, i+1)) {
			out = append(out, append([]api.Cosig{l[i]}, rest...))
		}
	}
	return out
}

// all tells one of each witness.
func all(t *testing.T, index, size int) []api.Cosig {
	t.Helper()
	var l []api.Cosig
	for witness := range api.MaxWitnesses {
		l = append(l, by(t, witness, index, size))
	}
	return l
}

// P11.2, R4, R5: of none, nil or empty, whatever is in the room behind the list: none.
func TestCountOfNone(t *testing.T) {
	for n := 1; n <= api.MaxWitnesses; n++ {
		countIs(t, "none", n, point(5), 0)
		countIs(t, "nil", n, point(5), 0, nil...)
		countIs(t, "an empty list", n, point(5), 0, []api.Cosig{}...)
		countIs(t, "an empty list with room", n, point(5), 0, all(t, 3, 5)[:0]...)
		countIs(t, "a list with room", n, point(5), 1, all(t, 3, 5)[:1]...)
	}
}

// P11.2: each choice of witnesses, in each order.
func TestCountOfEachChoice(t *testing.T) {
	whole := all(t, 3, 5)
	for choice := range 1 << api.MaxWitnesses {
		var l []api.Cosig
		for witness := range api.MaxWitnesses {
			if choice>>witness&1 == 1 {
				l = append(l, whole[witness])
			}
		}
		for n := 1; n <= api.MaxWitnesses; n++ {
			want := 0
			for witness := range n {
				want += choice >> witness & 1
			}
			for _, order := range orders(l) {
				countIs(t, fmt.Sprintf("choice %b", choice), n, point(5), want, order...)
			}
		}
	}
}

// P11.2: the chapter's run, and many of the same.
func TestCountOfTheSame(t *testing.T) {
	for witness := range api.MaxWitnesses {
		g := by(t, witness, 3, 5)
		countIs(t, "the same twice", 4, point(5), 1, g, g)
		countIs(t, "the same twice, in two memories", 4, point(5), 1, g, copied(g))
		for _, times := range []int{3, 4, 5, 255, 256, 257, 5000} {
			countIs(t, fmt.Sprintf("the same %d times", times), 4, point(5), 1, slices.Repeat([]api.Cosig{g}, times)...)
		}
		other := by(t, (witness+1)%4, 3, 5)
		countIs(t, "the same around another one's", 4, point(5), 2, g, other, g)
		countIs(t, "two, twice", 4, point(5), 2, g, other, g, other)
	}
	countIs(t, "all, a thousand times", 4, point(5), 4, slices.Repeat(all(t, 3, 5), 1000)...)
}

// P11.2: two unlike ones of one witness that both verify: it is one witness.
func TestCountOfOtherKeys(t *testing.T) {
	for witness := range api.MaxWitnesses {
		var l []api.Cosig
		for index := range api.Keys {
			l = append(l, by(t, witness, index, 5))
			countIs(t, fmt.Sprintf("%d keys of witness %d", index+1, witness), 4, point(5), 1, l...)
		}
		countIs(t, "two keys", 4, point(5), 1, l[15], l[0])
		countIs(t, "two keys and another witness", 4, point(5), 2, l[15], by(t, (witness+3)%4, 0, 5), l[0])
	}
}

// P11.2: one that verifies counts, though others of the same witness that do not stand ahead of it or behind it.
func TestCountOfSuchAsDoNotVerify(t *testing.T) {
	for witness := range api.MaxWitnesses {
		good := by(t, witness, 3, 5)
		other := by(t, (witness+1)%4, 3, 5)
		bad := []api.Cosig{
			by(t, witness, 3, 6), unsigned(witness, 3), {Witness: witness}, renamed(other, witness),
			turned(good, func(s *api.Sig) { s.Path[3][31] ^= 1 }), turned(good, func(s *api.Sig) { s.Index = 4 }),
		}
		for i, wrong := range bad {
			name := fmt.Sprintf("witness %d, case %d", witness, i)
			countIs(t, "a wrong one: "+name, 4, point(5), 0, wrong)
			countIs(t, "behind a wrong one: "+name, 4, point(5), 1, wrong, good)
			countIs(t, "ahead of a wrong one: "+name, 4, point(5), 1, good, wrong)
			countIs(t, "between wrong ones: "+name, 4, point(5), 1, wrong, good, wrong)
			countIs(t, "wrong between: "+name, 4, point(5), 2, other, wrong, good, other)
		}
		countIs(t, "all wrong ones", 4, point(5), 0, bad...)
		countIs(t, "behind all wrong ones", 4, point(5), 1, append(bad, good)...)
		for _, number := range noWitnesses {
			countIs(t, fmt.Sprintf("under the number %d", number), 4, point(5), 1, renamed(good, number), good, renamed(other, number))
		}
	}
}

// P11.2: a policy or a checkpoint that is not right, with enough cosignatures: none, and not met, whatever the Quorum is (of 0, too: the chapter's example).
func TestCountOfWhatIsNotRight(t *testing.T) {
	l := all(t, 3, 5)
	for _, w := range wrongPolicies() {
		for _, list := range [][]api.Cosig{nil, l[:1], l[:3], l} {
			if got := cosign.Count(w.p, point(5), list...); got != 0 || cosign.Met(w.p, point(5), list...) {
				t.Errorf("P11.2: %s, %d cosigned: Count %d, Met %v", w.name, len(list), got, cosign.Met(w.p, point(5), list...))
			}
		}
	}
	for i, c := range notRight() {
		var laid []api.Cosig
		for witness := range api.MaxWitnesses {
			laid = append(laid, wantCosig(t, seedOf(witness), 3, witness, c))
		}
		countIs(t, fmt.Sprintf("not right, case %d", i), 3, c, 0, l...)
		countIs(t, fmt.Sprintf("not right, case %d, their letters signed", i), 3, c, 0, laid...)
	}
	if cosign.Met(policy(3, 0), point(5)) || cosign.Met(policy(3, 0), point(5), l...) || cosign.Met(policy(0, 0), point(5)) {
		t.Error("P11.2: Met of a Quorum of 0: true")
	}
}

// P11.2: cosignatures of several checkpoints: each is counted for its own alone.
func TestCountOfSeveralCheckpoints(t *testing.T) {
	l := []api.Cosig{by(t, 0, 1, 5), by(t, 1, 1, 6), by(t, 2, 1, 5), by(t, 3, 1, 7), by(t, 1, 2, 7), by(t, 0, 3, 7)}
	for size, want := range map[int]int{4: 0, 5: 2, 6: 1, 7: 3, 8: 0} {
		countIs(t, fmt.Sprintf("Size %d", size), 4, point(size), want, l...)
	}
}

// P11.2: any lists of right and wrong ones, against the set of witnesses that have a right one there.
func TestCountOfAny(t *testing.T) {
	dice := rand.New(rand.NewSource(11))
	type known struct {
		g    api.Cosig
		good bool
	}
	var pool []known
	for witness := range api.MaxWitnesses {
		pool = append(pool, known{by(t, witness, 3, 5), true}, known{by(t, witness, 7, 5), true}, known{by(t, witness, 3, 6), false})
		pool = append(pool, known{renamed(by(t, witness, 3, 5), (witness+1)%4), false}, known{renamed(by(t, witness, 3, 5), witness-4), false}, known{unsigned(witness, 3), false})
	}
	for round := range 1500 {
		n := 1 + dice.Intn(api.MaxWitnesses)
		who := map[int]int{}
		var l []api.Cosig
		for range dice.Intn(9) {
			x := pool[dice.Intn(len(pool))]
			l = append(l, x.g)
			if x.good && x.g.Witness < n {
				who[x.g.Witness]++
			}
		}
		countIs(t, fmt.Sprintf("round %d", round), n, point(5), len(who), l...)
	}
}
