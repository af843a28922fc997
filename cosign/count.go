package cosign

import "broadsheet/api"

// Count tells how many witnesses of p's have cosigned c in l, each one once, however often it is there.
func Count(p api.Policy, c api.Checkpoint, l ...api.Cosig) int {
	return counted(p, c, l, Verify)
}

// Met: have as many witnesses cosigned c as p asks? Right is asked, too: a Quorum below 1 would be met by nobody.
func Met(p api.Policy, c api.Checkpoint, l ...api.Cosig) bool {
	return Right(p) && Count(p, c, l...) >= p.Quorum
}

// counted tells how many witnesses have one in l that verify takes. Of a witness that has one no other is looked at, so that a long list of one witness's costs little.
func counted(p api.Policy, c api.Checkpoint, l []api.Cosig, verify func(api.Policy, api.Checkpoint, api.Cosig) bool) int {
	var has [api.MaxWitnesses]bool
	count := 0
	for _, g := range l {
		if isWitness(g.Witness) && !has[g.Witness] && verify(p, c, g) {
			has[g.Witness] = true
			count++
		}
	}
	return count
}
