package compact

import "testing"

// What is kept is no more than the nodes: the room behind them has none that were joined.
func TestJoinedNodesAreGone(t *testing.T) {
	r := New()
	for n := range 100 {
		for _, node := range r.nodes[len(r.nodes):cap(r.nodes)] {
			if node != nil {
				t.Fatalf("%d leaves: a node behind the nodes: %x", n, node)
			}
		}
		r.Append([]byte{byte(n)})
	}
}
