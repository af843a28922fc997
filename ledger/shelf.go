package ledger

// shelf has items, each once, in the order in which they came. They are strings, so that the list and the map have them in one memory, and nobody can change them.
type shelf struct {
	items  []string
	places map[string]int
}

func newShelf() *shelf { return &shelf{places: map[string]int{}} }

func (s *shelf) size() int { return len(s.items) }

// find tells the place of an item.
func (s *shelf) find(item string) (int, bool) {
	place, there := s.places[item]
	return place, there
}

// put tells the place of an item, behind all others if it is new, and whether it was there.
func (s *shelf) put(item string) (int, bool) {
	place, there := s.find(item)
	if !there {
		place = s.size()
		s.items = append(s.items, item)
		s.places[item] = place
	}
	return place, there
}
