package tactic

import "strings"

// letters: of how many the names of arguments are made.
const letters = 'z' - 'a' + 1

// letter is the name of a constructor's argument, by its place.
func letter(place int) string {
	r := 'a' + rune(place%letters)
	return string(r) + strings.Repeat("'", place/letters)
}

// namer finds names for new variables.
type namer struct {
	taken map[string]int // those that variables have already
	own   map[string]int // those of the new ones
	names []string       // these, in their order
}

// add adds a name, with as many signs behind it as are needed for it to be none that there is.
func (n *namer) add(name string) {
	for n.taken[name] > 0 || n.own[name] > 0 {
		name += "'"
	}
	n.own[name]++
	n.names = append(n.names, name)
}
