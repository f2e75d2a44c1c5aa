// Package level: levels: see doc/01-level.md.
package level

import (
	"slices"
	"strings"

	"provekernel/api"
	"provekernel/notation"
)

// longestText: how many bytes a level's text may have.
const longestText = 20000

// Parse reads a text that is one level. FLong: more than 20000 bytes; FText: At the first token that cannot stand there.
func Parse(text string) (api.Level, error) {
	return notation.Read(text, longestText, (*notation.Scanner).Level)
}

// Print is a level's text, with one blank between the parts within brackets.
func Print(l api.Level) string {
	var b strings.Builder
	notation.WriteLevel(&b, l)
	return b.String()
}

// Params are a level's parameters, each once, in the order of its text.
func Params(l api.Level) []string {
	var names []string
	places := map[string]int{}
	var walk func(l api.Level)
	walk = func(l api.Level) {
		if l.Kind == api.Param {
			if _, met := places[l.Name]; !met {
				places[l.Name] = len(names)
				names = append(names, l.Name)
			}
			return
		}
		for _, part := range l.Args {
			walk(part)
		}
	}
	walk(l)
	return names
}

// Subst puts levels in the place of parameters: of each the one at its first place in params; others stay.
func Subst(l api.Level, params []string, ls []api.Level) api.Level {
	return rebuild(l, func(param api.Level) api.Level {
		i := slices.Index(params, param.Name)
		if i < 0 || i >= len(ls) {
			return api.Level{Kind: api.Param, Name: param.Name}
		}
		return copied(ls[i])
	})
}

// rebuild is a level anew, with what put makes of each parameter.
func rebuild(l api.Level, put func(param api.Level) api.Level) api.Level {
	if l.Kind == api.Param {
		return put(l)
	}
	made := api.Level{Kind: l.Kind}
	for _, part := range l.Args {
		made.Args = append(made.Args, rebuild(part, put))
	}
	return made
}

// copied shares no list with the level: an answer must not, even where one level is put in twice.
func copied(l api.Level) api.Level {
	return rebuild(l, func(param api.Level) api.Level {
		return api.Level{Kind: api.Param, Name: param.Name}
	})
}
