package prover_test

import (
	"strconv"
	"strings"
	"testing"

	"provekernel/api"
	"provekernel/kernel"
	"provekernel/lib"
	"provekernel/prover"
	"provekernel/reduce"
	"provekernel/syntax"
)

// shown is the text of a fault.
func shown(err error) string {
	names := [...]string{"right", "FText", "FLong", "FTwice", "FName", "FParam", "FLevels", "FVar", "FFun", "FArg", "FSort", "FForm", "FPos", "FLevel", "FTired", "FStuck", "FTactic"}
	code, at := api.Code(err)
	switch {
	case code == 0:
		return names[0]
	case code < 0 || code >= len(names):
		return "no fault: " + strconv.Itoa(code)
	}
	return names[code] + " at " + strconv.Itoa(at)
}

// codeOf is the text of a fault's code.
func codeOf(err error) string {
	code, _, _ := strings.Cut(shown(err), " ")
	return code
}

// parsed is the commands of a text.
func parsed(t testing.TB, text string) []api.Command {
	t.Helper()
	cs, err := syntax.Parse(text)
	if err != nil {
		t.Fatalf("%s is no text: %s", shortened(text), shown(err))
	}
	return cs
}

// shortened is a text without the library that stands at its beginning, and not too long to be read.
func shortened(text string) string {
	if rest, ok := strings.CutPrefix(text, lib.Text()); ok {
		text = "(the library) " + rest
	}
	if len(text) > 2000 {
		text = text[:1500] + " .. " + text[len(text)-400:]
	}
	return text
}

// libraryEnv is an environment that knows the library.
func libraryEnv(t testing.TB) *reduce.Env {
	t.Helper()
	e, _, err := kernel.File(prover.Process(lib.Text(), 10000).Text, 10000)
	if err != nil {
		t.Fatalf("the library's export: %s", shown(err))
	}
	return e
}
