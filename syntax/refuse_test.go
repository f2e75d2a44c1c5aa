package syntax

import (
	"strconv"
	"strings"
	"testing"

	"provekernel/api"
)

// refusedAt holds what Parse says of a text against the place where it must be refused; -1: nowhere.
func refusedAt(t *testing.T, text string, want int) {
	t.Helper()
	cs, err := Parse(text)
	code, at := api.Code(err)
	switch {
	case want < 0 && err != nil:
		t.Errorf("%q is refused: fault %d at %d", text, code, at)
	case want >= 0 && (code != api.FText || at != want || cs != nil):
		t.Errorf("%q: fault %d at %d, %d commands; want FText at %d", text, code, at, len(cs), want)
	}
}

// Each text has a ^ ahead of the token that cannot stand there.
func TestRefused(t *testing.T) {
	forty := strings.Repeat("a", 40)
	for _, marked := range []string{
		"^.", "^a", "^:", "^0", "^(axiom a : A.)", "^in", "^axioms a : A.", "axiom a : A. ^.", "axiom a : A.^;", "axiom a : A. ^x", "axiom a : A. -- x\n^|",
		"axiom^", "axiom ^.", "axiom ^(a) : A.", "axiom ^_ : A.", "axiom ^1 : A.", "axiom ^@a : A.", "axiom ^axiom : A.", "axiom ^" + forty + "a : A.", "axiom " + forty + " : A.",
		"axiom a^", "axiom a^.", "axiom a ^b : A.", "axiom a ^= A.", "axiom a ^:= A.", "axiom a ^_ : A.", "axiom a^. {u} : A.",
		"axiom a.{^", "axiom a.{^} : A.", "axiom a.{^0} : A.", "axiom a.{^max} : A.", "axiom a.{^(u)} : A.", "axiom a.{u^", "axiom a.{u ^v} : A.", "axiom a.{u^+1} : A.", "axiom a.{u,^} : A.", "axiom a.{u,^,v} : A.", "axiom a.{u^) : A.", "axiom a.{u^.{v}} : A.", "axiom a.{u}^.{v} : A.",
		"axiom a (^", "axiom a (^) : A.", "axiom a (^: A) : A.", "axiom a (^_ : A) : A.", "axiom a (^@x : A) : A.", "axiom a (x^", "axiom a (x^) : A.", "axiom a (x^, y : A) : A.", "axiom a (x^} : A.", "axiom a (x ^:= A) : A.", "axiom a (x : ^) : A.", "axiom a (x : A^", "axiom a (x : A^} : B.", "axiom a {x : A^) : B.", "axiom a {^} : B.", "axiom a {x : A ^: B} : C.", "axiom a (x : A) ^b : B.", "axiom a (^(x : A)) : B.",
		"axiom a :^", "axiom a : ^.", "axiom a : A^", "axiom a : A ^:= b.", "axiom a : A ^by refl.", "axiom a : A ^| b : A.", "axiom a : A ^: B.", "axiom a : A^, B.", "axiom a : A^; B.", "axiom a : A^) .", "axiom a : A ^axiom b : B.", "axiom a : A ^in.", "axiom a : A ^=> B.", "axiom a : A ^+ 1.", "axiom a : A ^1.", "axiom a : A ^max.", "axiom a : A ^{x}.",
		"def a : A^", "def a : A^.", "def a : A ^by refl.", "def a : A ^| c : A.", "def a : A := ^.", "def a : A :=^", "def a : A := b ^:= c.", "def a : A := b^", "def a : A := b ^by refl.", "def a ^:= b.",
		"theorem a : A^", "theorem a : A^.", "theorem a : A ^| c : A.", "theorem a : A := b ^by refl.", "theorem a : A by^", "theorem a : A by^.", "theorem a : A by ^:= b.", "theorem a : A by refl ^:= b.", "theorem a : A by refl^", "theorem a : A by ^;refl.", "theorem a : A by refl;^.", "theorem a : A by refl;^;refl.", "theorem a : A by ^Refl.", "theorem a : A by ^refl.x.", "theorem a : A by ^(refl).", "theorem a : A by ^by refl.", "theorem a : A by ^fun.", "theorem a : A by ^x.", "theorem a : A by ^0.", "theorem a : A by ^@refl.",
		"theorem a : A by intro^.", "theorem a : A by intro ^_.", "theorem a : A by intro ^(x).", "theorem a : A by intro x ^(y).", "theorem a : A by intro x^, y.", "theorem a : A by intro ^1.", "theorem a : A by intro x ^in.",
		"theorem a : A by exact^.", "theorem a : A by exact^;refl.", "theorem a : A by exact b ^: A.", "theorem a : A by apply^.", "theorem a : A by apply ^by.", "theorem a : A by rewrite^.", "theorem a : A by exists^.", "theorem a : A by exists ^1.",
		"theorem a : A by assumption ^x.", "theorem a : A by refl ^x.", "theorem a : A by simpl ^x.", "theorem a : A by symm ^x.", "theorem a : A by symm ^symm.",
		"theorem a : A by induction^.", "theorem a : A by induction x ^y.", "theorem a : A by induction ^(x).", "theorem a : A by cases^.", "theorem a : A by cases x ^y.", "theorem a : A by cases ^_.",
		"theorem a : A by have^.", "theorem a : A by have ^: A.", "theorem a : A by have x^.", "theorem a : A by have x ^y : A.", "theorem a : A by have x ^:= A.", "theorem a : A by have x :^.", "theorem a : A by have x : A ^:= b.",
		"theorem a : A by constructor^.", "theorem a : A by constructor ^x.", "theorem a : A by constructor 1 ^2.", "theorem a : A by constructor ^01.", "theorem a : A by constructor ^100.", "theorem a : A by constructor 99.", "theorem a : A by constructor ^(1).",
		"inductive^", "inductive I^.", "inductive I ^| c : I.", "inductive I : ^| c : I.", "inductive I : A^", "inductive I : A ^:= B.", "inductive I : A c ^: I.", "inductive I : A |^", "inductive I : A | ^.", "inductive I : A | ^| c : I.", "inductive I : A | c^", "inductive I : A | c^.", "inductive I : A | c ^(x : A) : I.", "inductive I : A | c^.{u} : I.", "inductive I : A | c ^:= I.", "inductive I : A | c : ^.", "inductive I : A | c : I^", "inductive I : A | c : I ^by refl.", "inductive I : A | ^in : I.",
		"axiom a : fun^", "axiom a : fun ^=> x.", "axiom a : fun x^", "axiom a : fun x^.", "axiom a : fun x ^-> x.", "axiom a : fun x ^= x.", "axiom a : fun x^, x.", "axiom a : fun ^_ => x.", "axiom a : fun (^) => x.", "axiom a : fun (x^) => x.", "axiom a : fun (x : A ^=> x.", "axiom a : fun {x : A^) => x.", "axiom a : fun x ^: A => x.", "axiom a : fun x =>^", "axiom a : fun x => ^.", "axiom a : fun ^@x => x.", "axiom a : fun (x : A) ^: A => x.",
		"axiom a : forall^", "axiom a : forall ^x, A.", "axiom a : forall ^, A.", "axiom a : forall (x^), A.", "axiom a : forall (x : A)^", "axiom a : forall (x : A) ^x, A.", "axiom a : forall (x : A) ^=> A.", "axiom a : forall (x : A)^.", "axiom a : forall (x : A),^", "axiom a : forall (x : A), ^.", "axiom a : forall (x : A), ^, A.", "axiom a : forall ^A -> B.",
		"axiom a : let^", "axiom a : let ^: A := b in c.", "axiom a : let ^(x : A) := b in c.", "axiom a : let x ^:= b in c.", "axiom a : let x ^y : A := b in c.", "axiom a : let x : ^:= b in c.", "axiom a : let x : A ^in c.", "axiom a : let x : A = b ^in c.", "axiom a : let x : A := ^in c.", "axiom a : let x : A := b^", "axiom a : let x : A := b^.", "axiom a : let x : A := b^; c.", "axiom a : let x : A := b in^", "axiom a : let x : A := b in ^.", "axiom a : let ^_ : A := b in c.",
		"axiom a : ^-> A.", "axiom a : A ->^", "axiom a : A -> ^.", "axiom a : A -> ^-> B.", "axiom a : ^= A.", "axiom a : A =^", "axiom a : A = ^.", "axiom a : A = ^= B.", "axiom a : A = B ^= C.", "axiom a : A = B -> C = D ^= E.", "axiom a : A = ^-> B.", "axiom a : A = ^fun x => x.", "axiom a : A = ^forall (x : A), B.", "axiom a : A = ^let x : A := b in c.", "axiom a : A ^fun x => x.", "axiom a : A ^forall (x : A), B.", "axiom a : A ^let x : A := b in c.", "axiom a : A = B ^fun x => x.",
		"axiom a : @^", "axiom a : @^.", "axiom a : @^_.", "axiom a : @^@x.", "axiom a : @^(x).", "axiom a : @^Type.", "axiom a : @x ^:= y.", "axiom a : (x)^.{u}.", "axiom a : _^.{u}.", "axiom a : Prop^.{u}.", "axiom a : Type^.{u}.", "axiom a : Sort u^.{u}.", "axiom a : x.{u}^.{u}.",
		"axiom a : (^", "axiom a : (^).", "axiom a : (^:A).", "axiom a : (A^", "axiom a : (A^.", "axiom a : (A^}.", "axiom a : (A^, B).", "axiom a : (A :^", "axiom a : (A : ^).", "axiom a : (A : B^", "axiom a : (A : B ^: C).", "axiom a : (A ^:= B).", "axiom a : (A)^).", "axiom a : ((A)^.", "axiom a : ^{A}.",
		"axiom a : x.{^", "axiom a : x.{^}.", "axiom a : x.{^,u}.", "axiom a : x.{u^", "axiom a : x.{u,^}.", "axiom a : x.{u ^v}.", "axiom a : x.{u^).", "axiom a : x.{u^.", "axiom a : x.{^Type}.", "axiom a : x.{^_}.", "axiom a : x.{^@u}.", "axiom a : x.{u^.{v}}.",
		"axiom a : x.{u+^}.", "axiom a : x.{u+^v}.", "axiom a : x.{u+^(1)}.", "axiom a : x.{u+^+1}.", "axiom a : x.{^+1}.", "axiom a : x.{1 ^2}.", "axiom a : x.{1+1+^}.", "axiom a : x.{(^)}.", "axiom a : x.{(u^}.", "axiom a : x.{(u^,v)}.", "axiom a : x.{(u)^)}.", "axiom a : x.{((u)^}.",
		"axiom a : x.{max^}.", "axiom a : x.{max u^}.", "axiom a : x.{max u v ^w}.", "axiom a : x.{max u v^+1}.", "axiom a : x.{max u^+1 v}.", "axiom a : x.{max ^max u v w}.", "axiom a : x.{imax^}.", "axiom a : x.{imax u^}.", "axiom a : x.{imax u^,v}.", "axiom a : x.{imax u ^imax}.", "axiom a : x.{imax u v^+1}.", "axiom a : x.{u ^max v}.",
		"axiom a : Sort^.", "axiom a : Sort ^_.", "axiom a : Sort ^max u v.", "axiom a : Sort ^Type.", "axiom a : Sort u^+1.", "axiom a : Sort 1^+1.", "axiom a : Sort 1 ^1.", "axiom a : Sort (^).", "axiom a : Sort (max u^).", "axiom a : Sort ^@u.", "axiom a : Sort ^100.", "axiom a : Sort ^00.", "axiom a : Sort ^01.", "axiom a : Sort ^" + strings.Repeat("9", 30) + ".", "axiom a : Sort 99.",
		"axiom a : Type ^99.", "axiom a : Type 98.", "axiom a : Type ^098.", "axiom a : Type ^00.", "axiom a : Type 1 ^1.", "axiom a : Type^+1.", "axiom a : Prop ^0.", "axiom a : Type ^100.",
		"axiom a : ^" + forty + "b.", "axiom a : A^&B.", "axiom a : A ^- B.", "axiom a : A ^> B.", "axiom a : A ^\r.", "axiom a : ^é.", "axiom a : A ^' B.", "axiom a : A ^\x00.", "axiom a : A ^\"B\".", "axiom a : A ^[B].", "axiom a : A ^/ B.", "axiom a : A ^# 1.", "axiom a : ^λ.", "axiom a : A ^\\.", "axiom a : A ^! .", "axiom a^\xef\xbb\xbf : A.", "^\xef\xbb\xbfaxiom a : A.",
	} {
		refusedAt(t, strings.Replace(marked, "^", "", 1), strings.Index(marked, "^"))
	}
}

// A text that ends too early is refused at its end, behind all blanks and remarks.
func TestEndsTooEarly(t *testing.T) {
	const whole = "theorem a.{u} (x : A) : forall (y : B), f.{max u 1} x = (y : C) by intro h; exact h"
	ends := 0
	for n := range len(whole) + 1 {
		for _, behind := range []string{"", " ", "\n\n", " -- a : A.", " --\n "} {
			text := whole[:n] + behind
			_, err := Parse(text)
			code, at := api.Code(err)
			if n == 0 {
				refusedAt(t, text, -1)
			} else if code != api.FText || at > len(text) {
				t.Errorf("%q: fault %d at %d", text, code, at)
			} else if at == len(text) {
				ends++
			}
		}
	}
	if ends < 300 {
		t.Errorf("only %d texts end too early", ends)
	}
	refusedAt(t, "axiom a : A -- .", 16)
	refusedAt(t, "axiom a : A \n", 13)
	refusedAt(t, " --\naxiom ", 10)
}

// The number that makes a level more than 99 successors one upon another is the one that cannot stand there.
func TestSuccessors(t *testing.T) {
	for _, marked := range []string{
		"u+99", "u+^100", "u+99+^1", "u+98+^2", "u+99+0", "u+99+0+^1", "u+50+^50", "(u+50)+^50", "((u+50))+49", "((u+50)+49)+^1", "(u)+99",
		"99", "^100", "99+^1", "98+1", "98+1+^1", "0+99", "0+^100", "(99)+^1", "1+^99", "1+98",
		"max (u+99) v", "max (u+^100) v", "max u ^100", "imax (u+99+^1) v", "(max (u+99) v)+99", "(max (u+99) v)+99+^1", "(imax 99 99)+99", "(imax 99 99)+^100", "max (99+^1) u",
		"u+" + strings.Repeat("1+", 98) + "1", "u+" + strings.Repeat("1+", 99) + "^1", "u+0" + strings.Repeat("+0", 500) + "+99", "u+99" + strings.Repeat("+0", 500) + "+^1",
		"u+^01", "u+^00", "u+0",
	} {
		level := strings.Replace(marked, "^", "", 1)
		for _, around := range [][2]string{{"axiom a : Sort (", ")."}, {"axiom a : x.{v, ", "}."}, {"axiom a : f (fun (x : Sort (", ")) => x)."}} {
			at := strings.Index(marked, "^")
			if at >= 0 {
				at += len(around[0])
			}
			refusedAt(t, around[0]+level+around[1], at)
		}
	}
}

// production: what a word of the grammar may be: the document's rules, with a rule of its own for each repetition and choice.
type production [][]string

// grammar as the document has it. What stands in it in capitals, or is no rule, is a token.
func grammar() map[string]production {
	rules := map[string]production{}
	for _, line := range strings.Split(strings.TrimSpace(`
file = | command file
command = axiom NAME params binders : expr . | def NAME params binders : expr := expr . | theorem NAME params binders : expr proof . | inductive NAME params binders : expr ctors .
proof = := expr | by tactic tactics
tactics = | ; tactic tactics
ctors = | BAR NAME : expr ctors
params = | .{ NAME names, }
names, = | , NAME names,
binders = | binder binders
binder = ( NAME names : expr ) | { NAME names : expr }
names = | NAME names
expr = fun funny funs => expr | forall binder binders , expr | let NAME : expr := expr in expr | equal arrow
arrow = | -> expr
funs = | funny funs
funny = NAME | binder
equal = apply same
same = | EQUALS apply
apply = atom atoms
atoms = | atom atoms
atom = called | @ called | _ | Prop | Type digits | Sort latom | ( expr typed )
digits = | NUMBER
called = NAME given
given = | .{ level levels }
levels = | , level levels
typed = | : expr
level = max latom latom | imax latom latom | latom pluses
pluses = | + NUMBER pluses
latom = NUMBER | NAME | ( level )
tactic = intro NAME names | exact expr | apply! expr | assumption | refl | induction NAME | cases NAME | rewrite expr | have NAME : expr | constructor NUMBER | exists expr | simpl | symm
`), "\n") {
		word, right, _ := strings.Cut(line, " =")
		for _, choice := range strings.Split(right, "|") {
			rules[word] = append(rules[word], strings.Fields(choice))
		}
	}
	return rules
}

// pending is what is still to come, the next first.
type pending struct {
	word string
	then *pending
}

// viable tells which of a text's tokens is the first with which no text of the grammar goes on; -1: none, and the text is whole.
func viable(rules map[string]production, ts []token) int {
	ways := []*pending{{"file", &pending{word: "END"}}}
	for i, t := range ts {
		var next []*pending
		for _, way := range ways {
			next = append(next, behind(rules, way, t)...)
		}
		if len(next) == 0 {
			return i
		}
		ways = next
	}
	return -1
}

// behind are the ways to go on behind a token that comes next.
func behind(rules map[string]production, way *pending, t token) []*pending {
	if way == nil {
		return nil
	}
	rule, ok := rules[way.word]
	if !ok && isTerminal(t, way.word) {
		if way.then == nil {
			return []*pending{nil}
		}
		return []*pending{way.then}
	}
	var all []*pending
	for _, choice := range rule {
		next := way.then
		for i := len(choice) - 1; i >= 0; i-- {
			next = &pending{choice[i], next}
		}
		all = append(all, behind(rules, next, t)...)
	}
	return all
}

// isTerminal tells whether a token is what the grammar asks for.
func isTerminal(t token, word string) bool {
	switch word {
	case "END":
		return t.kind == end
	case "NAME":
		return t.kind == name
	case "NUMBER":
		n, err := strconv.Atoi(t.text)
		return t.kind == digits && err == nil && n < 100 && (len(t.text) == 1 || t.text[0] != '0')
	case "BAR":
		return t.text == "|"
	case "EQUALS":
		return t.text == "="
	}
	return t.text == strings.TrimSuffix(word, "!")
}

// Texts with a token or two too many, too few or others, against the grammar by itself.
func TestRefusedWhereTheGrammarEnds(t *testing.T) {
	rules := grammar()
	whole, places := 0, make([]int, 60)
	for seed := range 4000 {
		d := newDrawn(seed)
		d.commands(1 + d.pick(2))
		texts := spoilt(d)
		ts := tokens(strings.Join(texts, " "))
		want := -1
		if i := viable(rules, ts); i >= 0 {
			want = ts[i].at
			places[min(i, 59)]++
		} else {
			whole++
		}
		refusedAt(t, strings.Join(texts, " "), want)
	}
	if whole < 200 || places[3] == 0 || places[20] == 0 || places[59] == 0 {
		t.Errorf("%d texts are whole; the places of the others: %v", whole, places)
	}
}

// spoilt are the tokens of what has been drawn, with up to three changes.
func spoilt(d *drawn) []string {
	const others = ". .{ : := = => -> ( ) { } , ; | @ _ + fun forall let in by Type Prop Sort max imax axiom def theorem inductive a u 0 1 07 100 intro exact have cases constructor refl & - '"
	fields := strings.Fields(others)
	texts := append([]string(nil), d.texts...)
	for range d.pick(4) {
		i, other := d.pick(len(texts)), fields[d.pick(len(fields))]
		switch d.pick(5) {
		case 0:
			texts = append(texts[:i], texts[i+1:]...)
		case 1:
			texts = append(texts[:i], append([]string{other}, texts[i:]...)...)
		case 2:
			texts[i] = other
		case 3:
			j := d.pick(len(texts))
			texts[i], texts[j] = texts[j], texts[i]
		case 4:
			texts = texts[:i+1]
		}
		if len(texts) == 0 {
			texts = []string{other}
		}
	}
	return texts
}
