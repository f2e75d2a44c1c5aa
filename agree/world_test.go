// Package agree: tests alone: what package small says of a text is held against what the kernel says. They stand here since
// nothing in small's own folder may know the kernel.
package agree

import (
	"errors"
	"strconv"
	"strings"
	"testing"

	"provekernel/api"
	"provekernel/kernel"
	"provekernel/small"
)

// families: of numbers, of proofs, with parameters, indices and levels, with arguments that are functions into themselves.
const families = `(inductive Nat () 0 (sort (s 0)) (ctor zero (const Nat)) (ctor succ (pi (const Nat) (const Nat))))
(inductive Bool () 0 (sort (s 0)) (ctor true (const Bool)) (ctor false (const Bool)))
(inductive Eq (u) 2 (pi (sort u) (pi #0 (pi #1 (sort 0)))) (ctor refl (pi (sort u) (pi #0 (app (app (app (const Eq u) #1) #0) #0)))))
(inductive List (u) 1 (pi (sort (s u)) (sort (s u))) (ctor nil (pi (sort (s u)) (app (const List u) #0))) (ctor cons (pi (sort (s u)) (pi #0 (pi (app (const List u) #1) (app (const List u) #2))))))
(inductive Vec (u) 1 (pi (sort (s u)) (pi (const Nat) (sort (s u)))) (ctor vnil (pi (sort (s u)) (app (app (const Vec u) #0) (const zero)))) (ctor vcons (pi (sort (s u)) (pi (const Nat) (pi #1 (pi (app (app (const Vec u) #2) #1) (app (app (const Vec u) #3) (app (const succ) #2))))))))
(inductive W (u v) 2 (pi (sort (s u)) (pi (pi #0 (sort (s v))) (sort (s (max u v))))) (ctor sup (pi (sort (s u)) (pi (pi #0 (sort (s v))) (pi #1 (pi (pi (app #1 #0) (app (app (const W u v) #3) #2)) (app (app (const W u v) #3) #2)))))))
(inductive False () 0 (sort 0))
(inductive And () 2 (pi (sort 0) (pi (sort 0) (sort 0))) (ctor both (pi (sort 0) (pi (sort 0) (pi #1 (pi #1 (app (app (const And) #3) #2)))))))
(inductive Or () 2 (pi (sort 0) (pi (sort 0) (sort 0))) (ctor inl (pi (sort 0) (pi (sort 0) (pi #1 (app (app (const Or) #2) #1))))) (ctor inr (pi (sort 0) (pi (sort 0) (pi #0 (app (app (const Or) #2) #1))))))
(inductive Acc (u) 2 (pi (sort u) (pi (pi #0 (pi #1 (sort 0))) (pi #1 (sort 0)))) (ctor acc (pi (sort u) (pi (pi #0 (pi #1 (sort 0))) (pi #1 (pi (pi #2 (pi (app (app #2 #0) #1) (app (app (app (const Acc u) #4) #3) #1))) (app (app (app (const Acc u) #3) #2) #1)))))))
(inductive Le () 1 (pi (const Nat) (pi (const Nat) (sort 0))) (ctor same (pi (const Nat) (app (app (const Le) #0) #0))) (ctor less (pi (const Nat) (pi (const Nat) (pi (app (app (const Le) #1) #0) (app (app (const Le) #2) (app (const succ) #1)))))))
(inductive Tree (r) 1 (pi (sort (s r)) (sort (s r))) (ctor leaf (pi (sort (s r)) (pi #0 (app (const Tree r) #1)))) (ctor node (pi (sort (s r)) (pi (pi (const Nat) (app (const Tree r) #1)) (pi (app (const Tree r) #1) (app (const Tree r) #2))))))
`

// others: definitions and axioms; of some the type comes to what it must be only by steps.
const others = `(def add () (pi (const Nat) (pi (const Nat) (const Nat))) (lam (const Nat) (lam (const Nat) (app (app (app (app (const Nat.rec (s 0)) (lam (const Nat) (const Nat))) #1) (lam (const Nat) (lam (const Nat) (app (const succ) #0)))) #0))))
(def mul () (pi (const Nat) (pi (const Nat) (const Nat))) (lam (const Nat) (lam (const Nat) (app (app (app (app (const Nat.rec (s 0)) (lam (const Nat) (const Nat))) (const zero)) (lam (const Nat) (app (const add) #2))) #0))))
(def one () (const Nat) (app (const succ) (const zero)))
(def two () (const Nat) (app (app (const add) (const one)) (const one)))
(def id (u) (pi (sort u) (pi #0 #1)) (lam (sort u) (lam #0 #0)))
(def comp (u v w) (pi (sort u) (pi (sort v) (pi (sort w) (pi (pi #1 #1) (pi (pi #3 #3) (pi #4 #3)))))) (lam (sort u) (lam (sort v) (lam (sort w) (lam (pi #1 #1) (lam (pi #3 #3) (lam #4 (app #2 (app #1 #0)))))))))
(def Type () (sort (s (s 0))) (sort (s 0)))
(def N () (const Type) (const Nat))
(def Unary () (const Type) (pi (const Nat) (const Nat)))
(def Deep () (const Type) (app (app (const id (s (s 0))) (const Type)) (const Unary)))
(def Arr () (pi (const Nat) (const Type)) (lam (const Nat) (app (app (app (app (const Nat.rec (s (s 0))) (lam (const Nat) (const Type))) (const Nat)) (lam (const Nat) (lam (const Type) (pi (const Nat) #1)))) #0)))
(def isZero () (pi (const Nat) (const Bool)) (lam (const Nat) (app (app (app (app (const Nat.rec (s 0)) (lam (const Nat) (const Bool))) (const true)) (lam (const Nat) (lam (const Bool) (const false)))) #0)))
(def length (u) (pi (sort (s u)) (pi (app (const List u) #0) (const Nat))) (lam (sort (s u)) (app (app (app (app (const List.rec (s 0) u) #0) (lam (app (const List u) #0) (const Nat))) (const zero)) (lam #0 (lam (app (const List u) #1) (lam (const Nat) (app (const succ) #0)))))))
(def append (u) (pi (sort (s u)) (pi (app (const List u) #0) (pi (app (const List u) #1) (app (const List u) #2)))) (lam (sort (s u)) (lam (app (const List u) #0) (lam (app (const List u) #1) (app (app (app (app (app (const List.rec (s u) u) #2) (lam (app (const List u) #2) (app (const List u) #3))) #0) (lam #2 (lam (app (const List u) #3) (lam (app (const List u) #4) (app (app (app (const cons u) #5) #2) #0))))) #1)))))
(def sum () (pi (app (const Tree 0) (const Nat)) (const Nat)) (app (app (app (app (const Tree.rec (s 0) 0) (const Nat)) (lam (app (const Tree 0) (const Nat)) (const Nat))) (lam (const Nat) #0)) (lam (pi (const Nat) (app (const Tree 0) (const Nat))) (lam (app (const Tree 0) (const Nat)) (lam (pi (const Nat) (const Nat)) (lam (const Nat) (app (app (const add) (app #1 (const two))) #0)))))))
(def subst (u v) (pi (sort u) (pi #0 (pi (pi #1 (sort v)) (pi (app #0 #1) (pi #3 (pi (app (app (app (const Eq u) #4) #3) #0) (app #3 #1))))))) (lam (sort u) (lam #0 (lam (pi #1 (sort v)) (lam (app #0 #1) (lam #3 (lam (app (app (app (const Eq u) #4) #3) #0) (app (app (app (app (app (app (const Eq.rec v u) #5) #4) (lam #5 (lam (app (app (app (const Eq u) #6) #5) #0) (app #5 #1)))) #2) #1) #0))))))))
(axiom n () (const N))
(axiom f () (const Unary))
(axiom g () (const Deep))
(axiom arr () (pi (const Nat) (app (const Arr) #0)))
(axiom P () (pi (const Nat) (sort 0)))
(axiom p () (pi (const Nat) (app (const P) #0)))
(axiom q () (pi (app (const P) (const two)) (const Nat)))
(axiom Big () (sort (s (s 0))))
(axiom Any (u v) (sort (max u v)))
(axiom six (a b c d e f) (sort (imax a (max b (imax c (s (max d (imax e f))))))))
(def lets () (const Nat) (let (const Type) (const N) (let #0 (const two) (app (app (const add) #0) #0))))
(def twoIsTwo () (app (app (app (const Eq (s 0)) (const Nat)) (const two)) (app (const succ) (const one))) (app (app (const refl (s 0)) (const N)) (const two)))
`

// worldText is all that: every declaration of it is right with fuel 100.
const worldText = families + others

// worldSize: how many declarations that has.
var worldSize = strings.Count(worldText, "\n")

// right: what said tells where there is no fault.
const right = "right"

// tired: what it tells of that fault, wherever it is.
const tired = "FTired"

// said is a fault as a text, with its place.
func said(err error) string {
	names := map[int]string{
		api.FText: "FText", api.FLong: "FLong", api.FTwice: "FTwice", api.FName: "FName", api.FParam: "FParam", api.FLevels: "FLevels", api.FVar: "FVar", api.FFun: "FFun",
		api.FArg: "FArg", api.FSort: "FSort", api.FForm: "FForm", api.FPos: "FPos", api.FLevel: "FLevel", api.FTired: tired,
	}
	if err == nil {
		return right
	}
	var fault *api.Fault
	if !errors.As(err, &fault) || fault == nil || names[fault.Code] == "" {
		return "another fault"
	}
	if fault.Code == api.FTired {
		return tired
	}
	return names[fault.Code] + " at " + strconv.Itoa(fault.At)
}

// codeOf is what said tells, without the place.
func codeOf(said string) string {
	code, _, _ := strings.Cut(said, " ")
	return code
}

// agrees asks both of a text: where the kernel is not tired small says the same. The answer is what the kernel says.
func agrees(t testing.TB, text string, fuel int) (int, string) {
	t.Helper()
	_, n, err := kernel.File(text, fuel)
	got, gotErr := small.Check(text, fuel)
	if said(err) != tired && (got != n || said(gotErr) != said(err)) {
		t.Errorf("Check(%s), fuel %d: %d, %s; kernel.File: %d, %s", shortened(text), fuel, got, said(gotErr), n, said(err))
	}
	return n, said(err)
}

// shortened is a text without the world that stands at its beginning, and not too long to be read.
func shortened(text string) string {
	if rest, ok := strings.CutPrefix(text, worldText); ok {
		text = "(the world) " + rest
	}
	if len(text) > 2000 {
		text = text[:2000] + " .."
	}
	return text
}

// textCase: a text, how many declarations are right, what is said.
type textCase struct {
	text string
	n    int
	want string
}

// agreeAll: of each text both say what is wanted.
func agreeAll(t *testing.T, fuel int, cases []textCase) {
	t.Helper()
	for _, c := range cases {
		if n, got := agrees(t, c.text, fuel); n != c.n || got != c.want {
			t.Errorf("kernel.File(%s), fuel %d: %d, %s; want %d, %s", shortened(c.text), fuel, n, got, c.n, c.want)
		}
	}
}

// app is the text of an application to several arguments.
func app(f string, as ...string) string {
	for _, a := range as {
		f = "(app " + f + " " + a + ")"
	}
	return f
}

// num is the text of a number.
func num(n int) string { return repeated(n, "(app (const succ) ", "(const zero)", ")") }

// repeated is a text around another, so many times: what opens it, the inside, what closes it.
func repeated(n int, open, inner, end string) string {
	return strings.Repeat(open, n) + inner + strings.Repeat(end, n)
}

func TestTheWorldIsRight(t *testing.T) {
	for _, fuel := range []int{100, 1000, 100000} {
		if n, got := agrees(t, worldText, fuel); n != worldSize || got != right {
			t.Errorf("fuel %d: %d of %d, %s", fuel, n, worldSize, got)
		}
	}
}
