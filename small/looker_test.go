package small

import (
	"strings"
	"testing"

	"provekernel/api"
	"provekernel/file"
)

// read is the term that is the value of a text's last definition, and a looker that knows the declarations ahead of it.
func read(t *testing.T, text string) (*looker, *node) {
	t.Helper()
	ds, err := file.Parse(text)
	if err != nil {
		t.Fatal(text)
	}
	w := newWorld(100000)
	for _, d := range ds[:len(ds)-1] {
		if fault := caught(func() { w.add(d) }); fault != nil {
			t.Fatalf("%s: fault %d", d.Name, fault.Code)
		}
	}
	l := newLooker(w, nil)
	l.left, l.looks = w.fuel, mostLooks
	return l, w.term(&ds[len(ds)-1].Value)
}

// The same term is made once, wherever it stands.
func TestNodes(t *testing.T) {
	l, n := read(t, worldText+"(def x () (const Nat) (app (app (const add) (lam (sort u) (app (const f) #1))) (app (const f) #1)))")
	_, args := n.spine()
	if args[0].parts[1] != args[1] {
		t.Errorf("one term is made twice")
	}
	if args[0].free != 1 || args[1].free != 2 || n.free != 2 || n.plain || !args[1].plain || args[0].plain {
		t.Errorf("free %d, %d, %d, plain %v, %v, %v", args[0].free, args[1].free, n.free, args[0].plain, args[1].plain, n.plain)
	}
	if !n.has("f") || !n.has("add") || n.has("u") || n.has("Nat") {
		t.Errorf("constants that stand in it")
	}
	a, b := api.Term{Kind: api.Const, Name: "c", Levels: []api.Level{{}, {Kind: api.Param, Name: "u"}}}, api.Term{Kind: api.Const, Name: "c", Levels: []api.Level{{Kind: api.Param, Name: "u"}, {}}}
	if l.term(&a) == l.term(&b) || l.term(&a) != l.term(&a) {
		t.Errorf("constants with levels")
	}
	x, y := api.Term{Kind: api.Var, N: 12}, api.Term{Kind: api.Var, N: 1}
	if l.term(&x) == l.term(&y) {
		t.Errorf("variables")
	}
}

// What hangs on nothing is found once, in however many places it stands.
func TestWhatIsFoundOnce(t *testing.T) {
	l, n := read(t, worldText+"(def x () (const Nat) (app (app (const add) (app (app (const add) (const one)) (const one))) (app (app (const add) (const one)) (const one))))")
	v := l.delay(n, l.own)
	for v != nil {
		head, ok := l.force(v).(*stuck)
		if !ok {
			t.Fatalf("it is no number")
		}
		v = nil
		if len(head.args) == 1 {
			v = head.args[0]
		}
	}
	steps := l.fuel - l.left
	_, args := n.spine()
	l.force(l.delay(args[0], l.own))
	l.force(l.delay(n, l.own))
	if again := l.fuel - l.left; again != steps || steps > 30 {
		t.Errorf("%d steps, then %d", steps, again)
	}
}

// Calls that lie too deep within each other end with FTired, as do questions that compare too much.
func TestGuards(t *testing.T) {
	number := func(inner string) string {
		return strings.Repeat("(app (const succ) ", 50) + inner + strings.Repeat(")", 50)
	}
	l, n := read(t, worldText+"(def x () (const Nat) (app (app (const add) "+number("(const zero)")+") (app (lam (const Nat) "+number("#0")+") (const zero))))")
	_, args := n.spine()
	tired := func(deep, looks, left int) bool {
		l.deep, l.looks, l.left = deep, looks, left
		l.values = map[*node]*thunk{}
		fault := caught(func() {
			if !l.equal(l.delay(args[0], l.own), l.delay(args[1], l.own)) {
				t.Errorf("a number is not equal to itself")
			}
		})
		return fault != nil && fault.Code == api.FTired
	}
	if tired(0, 100, 100) {
		t.Errorf("with enough of all")
	}
	if !tired(deepest-20, 100, 100) {
		t.Errorf("however deep")
	}
	if !tired(0, 20, 100) {
		t.Errorf("however much is compared")
	}
	if !tired(0, 100, 0) {
		t.Errorf("however many steps")
	}
}

// What is kept of terms is given up when much has been done for it, between two questions.
func TestForgetting(t *testing.T) {
	l, n := read(t, worldText+"(def x () (const Nat) (app (app (const add) (const one)) (const one)))")
	typ, v := l.typeOf(n, l.start()), l.delay(n, l.own)
	l.force(v)
	l.ask()
	if l.typeOf(n, l.start()) != typ || l.delay(n, l.own) != v {
		t.Errorf("it is not kept")
	}
	l.taken = mostKept + 1
	l.step()
	if l.delay(n, l.own) != v {
		t.Errorf("it is given up within a question")
	}
	l.ask()
	if len(l.values) > 0 || len(l.types) > 0 || l.taken > 0 {
		t.Errorf("it is kept")
	}
	if l.typeOf(n, l.start()) == typ || l.delay(n, l.own) == v || !l.equal(l.delay(n, l.own), v) {
		t.Errorf("it is not found again")
	}
}
