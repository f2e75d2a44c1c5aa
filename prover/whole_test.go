package prover_test

import (
	"slices"
	"strconv"
	"strings"
	"testing"

	"provekernel/api"
	"provekernel/file"
	"provekernel/kernel"
	"provekernel/lib"
	"provekernel/prover"
	"provekernel/syntax"
)

// enough is some fuel with which the kernel finds a text right.
func enough(text string) int {
	for fuel := 0; ; fuel = 2*fuel + 1 {
		if _, _, err := kernel.File(text, fuel); codeOf(err) != "FTired" {
			return fuel
		}
	}
}

// Drawn declarations that the kernel finds right, spelt in the language, come through just so: with values, and with intro and
// exact. What the kernel finds right with n steps is added with 30 n + 1000.
func TestSpelt(t *testing.T) {
	t.Parallel()
	kinds := map[int]int{}
	for seed := range int64(20) {
		p := newPool(seed, libraryEnv(t))
		library := len(p.env.Decls())
		p.declarations(30)
		s := &speller{Rand: p.Rand}
		var cs []api.Command
		for _, d := range p.env.Decls() {
			c, ok := s.command(d, p.Intn(2) == 0)
			if !ok {
				t.Fatalf("%s cannot be written", file.Print(d))
			}
			cs = append(cs, c)
			kinds[d.Kind]++
		}
		text, want := syntax.Print(cs), kernel.Export(p.env)
		fuel := enough(want)
		r := prover.Process(text, 30*fuel+1000)
		if r.Text != want || r.Err != nil || r.Added != len(cs) {
			_, at := api.Code(r.Err)
			t.Errorf("seed %d: %s, %d added of %d: %s", seed, shown(r.Err), r.Added, len(cs), shortened(text[at:]))
			continue
		}
		holds(t, "seed "+strconv.Itoa(int(seed)), r, fuel, library)
	}
	if kinds[api.Axiom] < 5 || kinds[api.Def] < 400 || kinds[api.Inductive] < 150 {
		t.Errorf("hardly anything is drawn: %v", kinds)
	}
}

// other is a term with something else in one place.
func (p *pool) other(t api.Term) api.Term {
	if len(t.Args) > 0 && p.Intn(6) > 0 {
		i := p.Intn(len(t.Args))
		t.Args = slices.Clone(t.Args)
		t.Args[i] = p.other(t.Args[i])
		return t
	}
	if t.Kind == api.Sort || p.Intn(4) == 0 {
		return api.Term{Kind: api.Sort, Levels: []api.Level{p.level(1)}}
	}
	return p.constant(p.names[p.Intn(len(p.names))])
}

// spoilt is a declaration with something else in one of its terms.
func (p *pool) spoilt(d api.Decl) api.Decl {
	d.Ctors = slices.Clone(d.Ctors)
	ts := parts(&d)
	one := ts[p.Intn(len(ts))]
	*one = p.other(*one)
	return d
}

// Drawn declarations in which something is another: what the kernel refuses is refused, with its code at the command, of a proof by
// intro and exact at exact; what it does not refuse is added.
func TestSpoilt(t *testing.T) {
	t.Parallel()
	said := map[string]int{}
	for seed := range int64(10) {
		p := newPool(seed, libraryEnv(t))
		p.declarations(6)
		s := &speller{Rand: p.Rand}
		var ahead []api.Command
		for _, d := range p.env.Decls() {
			c, _ := s.command(d, false)
			ahead = append(ahead, c)
		}
		base := syntax.Print(ahead)
		for _, d := range p.env.Decls() {
			p.params = d.Params
			d = p.spoilt(d)
			d.Name += "x"
			for i := range d.Ctors {
				d.Ctors[i].Name += "x"
			}
			byTactics := p.Intn(2) == 0
			c, ok := s.command(d, byTactics)
			if !ok {
				continue
			}
			text := base + syntax.Print([]api.Command{c})
			_, n, err := kernel.File(kernel.Export(p.env)+file.Print(d), steps)
			r := prover.Process(text, 30*steps+1000)
			said[codeOf(err)]++
			want := codeOf(err)
			at := len(base)
			if typ := (api.Decl{Kind: api.Axiom, Name: d.Name, Params: d.Params, Type: d.Type}); byTactics && d.Kind == api.Def && want != "right" && kernel.Look(p.env, typ, steps) == nil {
				cs := parsed(t, text)
				tactics := cs[len(cs)-1].Tactics
				want, at = "FTactic", tactics[len(tactics)-1].At
			}
			switch {
			case want == "FTired":
			case r.Added != n:
				t.Errorf("%s: %d added, %s; the kernel: %d, %s", shortened(text[len(base):]), r.Added, shown(r.Err), n, shown(err))
			case want == "right" && r.Text != kernel.Export(p.env)+file.Print(d)+"\n":
				t.Errorf("%s becomes something else", shortened(text[len(base):]))
			case want != "right" && shown(r.Err) != want+" at "+strconv.Itoa(at):
				t.Errorf("%s: %s; the kernel: %s", shortened(text[len(base):]), shown(r.Err), shown(err))
			}
		}
	}
	for _, what := range []string{"right", "FArg", "FFun", "FSort", "FForm"} {
		if said[what] < 5 {
			t.Errorf("%s was hardly said: %v", what, said)
		}
	}
}

// Each theorem of the library and of the book keeps all that is promised of it when it is spelt as the kernel knows it.
func TestBookSpelt(t *testing.T) {
	t.Parallel()
	r := prover.Process(lib.Text()+book, 3000)
	e, _, err := kernel.File(r.Text, 3000)
	if err != nil {
		t.Fatal(shown(err))
	}
	for seed := range int64(6) {
		p := newPool(seed, e)
		s := &speller{Rand: p.Rand}
		var cs []api.Command
		for _, d := range e.Decls() {
			c, ok := s.command(d, seed%2 == 0)
			if !ok {
				t.Fatalf("%s cannot be written", file.Print(d))
			}
			cs = append(cs, c)
		}
		again := prover.Process(syntax.Print(cs), 30*enough(r.Text)+1000)
		if again.Text != r.Text || again.Err != nil || !slices.Equal(again.Names, r.Names) {
			t.Errorf("seed %d: %d added, %s", seed, again.Added, shown(again.Err))
		}
	}
}

// Proofs that speak of nothing but what there is have no axiom: nobody proves what is false.
func TestNothingFalse(t *testing.T) {
	t.Parallel()
	r := prover.Process(lib.Text(), 10000)
	for _, more := range []string{
		"theorem x : False by $.", "theorem x : zero = succ zero by $.", "theorem x (A : Prop) : A by $.", "theorem x : forall (A : Prop), Or A (Not A) by $.", "theorem x : forall (n : Nat), add n n = n by intro n; $.", "theorem x : Exists (fun (n : Nat) => False) by $.",
		"theorem x.{u} (A : Sort (u+1)) (l : List A) : length l = zero by induction l; refl; $.",
	} {
		for _, proof := range []string{"refl", "assumption", "exact _", "apply False.rec", "apply intro", "constructor 1", "exact (_ : False)", "apply cong", "rewrite refl; refl", "exists zero", "apply trans", "apply (symm _)", "exact False.rec _ _", "exact x", "simpl; refl", "intro h; exact h", "have h : False; exact h; exact h", "symm; symm; refl"} {
			text := lib.Text() + strings.Replace(more, "$", proof, 1)
			if got := prover.Process(text, 10000); got.Added != r.Added || got.Err == nil {
				t.Errorf("%s is proved", shortened(text))
			}
		}
	}
}
