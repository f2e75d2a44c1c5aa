/- The contract of declaration. -/
import Derived.Test.YtkgkmlikpljbiaaDoorFCtor

namespace Go.Proofs.YtkgkmlikpljbiaaDoor
open Go.RowKit

/-- Names lie in a row. -/
def NmsIn (W : World) (S : Nat → Prop) (A : Option Addr) (ps : List ByteArray) : Prop := ∀ i (hi : i < ps.length), ∃ b, A = some ⟨b, 0, none⟩ ∧ S b ∧ W.cell? ⟨b, i, none⟩ = some (.string ps[i])
/-- Six cells of a block. -/
def Six (W : World) (b o : Nat) (v : Value) : Prop := ∃ u0 u1 u2 u3 u4 u5, v = .agg #[u0, u1, u2, u3, u4, u5] ∧ W.cell? ⟨b, o, none⟩ = some u0 ∧ W.cell? ⟨b, o + 1, none⟩ = some u1 ∧ W.cell? ⟨b, o + 2, none⟩ = some u2 ∧ W.cell? ⟨b, o + 3, none⟩ = some u3 ∧ W.cell? ⟨b, o + 4, none⟩ = some u4 ∧ W.cell? ⟨b, o + 5, none⟩ = some u5
/-- Constructors lie in a row. -/
def CtsIn (W : World) (S : Nat → Prop) (D : Nat) (A : Option Addr) (cs : List (ByteArray × Tm)) : Prop := ∀ i (hi : i < cs.length), ∃ b v, A = some ⟨b, 0, none⟩ ∧ S b ∧ Six W b (i * 6) v ∧ CtorV W S D cs[i] v
/-- A declaration's cells. -/
def DeclV (W : World) (S : Nat → Prop) (D : Nat) (d : Dc) (v : Value) : Prop :=
  ∃ (Ap : Option Addr) (cp : Nat) (kt nt : Int) (nmt : ByteArray) (At : Option Addr) (lt ct : Nat) (At' : Option Addr) (lt' ct' : Nat) (kv nv : Int) (nmv : ByteArray) (Av : Option Addr) (lv cv : Nat) (Av' : Option Addr) (lv' cv' : Nat) (Ac : Option Addr) (cc : Nat), v = .agg #[.int .i64 (d.kd : Nat), .string d.nm, .slice Ap d.ps.length cp, .int .i64 kt, .int .i64 nt, .string nmt, .slice At lt ct, .slice At' lt' ct', .int .i64 kv, .int .i64 nv, .string nmv, .slice Av lv cv, .slice Av' lv' cv', .int .i64 (d.ar : Nat), .slice Ac d.cs.length cc] ∧
    NmsIn W S Ap d.ps ∧ InTm W S D d.ty (.agg #[.int .i64 kt, .int .i64 nt, .string nmt, .slice At lt ct, .slice At' lt' ct']) ∧ InTm W S D d.vl (.agg #[.int .i64 kv, .int .i64 nv, .string nmv, .slice Av lv cv, .slice Av' lv' cv']) ∧ CtsIn W S D Ac d.cs ∧ d.ps.length ≤ cp

section
variable {W W' : World} {S S' : Nat → Prop} {D : Nat} (h : ∀ b, b < W.heap.size → S b → S' b ∧ W'.heap[b]? = W.heap[b]?)
include h
theorem NmsIn.keep {A : Option Addr} {ps : List ByteArray} (hv : NmsIn W S A ps) : NmsIn W' S' A ps := fun i hi => by
  obtain ⟨b, e, hb, hc⟩ := hv i hi
  have := h b (World.block_lt_of_cell? _ _ hc) hb
  exact ⟨b, e, this.1, (World.cell?_of_block this.2).trans hc⟩
theorem CtsIn.keep {A : Option Addr} {cs : List (ByteArray × Tm)} (hv : CtsIn W S D A cs) : CtsIn W' S' D A cs := fun i hi => by
  obtain ⟨b, v, e, hb, ⟨u0, u1, u2, u3, u4, u5, ev, c0, c1, c2, c3, c4, c5⟩, hV⟩ := hv i hi
  have hx := h b (World.block_lt_of_cell? _ _ c0) hb
  exact ⟨b, v, e, hx.1, ⟨u0, u1, u2, u3, u4, u5, ev, (World.cell?_of_block hx.2).trans c0, (World.cell?_of_block hx.2).trans c1, (World.cell?_of_block hx.2).trans c2, (World.cell?_of_block hx.2).trans c3, (World.cell?_of_block hx.2).trans c4, (World.cell?_of_block hx.2).trans c5⟩, hV.keep h⟩
theorem DeclV.keep {d : Dc} {v : Value} (hv : DeclV W S D d v) : DeclV W' S' D d v := by
  obtain ⟨Ap, cp, kt, nt, nmt, At, lt, ct, At', lt', ct', kv, nv, nmv, Av, lv, cv, Av', lv', cv', Ac, cc, e, h1, h2, h3, h4⟩ := hv
  exact ⟨Ap, cp, kt, nt, nmt, At, lt, ct, At', lt', ct', kv, nv, nmv, Av, lv, cv, Av', lv', cv', Ac, cc, e, h1.keep h, h2.keep h, h3.keep h, h4.1.keep h, h4.2⟩
end
theorem own_cap {W : World} {base n c m : Nat} {A : Option Addr} {xs : List Value} (h : W.ownsRow base 9 1 (.slice A n c) m xs) : m ≤ c := by
  rcases h.2 with ⟨_, h0⟩ | ⟨g, cap, cur, e, _, _, hc, _⟩
  · omega
  · injection e with e1 e2 e3
    omega
theorem NmsIn.of_own {W : World} {base n c : Nat} {A : Option Addr} {ps : List ByteArray} (h : W.ownsRow base 9 1 (.slice A n c) ps.length (ps.map .string)) : NmsIn W (fun b => base ≤ b) A ps := fun i hi => by
  rcases h.2 with ⟨_, h0⟩ | ⟨g, cap, cur, e, hb, _⟩
  · omega
  · injection e with e1 e2 e3
    subst e1
    refine ⟨g, rfl, hb, ?_⟩
    have := h.cells (g := g) rfl i (.string ps[i]) (by simp [hi])
    rw [Addr.add_lit] at this
    simpa using this
theorem CtsIn.of_row {W : World} {D n0 n c : Nat} {A : Option Addr} {cs : List (ByteArray × Tm)} {xs : List Value} (h : GRow (CK D cs) W 67 6 0 n0 cs.length (.slice A n c) xs) : CtsIn W (fun b => n0 ≤ b) D A cs := fun i hi => by
  obtain ⟨A1, c1, e, hp⟩ := h.out (CK.keeps _ _)
  injection e with e1 e2 e3
  subst e1
  obtain ⟨g, a, ea, hg, hz, hc, _, hv⟩ := hp i hi
  obtain ⟨k, n, nm, B, la, lc, B', ta, tc, ev, hin⟩ := hv
  injection ev with ev
  subst ev
  refine ⟨g, _, ea, hg, ⟨_, _, _, _, _, _, rfl, by simpa using hc 0 (by omega), by simpa using hc 1 (by omega), by simpa using hc 2 (by omega), by simpa using hc 3 (by omega), by simpa using hc 4 (by omega), by simpa using hc 5 (by omega)⟩, ?_⟩
  exact ⟨k, n, nm, B, la, lc, B', ta, tc, rfl, hin.keep fun b _ hb => ⟨by omega, rfl⟩⟩

/-- What declaration comes to. -/
def DeclEnd (w : World) (sc : Nat) (s : ByteArray) (D p : Nat) (e : Ending) (w' : World) : Prop :=
  (∃ d p' v, DeclAt s D d p p' ∧ e = .returned v ∧ DeclV w' (fun b => w.heap.size ≤ b) D d v ∧ ScAt w' sc s p' ∧ Touched w sc w') ∨ ((∀ d p', ¬ DeclAt s D d p p') ∧ Thrown w sc e w')

/-- The beginning of a declaration stands there. -/
structure Begun (s : ByteArray) (p kd : Nat) (nm : ByteArray) (ps : List ByteArray) (p1 p2 p3 p4 : Nat) : Prop where
  o : SignAt s 40 p p1
  k : 1 ≤ kd ∧ kd ≤ 3
  w : WordAt s (dword kd) p1 p2
  n : WordAt s nm p2 p3
  ps : ParamsAt s ps p3 p4
/-- Whatever declaration stands there begins so. -/
theorem Begun.of {s : ByteArray} {D p kd p1 p2 p3 p4 p' : Nat} {nm : ByteArray} {ps : List ByteArray} {d : Dc} (h : Begun s p kd nm ps p1 p2 p3 p4) (hd : DeclAt s D d p p') : d.kd = kd ∧ d.nm = nm ∧ d.ps = ps ∧ ∃ p5 p6 p7 p8, ((d.kd = 3 ∧ NumAt s d.ar p4 p5) ∨ (d.kd ≠ 3 ∧ d.ar = 0 ∧ p5 = p4)) ∧ RT s D d.ty p5 p6 ∧ ((d.kd = 2 ∧ RT s D d.vl p6 p7) ∨ (d.kd ≠ 2 ∧ d.vl = zeroT ∧ p7 = p6)) ∧ ((d.kd = 3 ∧ CtorsAt s D d.cs p7 p8) ∨ (d.kd ≠ 3 ∧ d.cs = [] ∧ p8 = p7)) ∧ SignAt s 41 p8 p' := by
  obtain ⟨a1, a2, a3, a4, a5, a6, a7, a8, h1, hk, h2, h3, h4, hr⟩ := hd
  obtain rfl := h.o.same h1
  obtain ⟨ew, rfl⟩ := h.w.same h2
  obtain ⟨en, rfl⟩ := h.n.same h3
  obtain ⟨ep, rfl⟩ := h.ps.same h4
  exact ⟨(dword_inj h.k hk ew).symm, en.symm, ep.symm, a5, a6, a7, a8, hr⟩

end Go.Proofs.YtkgkmlikpljbiaaDoor
