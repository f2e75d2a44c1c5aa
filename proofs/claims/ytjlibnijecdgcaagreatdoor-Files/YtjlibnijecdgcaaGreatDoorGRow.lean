/- Two levels are the same as they are written: plain Lean. -/
import Derived.Test.YtjlibnijecdgcaaGreatDoorTok
import Derived.Test.YtjlibnijecdgcaaGreatDoorTm
import Derived.Deep.CutBlock
import Derived.Deep.DeepCutAuto
import Derived.Test.YtjlibnijecdgcaaGreatDoorDTermD
import Derived.Test.YtjlibnijecdgcaaGreatDoorParse

namespace Go.Proofs.YtjlibnijecdgcaaGreatDoor
open Go.RowKit

noncomputable def eqB (a b : LvB) : Bool := @decide (a = b) (Classical.propDecidable _)
theorem eqB_true {a b : LvB} (h : a = b) : eqB a b = true := @decide_eq_true _ (Classical.propDecidable _) h
theorem eqB_false {a b : LvB} (h : a ≠ b) : eqB a b = false := @decide_eq_false _ (Classical.propDecidable _) h

/-- A level is its kind, its name and its parts. -/
theorem Lv.ext3 {a b : LvB} (h1 : a.kind = b.kind) (h2 : a.nm = b.nm) (h3 : a.kids = b.kids) : a = b := by
  cases a <;> cases b <;> simp [kind, nm, kids] at h1 h2 h3 ⊢ <;> first | exact h2 | exact h3

noncomputable def kidsB (a b : LvB) : Bool := @decide (a.kids = b.kids) (Classical.propDecidable _)
theorem kidsB_len {a b : LvB} (h : a.kids.length ≠ b.kids.length) : kidsB a b = false := by
  refine @decide_eq_false _ (Classical.propDecidable _) fun e => ?_; exact h (by rw [e])
theorem kidsB_false {a b : LvB} {k : Nat} (h1 : k < a.kids.length) (h2 : k < b.kids.length) (h : a.kids[k] ≠ b.kids[k]) : kidsB a b = false := by
  refine @decide_eq_false _ (Classical.propDecidable _) fun e => ?_; exact h (by simp [e])
theorem kidsB_true {a b : LvB} (hl : a.kids.length = b.kids.length) (h : ∀ j (h1 : j < a.kids.length) (h2 : j < b.kids.length), a.kids[j] = b.kids[j]) : kidsB a b = true := by
  exact @decide_eq_true _ (Classical.propDecidable _) <| List.ext_getElem hl h
theorem eqB_parts (a b : LvB) : eqB a b = (decide (a.kind = b.kind) && decide (a.nm = b.nm) && kidsB a b) := by
  by_cases h : a = b
  · subst h; rw [eqB_true rfl, kidsB_true rfl fun _ _ _ => rfl]; simp
  · rw [eqB_false h]
    by_cases h1 : a.kind = b.kind
    · by_cases h2 : a.nm = b.nm
      · have : kidsB a b = false := by refine @decide_eq_false _ (Classical.propDecidable _) fun e => ?_; exact h (Lv.ext3 h1 h2 e)
        rw [this]; simp
      · simp [h2]
    · simp [h1]

end Go.Proofs.YtjlibnijecdgcaaGreatDoor

/- A region that draws its order and calls functions that make memory but leave the old alone: one walk in the order of the text serves every order. -/
namespace Go.Proofs.YtjlibnijecdgcaaGreatDoor
open Go.RowKit

/-- A world in which the blocks below n are as they were. -/
structure Later (n : Nat) (W0 : World) where
  W : World
  h : Below n W0 W

theorem Later.some (n : Nat) (W0 : World) : Nonempty (Later n W0) := ⟨⟨W0, Below.refl _ _⟩⟩

theorem wp_region_later {P : Program} {id : Nat} {Q : Exit → Act → World → Prop} {a : Act} {w : World} {l : List Oper} (hm : P.follows .mixedOrders = true) (hB : Region.lexB .any l.toArray = true) {n : Nat} {W0 : World} (hw : Below n W0 w)
    (h : wpQuiet P l.toArray (fun w' => ∃ x : Later n W0, w' = x.W) (fun a' => ∀ w', (∃ x : Later n W0, w' = x.W) → Q .normal a' w') l a) : (Code.region id l.toArray true).wp P Q a w :=
  wp_region_quiet (C := fun w' => ∃ x : Later n W0, w' = x.W) hm hB ⟨⟨w.drew, hw.drew⟩, rfl⟩ (by simpa using h)

/-- A contract, as such a walk wants it. -/
theorem Later.calls {n : Nat} {W0 : World} {f : FuncId} {args : Array Value} {r : Value} (h : ∀ W, Below n W0 W → Calls Tryz.prog f args W fun e w' => e = .returned r ∧ Below W.heap.size W w') (hn : n ≤ W0.heap.size) (x : Later n W0) :
    Calls Tryz.prog f args x.W fun e w' => e = .returned r ∧ ∃ y : Later n W0, w' = y.W :=
  (h x.W x.h).mono fun _ w' ⟨he, hb⟩ => ⟨he, ⟨w', x.h.trans (hb.mono (Nat.le_trans hn x.h.size))⟩, rfl⟩

end Go.Proofs.YtjlibnijecdgcaaGreatDoor

/- The contract of the document's SameLevel: two levels are the same as they are written. -/
namespace Go.Proofs.YtjlibnijecdgcaaGreatDoor
open Go.RowKit

/-- Behind two boxes of three cells nothing old has turned. -/
def Boxes (w : World) (c0 c1 c2 d0 d1 d2 : Value) (W : World) : Prop := Below (w.heap.size + 2) ((w.alloc (.cells #[c0, c1, c2] 94)).alloc (.cells #[d0, d1, d2] 94)) W
section
variable {w W : World} {c0 c1 c2 d0 d1 d2 : Value}
theorem Boxes.old (h : Boxes w c0 c1 c2 d0 d1 d2 W) : Below w.heap.size w W := (((Below.refl _ _).alloc (Nat.le_refl _) _).alloc (by simp) _).trans (Below.mono h (by omega))
theorem Boxes.size (h : Boxes w c0 c1 c2 d0 d1 d2 W) : w.heap.size + 2 ≤ W.heap.size := by have := Below.size h; simpa using this
theorem Boxes.then {W' : World} (h : Boxes w c0 c1 c2 d0 d1 d2 W) (h' : Below W.heap.size W W') : Boxes w c0 c1 c2 d0 d1 d2 W' := Below.trans h (h'.mono h.size)
theorem Boxes.cells (h : Boxes w c0 c1 c2 d0 d1 d2 W) : W.cell? ⟨w.heap.size, 0, none⟩ = some c0 ∧ W.cell? ⟨w.heap.size, 1, none⟩ = some c1 ∧ W.cell? ⟨w.heap.size, 2, none⟩ = some c2 ∧ W.cell? ⟨w.heap.size + 1, 0, none⟩ = some d0 ∧ W.cell? ⟨w.heap.size + 1, 1, none⟩ = some d1 ∧ W.cell? ⟨w.heap.size + 1, 2, none⟩ = some d2 := by
  refine ⟨?_, ?_, ?_, ?_, ?_, ?_⟩ <;> (rw [Below.cell h (by simp)]; simp [World.cell?_alloc_at])
end

end Go.Proofs.YtjlibnijecdgcaaGreatDoor

/- The contract of the document's SameTerm, at one term that lies there twice. -/
namespace Go.Proofs.YtjlibnijecdgcaaGreatDoor
open Go.RowKit

/-- A term's numbers are small. -/
def SmallT : Nat → Tm → Prop
  | 0, _ => False
  | d + 1, t => t.kd ≤ 6 ∧ t.n ≤ 1000000000 ∧ t.ls.length ≤ 200000 ∧ t.ts.length ≤ 3 ∧ ∀ i (hi : i < t.ts.length), SmallT d t.ts[i]

abbrev five (k n : Int) (nm : ByteArray) (v v' : Value) : Obj := .cells #[.int .i64 k, .int .i64 n, .string nm, v, v'] 43

/-- Behind two boxes nothing old has turned. -/
def Boxes5 (w : World) (o o' : Obj) (W : World) : Prop := Below (w.heap.size + 2) ((w.alloc o).alloc o') W
section
variable {w W : World} {o o' : Obj}
theorem Boxes5.old (h : Boxes5 w o o' W) : Below w.heap.size w W := (((Below.refl _ _).alloc (Nat.le_refl _) _).alloc (by simp) _).trans (Below.mono h (by omega))
theorem Boxes5.size (h : Boxes5 w o o' W) : w.heap.size + 2 ≤ W.heap.size := by have := Below.size h; simpa using this
theorem Boxes5.then {W' : World} (h : Boxes5 w o o' W) (h' : Below W.heap.size W W') : Boxes5 w o o' W' := Below.trans h (h'.mono h.size)
end
theorem Boxes5.cells {w W : World} {a0 a1 a2 a3 a4 b0 b1 b2 b3 b4 : Value} (h : Boxes5 w (.cells #[a0, a1, a2, a3, a4] 43) (.cells #[b0, b1, b2, b3, b4] 43) W) : W.cell? ⟨w.heap.size, 3, none⟩ = some a3 ∧ W.cell? ⟨w.heap.size, 4, none⟩ = some a4 ∧ W.cell? ⟨w.heap.size + 1, 3, none⟩ = some b3 ∧ W.cell? ⟨w.heap.size + 1, 4, none⟩ = some b4 := by
  refine ⟨?_, ?_, ?_, ?_⟩ <;> (rw [Below.cell h (by simp)]; simp [World.cell?_alloc_at])

end Go.Proofs.YtjlibnijecdgcaaGreatDoor

/- Rows that are built part by part; what is made of a term by changing its variables and its levels. Plain Lean, no walk. -/
namespace Go.Proofs.YtjlibnijecdgcaaGreatDoor
open Go.RowKit

/-- What is said of a row's parts stands as long as their blocks do. -/
def Keeps (K : World → (Nat → Prop) → Nat → Value → Prop) : Prop := ∀ W W' S S' j v, (∀ b, b < W.heap.size → S b → S' b ∧ W'.heap[b]? = W.heap[b]?) → K W S j v → K W' S' j v

/-- A row that is owned, so many of its parts made; their blocks are neither the row's nor between B and the row's base. -/
structure GRow (K : World → (Nat → Prop) → Nat → Value → Prop) (W : World) (T z B n0 k : Nat) (rv : Value) (xs : List Value) : Prop where
  own : W.ownsRow n0 T z rv k (flat xs)
  len : xs.length = k
  forms : ∀ i (h : i < xs.length), ∃ a : Array Value, xs[i] = .agg a ∧ a.size = z
  parts : ∀ j (h : j < xs.length), K W (fun b => (b < B ∨ n0 ≤ b) ∧ rv.ownBlock ≠ some b) j xs[j]

section
variable {K : World → (Nat → Prop) → Nat → Value → Prop} {W : World} {T z B n0 k : Nat} {rv : Value} {xs : List Value}

theorem GRow.begin (h : W.ownsRow n0 T z rv 0 []) : GRow K W T z B n0 0 rv [] :=
  ⟨h, rfl, fun i hi => absurd hi (by simp), fun j hj => absurd hj (by simp)⟩

theorem GRow.start (K : World → (Nat → Prop) → Nat → Value → Prop) (W : World) (T z B n0 : Nat) : GRow K W T z B n0 0 (.slice none 0 0) [] := GRow.begin (World.ownsRow_nil _ _ _ _)

theorem GRow.later (hK : Keeps K) (h : GRow K W T z B n0 k rv xs) {w' : World} (hb : Below W.heap.size W w') : GRow K w' T z B n0 k rv xs :=
  ⟨h.own.kept (row := none) ⟨hb.os, hb.tape, hb.output, hb.size, fun j hj _ => hb.block j hj⟩ (Classical.em _), h.len, h.forms, fun j hj => hK _ _ _ _ _ _ (fun b hbl hS => ⟨hS, hb.block b hbl⟩) (h.parts j hj)⟩

theorem GRow.set (hK : Keeps K) (h : GRow K W T z B n0 k rv xs) {c q : Nat} (hc : c < n0) (hB : B ≤ c) (u : Value) : GRow K (W.setCell ⟨c, q, none⟩ u) T z B n0 k rv xs :=
  ⟨ownsRow_setCell_below h.own (a := ⟨c, q, none⟩) hc _, h.len, h.forms, fun j hj => hK _ _ _ _ _ _ (fun b hbl hS => ⟨hS, Below.heap_setCell _ _ _ _ (by have := hS.1; show b ≠ c; omega)⟩) (h.parts j hj)⟩

theorem GRow.shape (h : GRow K W T z B n0 k rv xs) : ∃ A c, rv = .slice A k c ∧ ∀ g, A = some g → g.block < W.heap.size ∧ n0 ≤ g.block := by
  rcases h.own.2 with ⟨e, hn⟩ | ⟨g, cap, cur, e, hb, _⟩
  · exact ⟨none, 0, by rw [e, hn], fun g hg => by cases hg⟩
  · refine ⟨some ⟨g, 0, none⟩, cap, e, fun g' hg => ?_⟩
    cases hg
    exact ⟨(h.own.lt g (by rw [e]; rfl)).2, hb⟩

/-- One part more. -/
theorem GRow.push (hK : Keeps K) (h : GRow K W T z B n0 k rv xs) {w5 w6 : World} {m : Nat} {rv' : Value} {a : Array Value} (hBn : B ≤ n0) (hnm : n0 ≤ m) (hm : ∀ g, rv.ownBlock = some g → g < m)
    (hw : Below W.heap.size W w5) (hx : K w5 (fun b => b < B ∨ m ≤ b) k (.agg a)) (ha : a.size = z)
    (hown : w6.ownsRow n0 T z rv' (k + 1) (flat xs ++ a.toList)) (hgr : (w5.alloc (.cells a T)).grownBy w6 rv.ownBlock)
    (hpl : rv'.ownBlock = rv.ownBlock ∨ rv'.ownBlock = some (w5.alloc (.cells a T)).heap.size) : GRow K w6 T z B n0 (k + 1) rv' (xs ++ [.agg a]) := by
  have hz := hw.size
  have hblock : ∀ b, b < w5.heap.size → rv.ownBlock ≠ some b → w6.heap[b]? = w5.heap[b]? := fun b hb hne => by
    rw [hgr.block b (by simp; omega) (fun e => hne e.symm)]
    exact Below.heap_alloc _ _ _ hb
  have hne' : ∀ b, b < w5.heap.size → rv.ownBlock ≠ some b → rv'.ownBlock ≠ some b := fun b hb hne => by
    rcases hpl with e | e
    · rw [e]; exact hne
    · rw [e]; simp; omega
  refine ⟨?_, by simp [h.len], fun i hi => ?_, fun j hj => ?_⟩
  · have : flat (xs ++ [Value.agg a]) = flat xs ++ a.toList := by rw [flat_append]; simp [flat]
    rw [this]
    exact hown
  · by_cases hix : i < xs.length
    · rw [List.getElem_append_left hix]; exact h.forms i hix
    · have e : i = xs.length := by simp at hi; omega
      subst e
      rw [List.getElem_append_right (Nat.le_refl _)]
      exact ⟨a, by simp, ha⟩
  · by_cases hjx : j < xs.length
    · rw [List.getElem_append_left hjx]
      refine hK _ _ _ _ _ _ (fun b hb hS => ⟨⟨hS.1, hne' b (by omega) hS.2⟩, ?_⟩) (h.parts j hjx)
      rw [hblock b (by omega) hS.2]
      exact hw.block b hb
    · have e : j = xs.length := by simp at hj; omega
      subst e
      rw [List.getElem_append_right (Nat.le_refl _)]
      simp only [Nat.sub_self, List.getElem_cons_zero]
      rw [h.len]
      refine hK _ _ _ _ _ _ (fun b hb hS => ?_) hx
      have hne : rv.ownBlock ≠ some b := fun e => by
        have h1 := hm b e
        have h2 := (h.own.lt b e).1
        omega
      exact ⟨⟨hS.imp id fun h3 => by omega, hne' b hb hne⟩, hblock b hb hne⟩

/-- The parts of a whole row. -/
theorem GRow.out (hK : Keeps K) (h : GRow K W T z B n0 k rv xs) : ∃ A c, rv = .slice A k c ∧ ∀ i, i < k → ∃ (g : Nat) (a : Array Value), A = some ⟨g, 0, none⟩ ∧ n0 ≤ g ∧ a.size = z ∧ (∀ q, q < z → W.cell? ⟨g, i * z + q, none⟩ = a[q]?) ∧ K W (fun b => b < B ∨ n0 ≤ b) i (.agg a) := by
  rcases h.own.2 with ⟨e, hn⟩ | ⟨g, cap, cur, e, hb, _⟩
  · exact ⟨none, 0, by rw [e, hn], fun i hi => absurd hi (by omega)⟩
  · refine ⟨some ⟨g, 0, none⟩, cap, e, fun i hi => ?_⟩
    have hix : i < xs.length := by rw [h.len]; exact hi
    obtain ⟨a, ea, haz⟩ := h.forms i hix
    refine ⟨g, a, rfl, hb, haz, fun q hq => ?_, ?_⟩
    · have hg := flat_get xs i a q h.forms (by rw [List.getElem?_eq_getElem hix, ea]) hq
      have hqa : q < a.size := by omega
      have ho := h.own
      rw [e] at ho
      have hc := ho.cells (g := g) rfl (i * z + q) a[q] (by rw [hg]; exact Array.getElem?_eq_getElem hqa)
      rw [Addr.add_lit] at hc
      rw [Array.getElem?_eq_getElem hqa]
      simpa using hc
    · have := h.parts i hix
      rw [ea] at this
      exact hK _ _ _ _ _ _ (fun b _ hS => ⟨hS.1, rfl⟩) this
end

/-- The parts are the terms of a list; the levels of a list. -/
def TK (d : Nat) (ts : List Tm) (W : World) (S : Nat → Prop) (j : Nat) (v : Value) : Prop := ∃ h : j < ts.length, InTm W S d ts[j] v
def LK (ls : List LvB) (W : World) (S : Nat → Prop) (j : Nat) (v : Value) : Prop := ∃ h : j < ls.length, InP W S ls[j] v
theorem TK.keeps (d : Nat) (ts : List Tm) : Keeps (TK d ts) := fun _ _ _ _ _ _ h ⟨hj, hp⟩ => ⟨hj, hp.keep h⟩
theorem LK.keeps (ls : List LvB) : Keeps (LK ls) := fun _ _ _ _ _ _ h ⟨hj, hp⟩ => ⟨hj, hp.keep h⟩

theorem GRow.terms {W : World} {d B n0 : Nat} {ts : List Tm} {rv : Value} {xs : List Value} (h : GRow (TK d ts) W 43 5 B n0 ts.length rv xs) : ∃ A c, rv = .slice A ts.length c ∧
    ∀ i (hi : i < ts.length), ∃ b x, A = some ⟨b, 0, none⟩ ∧ (b < B ∨ n0 ≤ b) ∧ Five W b (i * 5) x ∧ InTm W (fun b => b < B ∨ n0 ≤ b) d ts[i] x := by
  obtain ⟨A, c, e, hp⟩ := h.out (TK.keeps _ _)
  refine ⟨A, c, e, fun i hi => ?_⟩
  obtain ⟨g, a, ea, hg, hz, hc, _, hin⟩ := hp i hi
  obtain ⟨k, n, nm, A1, m1, c1, A2, m2, c2, ev⟩ := hin.form
  refine ⟨g, .agg a, ea, .inr hg, ⟨k, n, nm, A1, m1, c1, A2, m2, c2, ev, ?_⟩, hin⟩
  injection ev with ev
  subst ev
  exact ⟨by simpa using hc 0 (by omega), by simpa using hc 1 (by omega), by simpa using hc 2 (by omega), by simpa using hc 3 (by omega), by simpa using hc 4 (by omega)⟩

theorem GRow.levels {W : World} {B n0 : Nat} {ls : List LvB} {rv : Value} {xs : List Value} (h : GRow (LK ls) W 94 3 B n0 ls.length rv xs) : ∃ A c, rv = .slice A ls.length c ∧ LvsIn W (fun b => b < B ∨ n0 ≤ b) A ls := by
  obtain ⟨A, c, e, hp⟩ := h.out (LK.keeps _)
  refine ⟨A, c, e, fun i hi => ?_⟩
  obtain ⟨g, a, ea, hg, hz, hc, _, hin⟩ := hp i hi
  obtain ⟨k, nm, A1, m1, c1, ev⟩ := hin.form
  refine ⟨g, .agg a, ea, .inr hg, ⟨k, nm, A1, m1, c1, ev, ?_⟩, hin⟩
  injection ev with ev
  subst ev
  exact ⟨by simpa using hc 0 (by omega), by simpa using hc 1 (by omega), by simpa using hc 2 (by omega)⟩

/-- The value is a term, all in blocks below B or in new ones. -/
def MadeT (B : Nat) (w : World) (d : Nat) (t : Tm) (e : Ending) (w' : World) : Prop :=
  ∃ (k n : Int) (nm : ByteArray) (A : Option Addr) (la lc : Nat) (A' : Option Addr) (ta tc : Nat), e = .returned (.agg #[.int .i64 k, .int .i64 n, .string nm, .slice A la lc, .slice A' ta tc]) ∧
    InTm w' (fun b => b < B ∨ w.heap.size ≤ b) d t (.agg #[.int .i64 k, .int .i64 n, .string nm, .slice A la lc, .slice A' ta tc]) ∧ Below w.heap.size w w'

theorem MadeT.deeper {B : Nat} {w : World} {d e : Nat} {t : Tm} {en : Ending} {w' : World} (h : MadeT B w d t en w') (he : d ≤ e) : MadeT B w e t en w' := by
  obtain ⟨k, n, nm, A, la, lc, A', ta, tc, h1, h2, h3⟩ := h
  exact ⟨k, n, nm, A, la, lc, A', ta, tc, h1, h2.deeper he, h3⟩

/-- A world with five cells of a block set. -/
abbrev set5 (W : World) (r : Nat) (u0 u1 u2 u3 u4 : Value) : World := ((((W.setCell ⟨r, 0, none⟩ u0).setCell ⟨r, 1, none⟩ u1).setCell ⟨r, 2, none⟩ u2).setCell ⟨r, 3, none⟩ u3).setCell ⟨r, 4, none⟩ u4

theorem set5_block {W : World} {r : Nat} {u0 u1 u2 u3 u4 : Value} {b : Nat} (h : b ≠ r) : (set5 W r u0 u1 u2 u3 u4).heap[b]? = W.heap[b]? := by
  unfold set5
  rw [Below.heap_setCell _ _ _ _ h, Below.heap_setCell _ _ _ _ h, Below.heap_setCell _ _ _ _ h, Below.heap_setCell _ _ _ _ h, Below.heap_setCell _ _ _ _ h]

theorem set5_below {w W : World} {r n : Nat} {u0 u1 u2 u3 u4 : Value} (hr : n ≤ r) (hb : Below n w W) : Below n w (set5 W r u0 u1 u2 u3 u4) :=
  ((((hb.setCell (p := ⟨r, 0, none⟩) hr _).setCell (p := ⟨r, 1, none⟩) hr _).setCell (p := ⟨r, 2, none⟩) hr _).setCell (p := ⟨r, 3, none⟩) hr _).setCell (p := ⟨r, 4, none⟩) hr _

/-- The result's block is filled: what was made stands. -/
theorem fill5 {w W : World} {r B d : Nat} {S : Nat → Prop} {t : Tm} {v u0 u1 u2 u3 u4 : Value} (hr : w.heap.size ≤ r) (hB : B ≤ w.heap.size) (hb : Below w.heap.size w W) (hS : ∀ b, b < W.heap.size → S b → b < B ∨ (w.heap.size ≤ b ∧ b ≠ r)) (hp : InTm W S d t v) :
    InTm (set5 W r u0 u1 u2 u3 u4) (fun b => b < B ∨ w.heap.size ≤ b) d t v ∧ Below w.heap.size w (set5 W r u0 u1 u2 u3 u4) := by
  refine ⟨hp.keep fun b hbl hS' => ?_, set5_below hr hb⟩
  have h1 := hS b hbl hS'
  exact ⟨h1.imp id fun h2 => h2.1, set5_block (by rcases h1 with h1 | h1 <;> omega)⟩

/-- A term's variable. -/
def tvar (n : Nat) : Tm := .node 0 n ⟨#[]⟩ [] []
/-- How many variables a term binds in a part. -/
def Tm.bnd (t : Tm) (i : Nat) : Nat := if 4 ≤ t.kd ∧ i + 1 = t.ts.length then 1 else 0
theorem Tm.bnd_le (t : Tm) (i : Nat) : t.bnd i ≤ 1 := by unfold bnd; split <;> omega

/-- A term made anew: f makes the free variables (by their number outside, and how many binders they stand under), g the levels. -/
def chT (f : Nat → Nat → Tm) (g : LvB → LvB) : Nat → Nat → Tm → Tm
  | 0, _, t => t
  | d + 1, b, t => if t.kd = 0 then (if t.n < b then tvar t.n else f (t.n - b) b) else .node t.kd t.n t.nm (t.ls.map g) (t.ts.mapIdx fun i x => chT f g d (b + t.bnd i) x)

section
variable {f : Nat → Nat → Tm} {g : LvB → LvB} {d b : Nat} {t : Tm}
theorem chT_low (h : t.kd = 0) (hn : t.n < b) : chT f g (d + 1) b t = tvar t.n := by simp [chT, h, hn]
theorem chT_free (h : t.kd = 0) (hn : ¬ t.n < b) : chT f g (d + 1) b t = f (t.n - b) b := by simp only [chT, h, if_true, if_neg hn]
theorem chT_node (h : t.kd ≠ 0) : chT f g (d + 1) b t = .node t.kd t.n t.nm (t.ls.map g) (t.ts.mapIdx fun i x => chT f g d (b + t.bnd i) x) := by simp only [chT, if_neg h]
end

/-- A term is well formed: as one that was read. -/
def WfT : Nat → Tm → Prop
  | 0, _ => False
  | d + 1, t => t.kd ≤ 6 ∧ t.n ≤ 900000 ∧ (t.kd = 0 → t.nm = ⟨#[]⟩ ∧ t.ls = [] ∧ t.ts = []) ∧ (t.kd ≠ 0 → t.n = 0) ∧ (t.kd ≠ 2 → t.nm = ⟨#[]⟩) ∧ t.nm.size ≤ 1000 ∧ t.ls.length ≤ 200000 ∧ t.ts.length = tparts t.kd ∧
      (∀ l ∈ t.ls, l.nodes ≤ 200000 ∧ ∀ p, Lv.has p l → p.size ≤ 1000) ∧ ∀ i (hi : i < t.ts.length), WfT d t.ts[i]

theorem WfT.mono : ∀ {d e : Nat} {t : Tm}, WfT d t → d ≤ e → WfT e t
  | 0, _, _, h, _ => absurd h (by simp [WfT])
  | d + 1, 0, _, _, h => absurd h (by omega)
  | d + 1, e + 1, t, ⟨a1, a2, a3, a4, a5, a6, a7, a8, a9, a10⟩, h => ⟨a1, a2, a3, a4, a5, a6, a7, a8, a9, fun i hi => (a10 i hi).mono (by omega)⟩

theorem tparts_le (k : Nat) : tparts k ≤ 3 := by unfold tparts; split; omega; split <;> omega

theorem SmallT.mono : ∀ {d e : Nat} {t : Tm}, SmallT d t → d ≤ e → SmallT e t
  | 0, _, _, h, _ => absurd h (by simp [SmallT])
  | d + 1, 0, _, _, h => absurd h (by omega)
  | d + 1, e + 1, t, ⟨a1, a2, a3, a4, a5⟩, h => ⟨a1, a2, a3, a4, fun i hi => (a5 i hi).mono (by omega)⟩

theorem WfT.small : ∀ {d : Nat} {t : Tm}, WfT d t → SmallT d t
  | 0, _, h => absurd h (by simp [WfT])
  | d + 1, t, ⟨a1, a2, _, _, _, _, a7, a8, _, a10⟩ => ⟨a1, by omega, a7, by rw [a8]; exact tparts_le _, fun i hi => (a10 i hi).small⟩

/-- As deep as it is well formed. -/
theorem InTm.fit {w : World} {S : Nat → Prop} : ∀ {e d : Nat} {t : Tm} {v : Value}, WfT e t → InTm w S d t v → InTm w S e t v
  | 0, _, _, _, h, _ => absurd h (by simp [WfT])
  | e + 1, 0, _, _, _, h => absurd h (by simp [InTm])
  | e + 1, d + 1, t, _, ⟨_, _, _, _, _, _, _, _, _, a10⟩, ⟨A, c, A', c', ev, hl, ht⟩ => ⟨A, c, A', c', ev, hl, fun i hi => by
      obtain ⟨b, x, e', hb, h5, hp⟩ := ht i hi
      exact ⟨b, x, e', hb, h5, InTm.fit (a10 i hi) hp⟩⟩

theorem LvsIn.inside {w : World} {S : Nat → Prop} {A : Option Addr} {ls : List LvB} (h : LvsIn w S A ls) : LvsIn w (fun b => b < w.heap.size) A ls := by
  have h2 := LvsIn.keep (w' := w) (S' := fun b => b < w.heap.size) (fun _ hb _ => ⟨hb, rfl⟩) h
  exact h2
theorem InTm.inside {w : World} {S : Nat → Prop} {d : Nat} {t : Tm} {v : Value} (h : InTm w S d t v) : InTm w (fun b => b < w.heap.size) d t v :=
  h.keep fun _ hb _ => ⟨hb, rfl⟩
theorem InTm.below {w w' : World} {n d : Nat} {t : Tm} {v : Value} (h : InTm w (fun b => b < n) d t v) (hb : Below n w w') : InTm w' (fun b => b < n) d t v :=
  h.keep fun b _ hS => ⟨hS, hb.block b hS⟩

theorem tvar_small {n : Nat} (h : n ≤ 1000000000) : SmallT 1 (tvar n) := ⟨by show 0 ≤ 6; omega, h, by show 0 ≤ 200000; omega, by show 0 ≤ 3; omega, fun i hi => absurd hi (by show ¬ i < 0; omega)⟩

/-- What is made of a small term is small. -/
theorem chT_small {f : Nat → Nat → Tm} {g : LvB → LvB} {e : Nat} (hf : ∀ n b, n ≤ 900000 → b ≤ 1000000 → SmallT e (f n b)) (he : 0 < e) : ∀ {d b : Nat} {t : Tm}, WfT d t → b + d ≤ 1000000 → SmallT (d + e) (chT f g d b t)
  | 0, _, _, h, _ => absurd h (by simp [WfT])
  | d + 1, b, t, ⟨a1, a2, a3, _, _, _, a7, a8, _, a10⟩, hb => by
    by_cases hk : t.kd = 0
    · by_cases hn : t.n < b
      · rw [chT_low hk hn]
        exact (tvar_small (by omega)).mono (by omega)
      · rw [chT_free hk hn]
        exact (hf _ _ (by omega) (by omega)).mono (by omega)
    · rw [chT_node hk]
      have e1 : d + 1 + e = (d + e) + 1 := by omega
      rw [e1]
      refine ⟨a1, by show t.n ≤ _; omega, by show (t.ls.map g).length ≤ _; rw [List.length_map]; exact a7, by show (t.ts.mapIdx _).length ≤ _; rw [List.length_mapIdx, a8]; exact tparts_le _, fun i hi => ?_⟩
      have h9 : i < (t.ts.mapIdx fun i x => chT f g d (b + t.bnd i) x).length := hi
      have hi' : i < t.ts.length := by simpa using h9
      show SmallT (d + e) ((t.ts.mapIdx fun i x => chT f g d (b + t.bnd i) x)[i]'h9)
      rw [List.getElem_mapIdx]
      exact chT_small hf he (a10 i hi') (by have := t.bnd_le i; omega)

end Go.Proofs.YtjlibnijecdgcaaGreatDoor
