/- The contract of the document's Lift. -/
import Derived.Test.YtjlibnijecdgcaaGreatDoorGRow
import Derived.Test.YtjlibnijecdgcaaGreatDoorDTermD
import Derived.Test.YtjlibnijecdgcaaGreatDoorParse
import Derived.Deep.DeepCutAuto
import Derived.Test.YtjlibnijecdgcaaGreatDoorTokName
import Derived.Lib.ItoaNum

namespace Go.Proofs.YtjlibnijecdgcaaGreatDoor
open Go.RowKit

/-- A box of a term's five cells and the result's block lie there, and nothing older has turned. -/
abbrev TB (w : World) (c0 c1 c2 c3 c4 : Value) (W : World) : Prop := Below (w.heap.size + 2) ((w.alloc (.cells #[c0, c1, c2, c3, c4] 43)).alloc ztm) W
section
variable {w W W' : World} {c0 c1 c2 c3 c4 : Value}
theorem TB.old (h : TB w c0 c1 c2 c3 c4 W) : Below w.heap.size w W := (((Below.refl _ _).alloc (Nat.le_refl _) _).alloc (by simp) _).trans (Below.mono h (by omega))
theorem TB.size (h : TB w c0 c1 c2 c3 c4 W) : w.heap.size + 2 ≤ W.heap.size := by have := Below.size h; simpa using this
theorem TB.cells (h : TB w c0 c1 c2 c3 c4 W) : W.cell? ⟨w.heap.size, 0, none⟩ = some c0 ∧ W.cell? ⟨w.heap.size, 1, none⟩ = some c1 ∧ W.cell? ⟨w.heap.size, 2, none⟩ = some c2 ∧ W.cell? ⟨w.heap.size, 3, none⟩ = some c3 ∧ W.cell? ⟨w.heap.size, 4, none⟩ = some c4 := by
  refine ⟨?_, ?_, ?_, ?_, ?_⟩ <;> (rw [Below.cell h (by simp)]; simp)
theorem TB.zero (h : TB w c0 c1 c2 c3 c4 W) : W.cell? ⟨w.heap.size + 1, 0, none⟩ = some (.int .i64 0) ∧ W.cell? ⟨w.heap.size + 1, 1, none⟩ = some (.int .i64 0) ∧ W.cell? ⟨w.heap.size + 1, 2, none⟩ = some (.string ⟨#[]⟩) ∧ W.cell? ⟨w.heap.size + 1, 3, none⟩ = some (.slice none 0 0) ∧ W.cell? ⟨w.heap.size + 1, 4, none⟩ = some (.slice none 0 0) ∧ (∀ i, W.frozen? ⟨w.heap.size + 1, i, none⟩ = false) ∧ w.heap.size + 1 < W.heap.size := by
  have hz := TB.size h
  refine ⟨?_, ?_, ?_, ?_, ?_, fun i => ?_, by omega⟩
  · rw [Below.cell h (by simp)]; simp [World.cell?_alloc_at]
  · rw [Below.cell h (by simp)]; simp [World.cell?_alloc_at]
  · rw [Below.cell h (by simp)]; simp [World.cell?_alloc_at]
  · rw [Below.cell h (by simp)]; simp [World.cell?_alloc_at]
  · rw [Below.cell h (by simp)]; simp [World.cell?_alloc_at]
  · rw [Below.frozen h (by simp)]
    have := heap_alloc_new (w.alloc (.cells #[c0, c1, c2, c3, c4] 43)) ztm
    simp at this
    simp [World.frozen?, this]
theorem TB.then (h : TB w c0 c1 c2 c3 c4 W) (hb : Below W.heap.size W W') : TB w c0 c1 c2 c3 c4 W' := Below.trans h (hb.mono (TB.size h))
end

def bndB (t : Tm) (i : Nat) : Bool := decide (4 ≤ t.kd) && decide (i + 1 = t.ts.length)
theorem bndB_true {t : Tm} {i : Nat} (h : bndB t i = true) : t.bnd i = 1 := by unfold bndB at h; simp at h; unfold Tm.bnd; rw [if_pos h]
theorem bndB_false {t : Tm} {i : Nat} (h : bndB t i = false) : t.bnd i = 0 := by unfold bndB at h; unfold Tm.bnd; rw [if_neg]; rintro ⟨h1, h2⟩; simp [h1, h2] at h

def liftF (n f0 : Nat) : Nat → Nat → Tm := fun free b => tvar ((if f0 ≤ free then free + n else free) + b)

theorem tvar_of {d : Nat} {t : Tm} (h : WfT (d + 1) t) (hk : t.kd = 0) : tvar t.n = t := by
  obtain ⟨h1, h2, h3⟩ := h.2.2.1 hk
  exact Tm.ext hk.symm rfl h1.symm h2.symm h3.symm

theorem InTm.tvar (w : World) (S : Nat → Prop) (d n : Nat) (A : Option Addr) (c : Nat) (A' : Option Addr) (c' : Nat) : InTm w S (d + 1) (tvar n) (.agg #[.int .i64 0, .int .i64 (n : Nat), .string ⟨#[]⟩, .slice A 0 c, .slice A' 0 c']) :=
  ⟨A, c, A', c', rfl, fun i hi => absurd hi (by show ¬ i < 0; omega), fun i hi => absurd hi (by show ¬ i < 0; omega)⟩

theorem TK.map {W : World} {S : Nat → Prop} {d k : Nat} {ts : List Tm} {F : Nat → Tm → Tm} {v : Value} (h : k < ts.length) (hin : InTm W S d (F k ts[k]) v) : TK d (ts.mapIdx F) W S k v :=
  ⟨by simpa using h, by rw [List.getElem_mapIdx]; exact hin⟩

theorem Tryz.info43 : (Tryz.prog.info? 43).map (fun i => (i.zero, i.size, i.bytes)) = some (some (.agg #[.int .i64 0, .int .i64 0, .string ⟨#[]⟩, .slice none 0 0, .slice none 0 0]), 5, 80) := by kernel_rfl

theorem InTm.mk {W : World} {S : Nat → Prop} {d kd n lk lt c c' : Nat} {nm : ByteArray} {ls : List LvB} {ts : List Tm} {A A' : Option Addr} (e1 : lk = ls.length) (e2 : lt = ts.length) (hl : LvsIn W S A ls)
    (ht : ∀ i (hi : i < ts.length), ∃ b x, A' = some ⟨b, 0, none⟩ ∧ S b ∧ Five W b (i * 5) x ∧ InTm W S d ts[i] x) : InTm W S (d + 1) (.node kd n nm ls ts) (.agg #[.int .i64 (kd : Nat), .int .i64 (n : Nat), .string nm, .slice A lk c, .slice A' lt c']) := by
  subst e1; subst e2
  exact ⟨A, c, A', c', rfl, hl, ht⟩

/-- Parts stand as long as their blocks do. -/
theorem parts_keep {W W' : World} {S S' : Nat → Prop} {d : Nat} {ts : List Tm} {A' : Option Addr} (h : ∀ b, b < W.heap.size → S b → S' b ∧ W'.heap[b]? = W.heap[b]?) (ht : ∀ i (hi : i < ts.length), ∃ b x, A' = some ⟨b, 0, none⟩ ∧ S b ∧ Five W b (i * 5) x ∧ InTm W S d ts[i] x) :
    ∀ i (hi : i < ts.length), ∃ b x, A' = some ⟨b, 0, none⟩ ∧ S' b ∧ Five W' b (i * 5) x ∧ InTm W' S' d ts[i] x := fun i hi => by
  obtain ⟨b, x, e, hb, h5, hp⟩ := ht i hi
  exact ⟨b, x, e, (h b h5.lt hb).1, h5.of_block (h b h5.lt hb).2, hp.keep h⟩

end Go.Proofs.YtjlibnijecdgcaaGreatDoor

/- The contract of the document's Subst. -/
namespace Go.Proofs.YtjlibnijecdgcaaGreatDoor
open Go.RowKit

/-- A call that makes a term, as one step of a region that draws its order. -/
theorem step_madeT {ops : Array Oper} {o : Oper} {a : Act} {w : World} {K : Act → World → Prop} {Q : Exit → Act → World → Prop} {E : Prop} {args : Array Value} {f : FuncId} {B d : Nat} {t : Tm}
    (hg : o.guard = none) (hrun : (execOp a.eval o).run Tryz.prog w = .ok (.enter f args) w) (hc : Calls Tryz.prog f args w fun e w' => MadeT B w d t e w')
    (hK : ∀ (k n : Int) (nm : ByteArray) (A : Option Addr) (la lc : Nat) (A' : Option Addr) (ta tc : Nat) (w' : World), InTm w' (fun b => b < B ∨ w.heap.size ≤ b) d t (.agg #[.int .i64 k, .int .i64 n, .string nm, .slice A la lc, .slice A' ta tc]) → Below w.heap.size w w' → K (a.put o.dst (.agg #[.int .i64 k, .int .i64 n, .string nm, .slice A la lc, .slice A' ta tc])) w') :
    if Region.wanted o (yielded ops a.tmps) = true then Oper.wp Tryz.prog o a w K Q else E := by
  have hw : Region.wanted o (yielded ops a.tmps) = true := by simp [Region.wanted, hg]
  rw [if_pos hw]
  unfold Oper.wp
  rw [hrun]
  refine hc.mono ?_
  rintro e w' ⟨k, n, nm, A, la, lc, A', ta, tc, rfl, h1, h2⟩
  exact hK k n nm A la lc A' ta tc w' h1 h2

/-- Two boxes of a term's five cells and the result's block lie there, and nothing older has turned. -/
abbrev TB2 (w : World) (c0 c1 c2 c3 c4 e0 e1 e2 e3 e4 : Value) (W : World) : Prop := Below (w.heap.size + 3) (((w.alloc (.cells #[c0, c1, c2, c3, c4] 43)).alloc (.cells #[e0, e1, e2, e3, e4] 43)).alloc ztm) W
section
variable {w W W' : World} {c0 c1 c2 c3 c4 e0 e1 e2 e3 e4 : Value}
theorem TB2.old (h : TB2 w c0 c1 c2 c3 c4 e0 e1 e2 e3 e4 W) : Below w.heap.size w W := ((((Below.refl _ _).alloc (Nat.le_refl _) _).alloc (by simp) _).alloc (by simp; omega) _).trans (Below.mono h (by omega))
theorem TB2.size (h : TB2 w c0 c1 c2 c3 c4 e0 e1 e2 e3 e4 W) : w.heap.size + 3 ≤ W.heap.size := by have := Below.size h; simpa using this
theorem TB2.b0 (h : TB2 w c0 c1 c2 c3 c4 e0 e1 e2 e3 e4 W) : W.heap[w.heap.size]? = some (.cells #[c0, c1, c2, c3, c4] 43 (0, 0)) := by
  rw [Below.block h _ (by omega), Below.heap_alloc _ _ _ (by simp; omega), Below.heap_alloc _ _ _ (by simp)]
  exact heap_alloc_new _ _
theorem TB2.b1 (h : TB2 w c0 c1 c2 c3 c4 e0 e1 e2 e3 e4 W) : W.heap[w.heap.size + 1]? = some (.cells #[e0, e1, e2, e3, e4] 43 (0, 0)) := by
  have e : (w.alloc (.cells #[c0, c1, c2, c3, c4] 43)).heap.size = w.heap.size + 1 := by simp
  have := heap_alloc_new (w.alloc (.cells #[c0, c1, c2, c3, c4] 43)) (.cells #[e0, e1, e2, e3, e4] 43)
  rw [e] at this
  rw [Below.block h _ (by omega), Below.heap_alloc _ _ _ (by simp)]
  exact this
theorem TB2.b2 (h : TB2 w c0 c1 c2 c3 c4 e0 e1 e2 e3 e4 W) : W.heap[w.heap.size + 2]? = some ztm := by
  have e : ((w.alloc (.cells #[c0, c1, c2, c3, c4] 43)).alloc (.cells #[e0, e1, e2, e3, e4] 43)).heap.size = w.heap.size + 2 := by simp
  have := heap_alloc_new ((w.alloc (.cells #[c0, c1, c2, c3, c4] 43)).alloc (.cells #[e0, e1, e2, e3, e4] 43)) ztm
  rw [e] at this
  rw [Below.block h _ (by omega)]
  exact this
theorem cells5 {n : Nat} (h : W.heap[n]? = some (.cells #[c0, c1, c2, c3, c4] 43 (0, 0))) : W.cell? ⟨n, 0, none⟩ = some c0 ∧ W.cell? ⟨n, 1, none⟩ = some c1 ∧ W.cell? ⟨n, 2, none⟩ = some c2 ∧ W.cell? ⟨n, 3, none⟩ = some c3 ∧ W.cell? ⟨n, 4, none⟩ = some c4 := by
  refine ⟨?_, ?_, ?_, ?_, ?_⟩ <;> simp [World.cell?, h]
theorem cells5f {n : Nat} (h : W.heap[n]? = some (.cells #[c0, c1, c2, c3, c4] 43 (0, 0))) (i : Nat) : W.frozen? ⟨n, i, none⟩ = false := by simp [World.frozen?, h]
theorem TB2.cells (h : TB2 w c0 c1 c2 c3 c4 e0 e1 e2 e3 e4 W) : W.cell? ⟨w.heap.size, 0, none⟩ = some c0 ∧ W.cell? ⟨w.heap.size, 1, none⟩ = some c1 ∧ W.cell? ⟨w.heap.size, 2, none⟩ = some c2 ∧ W.cell? ⟨w.heap.size, 3, none⟩ = some c3 ∧ W.cell? ⟨w.heap.size, 4, none⟩ = some c4 := cells5 (TB2.b0 h)
theorem TB2.cells2 (h : TB2 w c0 c1 c2 c3 c4 e0 e1 e2 e3 e4 W) : W.cell? ⟨w.heap.size + 1, 0, none⟩ = some e0 ∧ W.cell? ⟨w.heap.size + 1, 1, none⟩ = some e1 ∧ W.cell? ⟨w.heap.size + 1, 2, none⟩ = some e2 ∧ W.cell? ⟨w.heap.size + 1, 3, none⟩ = some e3 ∧ W.cell? ⟨w.heap.size + 1, 4, none⟩ = some e4 := cells5 (TB2.b1 h)
theorem TB2.zero (h : TB2 w c0 c1 c2 c3 c4 e0 e1 e2 e3 e4 W) : W.cell? ⟨w.heap.size + 2, 0, none⟩ = some (.int .i64 0) ∧ W.cell? ⟨w.heap.size + 2, 1, none⟩ = some (.int .i64 0) ∧ W.cell? ⟨w.heap.size + 2, 2, none⟩ = some (.string ⟨#[]⟩) ∧ W.cell? ⟨w.heap.size + 2, 3, none⟩ = some (.slice none 0 0) ∧ W.cell? ⟨w.heap.size + 2, 4, none⟩ = some (.slice none 0 0) ∧ (∀ i, W.frozen? ⟨w.heap.size + 2, i, none⟩ = false) ∧ w.heap.size + 2 < W.heap.size := by
  have hz := TB2.size h
  obtain ⟨h0, h1, h2, h3, h4⟩ := cells5 (TB2.b2 h)
  exact ⟨h0, h1, h2, h3, h4, cells5f (TB2.b2 h), by omega⟩
theorem TB2.then (h : TB2 w c0 c1 c2 c3 c4 e0 e1 e2 e3 e4 W) (hb : Below W.heap.size W W') : TB2 w c0 c1 c2 c3 c4 e0 e1 e2 e3 e4 W' := Below.trans h (hb.mono (TB2.size h))
end

def substF (v : Tm) (e : Nat) : Nat → Nat → Tm := fun free b => if free = 0 then chT (liftF b 0) id e 0 v else tvar (free - 1 + b)

end Go.Proofs.YtjlibnijecdgcaaGreatDoor

/- The contracts of Closed: the document's and the program's. -/
namespace Go.Proofs.YtjlibnijecdgcaaGreatDoor
open Go.RowKit

def allB (p : Nat → Bool) (n : Nat) : Bool := (List.range n).all p
theorem allB_true {p : Nat → Bool} {n : Nat} (h : ∀ j, j < n → p j = true) : allB p n = true := by
  unfold allB; rw [List.all_eq_true]; intro x hx; exact h x (List.mem_range.1 hx)
theorem allB_false {p : Nat → Bool} {n k : Nat} (hk : k < n) (h : p k = false) : allB p n = false := by
  unfold allB; rw [List.all_eq_false]; exact ⟨k, List.mem_range.2 hk, by simp [h]⟩

/-- A term's part; behind the last one some term. -/
def Tm.ch (t : Tm) (i : Nat) : Tm := t.ts.getD i (tvar 0)
theorem Tm.ch_eq {t : Tm} {i : Nat} (h : i < t.ts.length) : t.ch i = t.ts[i] := by unfold ch; simp [List.getD, h]

/-- Has no free variable a number of n or more? -/
def closedT : Nat → Nat → Tm → Bool
  | 0, _, _ => true
  | d + 1, n, t => if t.kd = 0 then decide (t.n < n) else allB (fun i => closedT d (n + t.bnd i) (t.ch i)) t.ts.length

/-- Behind a box of a term's five cells nothing old has turned. -/
abbrev Box5 (w : World) (c0 c1 c2 c3 c4 : Value) (W : World) : Prop := Below (w.heap.size + 1) (w.alloc (.cells #[c0, c1, c2, c3, c4] 43)) W
section
variable {w W W' : World} {c0 c1 c2 c3 c4 : Value}
theorem Box5.start (w : World) (c0 c1 c2 c3 c4 : Value) : Box5 w c0 c1 c2 c3 c4 (w.alloc (.cells #[c0, c1, c2, c3, c4] 43)) := Below.refl _ _
theorem Box5.old (h : Box5 w c0 c1 c2 c3 c4 W) : Below w.heap.size w W := ((Below.refl _ _).alloc (Nat.le_refl _) _).trans (Below.mono h (by omega))
theorem Box5.size (h : Box5 w c0 c1 c2 c3 c4 W) : w.heap.size + 1 ≤ W.heap.size := by have := Below.size h; simpa using this
theorem Box5.cells (h : Box5 w c0 c1 c2 c3 c4 W) : W.cell? ⟨w.heap.size, 0, none⟩ = some c0 ∧ W.cell? ⟨w.heap.size, 1, none⟩ = some c1 ∧ W.cell? ⟨w.heap.size, 2, none⟩ = some c2 ∧ W.cell? ⟨w.heap.size, 3, none⟩ = some c3 ∧ W.cell? ⟨w.heap.size, 4, none⟩ = some c4 :=
  cells5 (by rw [Below.block h _ (by omega)]; exact heap_alloc_new _ _)
theorem Box5.then (h : Box5 w c0 c1 c2 c3 c4 W) (hb : Below W.heap.size W W') : Box5 w c0 c1 c2 c3 c4 W' := Below.trans h (hb.mono (Box5.size h))
end

end Go.Proofs.YtjlibnijecdgcaaGreatDoor

/- Terms, further: what a text makes sure of them; a copy; parts; the text. Plain Lean, no walk. -/
namespace Go.Proofs.YtjlibnijecdgcaaGreatDoor
open Go.RowKit

/-- How many parts a term has, those of its levels too. -/
def partsT : Nat → Tm → Nat
  | 0, _ => 0
  | d + 1, t => 1 + (t.ls.map Lv.nodes).sum + (t.ts.map (partsT d)).sum

theorem SignAt.lt {s : ByteArray} {c p p' : Nat} (h : SignAt s c p p') : p < p' := by
  have := runTo_ge blankB s p
  rw [h.2.2]; omega
theorem WordAt.lt {s q : ByteArray} {p p' : Nat} (h : WordAt s q p p') : p < p' ∧ q.size ≤ 1000 := by
  obtain ⟨h1, _, h2, h3, h4⟩ := h
  have g1 := runTo_ge blankB s p
  have g2 := runTo_ge (fun c => nameB c false) s (runTo blankB s p + 1)
  refine ⟨by omega, ?_⟩
  rw [h4, ByteArray.size_extract]
  omega
theorem ZeroAt.lt {s : ByteArray} {p p' : Nat} (h : ZeroAt s p p') : p < p' := by
  have := runTo_ge blankB s p
  rw [h.2.2.2]; omega

theorem Reads.some {s : ByteArray} : ∀ {l : LvB} {p p' : Nat}, Reads s l p p' → p + l.nodes ≤ p' ∧ ∀ q, Lv.has q l → q.size ≤ 1000
  | .zero, p, p', h => ⟨by have := ZeroAt.lt h; simp only [Lv.nodes]; omega, fun q hq => absurd hq (by simp [Lv.has])⟩
  | .param r, p, p', h => ⟨by have := (WordAt.lt h).1; simp only [Lv.nodes]; omega, fun q hq => by have e : r = q := hq; rw [← e]; exact (WordAt.lt h).2⟩
  | .succ a, p, p', ⟨p1, p2, p3, h1, h2, h3, h4⟩ => by
    have ha := Reads.some h3
    refine ⟨?_, ha.2⟩
    have := h1.lt; have := h2.lt.1; have := h4.lt; have := ha.1
    simp only [Lv.nodes]; omega
  | .max a b, p, p', ⟨p1, p2, p3, p4, h1, h2, h3, h4, h5⟩ => by
    have ha := Reads.some h3
    have hb := Reads.some h4
    refine ⟨?_, fun q hq => hq.elim (ha.2 q) (hb.2 q)⟩
    have := h1.lt; have := h2.lt.1; have := h5.lt; have := ha.1; have := hb.1
    simp only [Lv.nodes]; omega
  | .imax a b, p, p', ⟨p1, p2, p3, p4, h1, h2, h3, h4, h5⟩ => by
    have ha := Reads.some h3
    have hb := Reads.some h4
    refine ⟨?_, fun q hq => hq.elim (ha.2 q) (hb.2 q)⟩
    have := h1.lt; have := h2.lt.1; have := h5.lt; have := ha.1; have := hb.1
    simp only [Lv.nodes]; omega

theorem Lv.nodes_pos {α : Type} : ∀ (l : Lv α), 1 ≤ l.nodes
  | .zero => by simp [Lv.nodes]
  | .succ a => by simp [Lv.nodes]
  | .max a b => by simp [Lv.nodes]
  | .imax a b => by simp [Lv.nodes]
  | .param _ => by simp [Lv.nodes]

theorem ReadsAll.some {s : ByteArray} : ∀ {ls : List LvB} {p p' : Nat}, ReadsAll s ls p p' → p + (ls.map Lv.nodes).sum ≤ p' ∧ ls.length ≤ (ls.map Lv.nodes).sum ∧ ∀ l ∈ ls, l.nodes ≤ p' - p ∧ ∀ q, Lv.has q l → q.size ≤ 1000
  | [], p, p', h => by have e : p' = p := h; exact ⟨by simp [e], by simp, fun l hl => absurd hl (by simp)⟩
  | a :: ls, p, p', ⟨p1, h1, h2⟩ => by
    have ha := Reads.some h1
    obtain ⟨i1, i2, i3⟩ := ReadsAll.some h2
    have hn := a.nodes_pos
    refine ⟨by simp only [List.map_cons, List.sum_cons]; omega, by simp only [List.map_cons, List.sum_cons, List.length_cons]; omega, fun l hl => ?_⟩
    rcases List.mem_cons.1 hl with rfl | hl
    · exact ⟨by have := ha.1; omega, ha.2⟩
    · exact ⟨by have := (i3 l hl).1; have := ha.1; omega, (i3 l hl).2⟩

theorem LvPart.some {s : ByteArray} {kd : Nat} {ls : List LvB} {p p' : Nat} (h : LvPart s kd ls p p') : p + (ls.map Lv.nodes).sum ≤ p' ∧ ls.length ≤ (ls.map Lv.nodes).sum ∧ ∀ l ∈ ls, l.nodes ≤ p' - p ∧ ∀ q, Lv.has q l → q.size ≤ 1000 := by
  rcases h with ⟨_, l, rfl, hr⟩ | ⟨_, hr, _⟩ | ⟨_, _, rfl, rfl⟩
  · exact ReadsAll.some (ls := [l]) ⟨p', hr, rfl⟩
  · exact ReadsAll.some hr
  · exact ReadsAll.some (s := s) (ls := []) (rfl : p' = p')

theorem Seq.some {R : Tm → Nat → Nat → Prop} {W : Nat → Tm → Prop} {c : Nat → Tm → Nat} (hR : ∀ t p p', R t p p' → p < p' ∧ ∀ e, p' ≤ p + e → W e t ∧ p + c e t ≤ p') : ∀ {ts : List Tm} {p p' : Nat}, Seq R ts p p' → p ≤ p' ∧ ∀ e, p' ≤ p + e → (∀ x ∈ ts, W e x) ∧ p + (ts.map (c e)).sum ≤ p'
  | [], p, p', h => by have e : p' = p := h; exact ⟨by omega, fun _ _ => ⟨fun x hx => absurd hx (by simp), by simp [e]⟩⟩
  | a :: ts, p, p', ⟨p1, h1, h2⟩ => by
    obtain ⟨a1, a2⟩ := hR _ _ _ h1
    obtain ⟨i1, i2⟩ := Seq.some hR h2
    refine ⟨by omega, fun e he => ?_⟩
    obtain ⟨w1, c1⟩ := a2 e (by omega)
    obtain ⟨w2, c2⟩ := i2 e (by omega)
    refine ⟨fun x hx => ?_, by simp only [List.map_cons, List.sum_cons]; omega⟩
    rcases List.mem_cons.1 hx with rfl | hx
    · exact w1
    · exact w2 x hx

theorem IdxAt.some {s : ByteArray} {n p p' : Nat} (h : IdxAt s n p p') : p < p' ∧ n ≤ 99999 := by
  obtain ⟨h1, h2, h3, h4, h5⟩ := h
  have g1 := runTo_ge blankB s p
  have hne : p' ≠ runTo blankB s p + 1 := fun e => h4 (.inl e)
  have h5' : ¬ 5 < p' - (runTo blankB s p + 1) := fun e => h4 (.inr (.inl e))
  have hge := digitEnd_ge s (runTo blankB s p)
  rw [← h3] at hge
  have hle : p' ≤ s.size := by rw [h3]; exact digitEnd_le h1
  refine ⟨by omega, ?_⟩
  rw [h5]
  have hd : Digs (s.extract (runTo blankB s p + 1) p') := run_digs (by omega) h3.symm
  have hl : (s.extract (runTo blankB s p + 1) p').data.toList.length ≤ 5 := by
    have e : (s.extract (runTo blankB s p + 1) p').data.toList.length = (s.extract (runTo blankB s p + 1) p').size := by rw [Array.length_toList]; rfl
    rw [e, ByteArray.size_extract]
    omega
  have hlt := decF_lt _ 0 hd
  unfold decV
  generalize (s.extract (runTo blankB s p + 1) p').data.toList = l at *
  have hp : 10 ^ l.length ≤ 10 ^ 5 := Nat.pow_le_pow_right (by omega) hl
  have e5 : (10 : Nat) ^ 5 = 100000 := by decide
  rw [e5] at hp
  omega

/-- What a text makes sure of the term that stands there. -/
theorem RT.some {s : ByteArray} (hs : s.size ≤ 200000) : ∀ (d : Nat) (t : Tm) (p p' : Nat), RT s d t p p' → p < p' ∧ ∀ e, p' ≤ p + e → WfT e t ∧ p + partsT e t ≤ p'
  | 0, _, _, _, h => absurd h (by simp [RT])
  | d + 1, t, p, p', h => by
    have hle := h.le
    rcases h with ⟨h1, h2, h3, h4, h5⟩ | ⟨p1, p2, p3, p4, p5, q, h1, h2, h3, h4, h5, h6, h7, h8, h9⟩
    · obtain ⟨i1, i2⟩ := h5.some
      refine ⟨i1, fun e he => ?_⟩
      cases e with
      | zero => omega
      | succ e =>
        refine ⟨⟨by omega, by omega, fun _ => ⟨h2, h3, h4⟩, fun hk => absurd h1 hk, fun _ => h2, by rw [h2]; exact Nat.zero_le _, by rw [h3]; exact Nat.zero_le _, by rw [h4, h1]; rfl, fun l hl => absurd hl (by rw [h3]; simp), fun i hi => absurd hi (by rw [h4]; simp)⟩, ?_⟩
        simp only [partsT, h3, h4, List.map_nil, List.sum_nil]
        omega
    · have a1 := h1.lt
      have a2 := h2.lt.1
      have a3 := h3.pos
      have a5 : p2 ≤ p3 ∧ t.nm.size ≤ 1000 ∧ (t.kd ≠ 2 → t.nm = ⟨#[]⟩) := by
        rcases h5 with ⟨hk, hw⟩ | ⟨hk, hw, hp⟩
        · exact ⟨by have := hw.lt.1; omega, hw.lt.2, fun hn => absurd hk hn⟩
        · exact ⟨by omega, by rw [hw]; exact Nat.zero_le _, fun _ => hw⟩
      obtain ⟨b1, b2, b3⟩ := h6.some
      obtain ⟨c1, c2⟩ := Seq.some (fun t p p' h => RT.some hs d t p p' h) h7
      have a9 := h9.lt
      refine ⟨by omega, fun e he => ?_⟩
      cases e with
      | zero => omega
      | succ e =>
        obtain ⟨w1, w2⟩ := c2 e (by omega)
        refine ⟨⟨a3.2, by rw [h4]; omega, fun hk => by omega, fun _ => h4, a5.2.2, a5.2.1, by omega, h8, fun l hl => ⟨by have := (b3 l hl).1; omega, (b3 l hl).2⟩, fun i hi => w1 _ (List.getElem_mem hi)⟩, ?_⟩
        simp only [partsT]
        omega

/-- A copy is the term itself. -/
theorem chT_copy : ∀ {d b : Nat} {t : Tm}, WfT d t → chT (liftF 0 0) id d b t = t
  | 0, _, _, h => absurd h (by simp [WfT])
  | d + 1, b, t, h => by
    by_cases hk : t.kd = 0
    · by_cases hn : t.n < b
      · rw [chT_low hk hn]; exact tvar_of h hk
      · rw [chT_free hk hn]
        have e : liftF 0 0 (t.n - b) b = tvar t.n := by unfold liftF; simp; congr 1; omega
        rw [e]; exact tvar_of h hk
    · rw [chT_node hk]
      refine Tm.ext rfl rfl rfl (by show t.ls.map id = t.ls; simp) ?_
      show (t.ts.mapIdx fun i x => chT (liftF 0 0) id d (b + t.bnd i) x) = t.ts
      refine List.ext_getElem (by simp) fun i h1 h2 => ?_
      rw [List.getElem_mapIdx]
      exact chT_copy (h.2.2.2.2.2.2.2.2.2 i h2)

/-- The word of a kind. -/
def tword : Nat → ByteArray
  | 1 => ⟨#[115, 111, 114, 116]⟩
  | 2 => ⟨#[99, 111, 110, 115, 116]⟩
  | 3 => ⟨#[97, 112, 112]⟩
  | 4 => ⟨#[108, 97, 109]⟩
  | 5 => ⟨#[112, 105]⟩
  | 6 => ⟨#[108, 101, 116]⟩
  | _ => ⟨#[]⟩

/-- What stands ahead of a term's levels. -/
def Tm.open_ (t : Tm) : List UInt8 := 40 :: (tword t.kd).data.toList ++ (if t.kd = 2 then 32 :: t.nm.data.toList else [])
/-- The texts of parts, a blank ahead of each. -/
def spaced {α : Type} (f : α → List UInt8) (xs : List α) : List UInt8 := xs.flatMap fun x => 32 :: f x
theorem spaced_succ {α : Type} (f : α → List UInt8) (xs : List α) (k : Nat) (h : k < xs.length) : spaced f (xs.take (k + 1)) = spaced f (xs.take k) ++ [32] ++ f xs[k] := by
  unfold spaced
  rw [List.take_succ_eq_append_getElem h, List.flatMap_append]
  simp
theorem spaced_le {α : Type} (f : α → List UInt8) (xs : List α) (k : Nat) : (spaced f (xs.take k)).length ≤ (spaced f xs).length := by
  have h : spaced f xs = spaced f (xs.take k) ++ spaced f (xs.drop k) := by
    unfold spaced
    rw [← List.flatMap_append, List.take_append_drop]
  rw [h, List.length_append]
  omega

/-- A term's text. -/
def textT : Nat → Tm → List UInt8
  | 0, _ => []
  | d + 1, t => if t.kd = 0 then 35 :: Lib.decDigits t.n else t.open_ ++ spaced Lv.text t.ls ++ spaced (textT d) t.ts ++ [41]

theorem digits_len : ∀ (k n : Nat), n < 10 ^ (k + 1) → (Lib.decDigits n).length ≤ k + 1
  | 0, n, h => by rw [Lib.decDigits_one (by simpa using h)]; simp
  | k + 1, n, h => by
    by_cases hn : n < 10
    · rw [Lib.decDigits_one hn]; simp
    · rw [Lib.decDigits, dif_neg hn, List.length_append]
      have := digits_len k (n / 10) (by rw [Nat.pow_succ] at h; omega)
      simp only [List.length_cons, List.length_nil]
      omega

theorem spaced_len {α : Type} (f : α → List UInt8) (c : α → Nat) : ∀ (xs : List α), (∀ x ∈ xs, (f x).length + 1 ≤ 2000 * c x) → (spaced f xs).length ≤ 2000 * (xs.map c).sum
  | [], _ => by simp [spaced]
  | x :: xs, h => by
    have ih := spaced_len f c xs fun y hy => h y (by simp [hy])
    have hx := h x (by simp)
    unfold spaced at *
    simp only [List.flatMap_cons, List.length_append, List.length_cons, List.map_cons, List.sum_cons, Nat.mul_add]
    omega

theorem textT_len : ∀ {d : Nat} {t : Tm}, WfT d t → (textT d t).length + 1 ≤ 2000 * partsT d t
  | 0, _, h => absurd h (by simp [WfT])
  | d + 1, t, ⟨a1, a2, a3, a4, a5, a6, a7, a8, a9, a10⟩ => by
    unfold textT
    simp only [partsT]
    by_cases hk : t.kd = 0
    · rw [if_pos hk]
      have := digits_len 5 t.n (by have : (10 : Nat) ^ 6 = 1000000 := by decide
                                   rw [this]; omega)
      simp only [List.length_cons]
      omega
    · rw [if_neg hk]
      have h1 := spaced_len Lv.text Lv.nodes t.ls fun l hl => by
        have := Lv.text_len l (a9 l hl).2
        have := l.nodes_pos
        omega
      have h2 := spaced_len (textT d) (partsT d) t.ts fun x hx => by
        obtain ⟨i, hi, rfl⟩ := List.getElem_of_mem hx
        exact textT_len (a10 i hi)
      have h3 : t.open_.length ≤ 1010 := by
        unfold Tm.open_
        have e1 : (tword t.kd).data.toList.length ≤ 5 := by
          have : t.kd = 1 ∨ t.kd = 2 ∨ t.kd = 3 ∨ t.kd = 4 ∨ t.kd = 5 ∨ t.kd = 6 := by omega
          rcases this with h | h | h | h | h | h <;> rw [h] <;> decide
        have e2 : t.nm.data.toList.length = t.nm.size := by rw [Array.length_toList]; rfl
        split
        · simp only [List.cons_append, List.length_cons, List.length_append, e2]; omega
        · simp only [List.append_nil, List.length_cons]; omega
      simp only [List.length_append, List.length_cons, List.length_nil]
      omega

end Go.Proofs.YtjlibnijecdgcaaGreatDoor
