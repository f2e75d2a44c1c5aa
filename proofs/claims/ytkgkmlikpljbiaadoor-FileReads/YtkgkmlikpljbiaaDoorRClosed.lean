/- A level that is being read: what stands when its parts have come. -/
import Derived.Test.YtkgkmlikpljbiaaDoorLevelMem
import Derived.Deep.DeepCutAuto
import Derived.Test.YtkgkmlikpljbiaaDoorTRead
import Derived.Deep.CutBlock
import Derived.Test.YtkgkmlikpljbiaaDoorGRow

namespace Go.Proofs.YtkgkmlikpljbiaaDoor
open Go.RowKit

theorem Touched.of_none {w w' : World} {m : Nat} (h : w.grownBy w' none) : Touched w m w' := ⟨h.os, h.tape, h.output, h.size, fun k hk _ => h.block k hk (by simp)⟩

theorem Touched.undrew {w w' : World} {m : Nat} (h : Touched w.drew m w') : Touched w m w' := ⟨h.os, h.tape, h.output, h.size, h.block⟩
end Go.Proofs.YtkgkmlikpljbiaaDoor

/- The contract of level at a successor. -/
namespace Go.Proofs.YtkgkmlikpljbiaaDoor
open Go.RowKit

end Go.Proofs.YtkgkmlikpljbiaaDoor

/- The contract of level at a max. -/
namespace Go.Proofs.YtkgkmlikpljbiaaDoor
open Go.RowKit

end Go.Proofs.YtkgkmlikpljbiaaDoor

/- The contract of level at an imax. -/
namespace Go.Proofs.YtkgkmlikpljbiaaDoor
open Go.RowKit

end Go.Proofs.YtkgkmlikpljbiaaDoor

/- The contracts of level and  of the document: what is read without a fault is a level, no greater than its text. -/
namespace Go.Proofs.YtkgkmlikpljbiaaDoor
open Go.RowKit

theorem pastB {w : World} {o : Obj} {n i : Nat} (hn : n < w.heap.size) : (w.alloc o).cell? ⟨n, i, none⟩ = w.cell? ⟨n, i, none⟩ := World.cell?_alloc_past o n i hn

/-- What ParseLevel leaves: a level's value and a fault; where there is none, a level no greater than the text. -/
def Parsed (w : World) (s : ByteArray) (e : Ending) (w' : World) : Prop :=
  ∃ (k : Int) (nm : ByteArray) (A : Option Addr) (n cap c a : Nat), e = .returned (.tuple #[.agg #[.int .i64 k, .string nm, .slice A n cap], .agg #[.int .i64 (c : Nat), .int .i64 (a : Nat)]]) ∧ Below w.heap.size w w' ∧
    (c = 0 → s.size ≤ 200000 ∧ ∃ (l : LvB) (p' : Nat), InLv w' w'.heap.size l (.agg #[.int .i64 k, .string nm, .slice A n cap]) ∧ l.nodes ≤ s.size ∧ Reads s l 0 p' ∧ runTo blankB s p' = s.size) ∧
    (c ≠ 0 → (k = 0 ∧ nm = ⟨#[]⟩ ∧ A = none ∧ n = 0 ∧ cap = 0) ∧ ((200000 < s.size ∧ c = 2 ∧ a = 0) ∨ (s.size ≤ 200000 ∧ c = 1 ∧ Wrong s a)))

end Go.Proofs.YtkgkmlikpljbiaaDoor

/- The contracts of the document's name, peek, number. -/
namespace Go.Proofs.YtkgkmlikpljbiaaDoor
open Go.RowKit

theorem decF_take : ∀ (l : List UInt8) (k acc : Nat) (h : k < l.length), decF acc (l.take (k + 1)) = decF acc (l.take k) * 10 + ((l[k]).toNat - 48)
  | [], _, _, h => absurd h (by simp)
  | c :: r, 0, acc, _ => rfl
  | c :: r, k + 1, acc, h => by
    exact decF_take r k (acc * 10 + (c.toNat - 48)) (by simpa using h)

theorem decF_small (l : List UInt8) (h : ∀ c ∈ l, 48 ≤ c.toNat ∧ c.toNat ≤ 57) (hl : l.length ≤ 5) (k : Nat) : decF 0 (l.take k) < 100000 := by
  have h1 := decF_lt (l.take k) 0 fun c hc => h c (List.mem_of_mem_take hc)
  have h2 : (l.take k).length ≤ 5 := by rw [List.length_take]; omega
  rw [Nat.zero_add, Nat.one_mul] at h1
  exact Nat.lt_of_lt_of_le h1 (Nat.pow_le_pow_right (by decide) h2)

end Go.Proofs.YtkgkmlikpljbiaaDoor

/- The contract of the document's term where a fault stands already, where none begins, at a variable, and at a bracket with another word. -/
namespace Go.Proofs.YtkgkmlikpljbiaaDoor
open Go.RowKit

/-- The document's words, as they are laid. -/
structure WordsAt (w : World) (wb wo wc : Nat) : Prop where
  s : w.cell? ⟨0, 0, none⟩ = some (.slice (some ⟨wb, wo, none⟩) 7 wc)
  c1 : w.cell? ⟨wb, wo + 1, none⟩ = some (.string ⟨#[115, 111, 114, 116]⟩)
  c2 : w.cell? ⟨wb, wo + 2, none⟩ = some (.string ⟨#[99, 111, 110, 115, 116]⟩)
  c3 : w.cell? ⟨wb, wo + 3, none⟩ = some (.string ⟨#[97, 112, 112]⟩)
  c4 : w.cell? ⟨wb, wo + 4, none⟩ = some (.string ⟨#[108, 97, 109]⟩)
  c5 : w.cell? ⟨wb, wo + 5, none⟩ = some (.string ⟨#[112, 105]⟩)
  c6 : w.cell? ⟨wb, wo + 6, none⟩ = some (.string ⟨#[108, 101, 116]⟩)
theorem WordsAt.of_blocks {w w' : World} {wb wo wc : Nat} (h : WordsAt w wb wo wc) (h0 : w'.heap[0]? = w.heap[0]?) (h1 : w'.heap[wb]? = w.heap[wb]?) : WordsAt w' wb wo wc :=
  ⟨(World.cell?_of_block h0).trans h.s, (World.cell?_of_block h1).trans h.c1, (World.cell?_of_block h1).trans h.c2, (World.cell?_of_block h1).trans h.c3, (World.cell?_of_block h1).trans h.c4, (World.cell?_of_block h1).trans h.c5, (World.cell?_of_block h1).trans h.c6⟩
theorem WordsAt.lt {w : World} {wb wo wc : Nat} (h : WordsAt w wb wo wc) : 0 < w.heap.size ∧ wb < w.heap.size := ⟨World.block_lt_of_cell? _ _ h.s, World.block_lt_of_cell? _ _ h.c1⟩
theorem WordsAt.touched {w w' : World} {wb wo wc rb : Nat} (h : WordsAt w wb wo wc) (ht : Touched w rb w') (h0 : rb ≠ 0) (h1 : rb ≠ wb) : WordsAt w' wb wo wc := h.of_blocks (ht.at h.lt.1 (by omega)) (ht.at h.lt.2 (by omega))

abbrev ztm : Obj := .cells #[.int .i64 0, .int .i64 0, .string ⟨#[]⟩, .slice none 0 0, .slice none 0 0] 42

/-- What stands at the result's block behind calls that leave it alone. -/
theorem tzcells {w w' : World} {rb : Nat} (hrb : rb < w.heap.size) (ht : Touched (w.alloc ztm) rb w') : w'.cell? ⟨w.heap.size, 0, none⟩ = some (.int .i64 0) ∧ w'.cell? ⟨w.heap.size, 1, none⟩ = some (.int .i64 0) ∧ w'.cell? ⟨w.heap.size, 2, none⟩ = some (.string ⟨#[]⟩) ∧ w'.cell? ⟨w.heap.size, 3, none⟩ = some (.slice none 0 0) ∧ w'.cell? ⟨w.heap.size, 4, none⟩ = some (.slice none 0 0) ∧ (∀ i, w'.frozen? ⟨w.heap.size, i, none⟩ = false) ∧ w.heap.size < w'.heap.size := by
  have hblk := ht.block w.heap.size (by simp) (by simp; omega)
  refine ⟨by rw [World.cell?_of_block hblk]; simp, by rw [World.cell?_of_block hblk]; simp, by rw [World.cell?_of_block hblk]; simp, by rw [World.cell?_of_block hblk]; simp, by rw [World.cell?_of_block hblk]; simp, fun i => by rw [World.frozen?_of_block hblk]; simp [World.frozen?_alloc_at], ?_⟩
  have := ht.size
  simp at this
  omega

theorem first_byte {t : ByteArray} (h : t ≠ ⟨#[]⟩) : 0 < t.size := size_pos h

end Go.Proofs.YtkgkmlikpljbiaaDoor

/- The contract of the document's term at a bracket: what stands when its levels, its parts have come. -/
namespace Go.Proofs.YtkgkmlikpljbiaaDoor
open Go.RowKit

/-- The kind that a word has; 0: none. -/
def KindNo (q : ByteArray) (kd : Nat) : Prop := TKind q kd ∨ (kd = 0 ∧ ∀ q' kd', TKind q' kd' → q ≠ q')

theorem kindNo (q : ByteArray) : ∃ kd, KindNo q kd := by
  by_cases h : ∃ kd, TKind q kd
  · obtain ⟨kd, h⟩ := h; exact ⟨kd, .inl h⟩
  · exact ⟨0, .inr ⟨rfl, fun q' kd' h' e => h ⟨kd', by rw [e]; exact h'⟩⟩⟩

theorem dlitSame (l : List UInt8) (t : ByteArray) : (l == t.toList) = decide (t = ⟨l.toArray⟩) := by rw [BEq.comm]; exact sameLit t l
theorem dlitSame_neg {l : List UInt8} {t : ByteArray} (h : t ≠ ⟨l.toArray⟩) : (l == t.toList) = false := by rw [dlitSame]; simp [h]

theorem Tryd.info99' : (Tryd.prog.info? 99).map (fun i => (i.zero, i.size, i.bytes)) = some (some (.agg #[.int .i64 0, .string ⟨#[]⟩, .slice none 0 0]), 3, 48) := by kernel_rfl
theorem Tryd.info42' : (Tryd.prog.info? 42).map (fun i => (i.zero, i.size, i.bytes)) = some (some (.agg #[.int .i64 0, .int .i64 0, .string ⟨#[]⟩, .slice none 0 0, .slice none 0 0]), 5, 80) := by kernel_rfl

theorem infoParts {P : Program} {T : TypeId} {z : Value} {n b : Nat} (h : (P.info? T).map (fun i => (i.zero, i.size, i.bytes)) = some (some z, n, b)) : ∃ i, P.info? T = some i ∧ i.zero = some z ∧ i.size = n ∧ i.bytes = b := by
  cases hi : P.info? T with
  | none => rw [hi] at h; cases h
  | some i => rw [hi] at h; simp at h; exact ⟨i, rfl, h.1, h.2.1, h.2.2⟩

theorem shape5 {w : World} {base T : Nat} {v : Value} {n : Nat} {xs : List Value} (h : w.ownsRow base T 5 v n xs) (hn : 0 < n) : ∃ g cap, v = .slice (some ⟨g, 0, none⟩) n cap ∧ base ≤ g := by
  rcases h.2 with ⟨_, h0⟩ | ⟨g, cap, _, e, hb, _⟩
  · omega
  · exact ⟨g, cap, e, hb⟩

end Go.Proofs.YtkgkmlikpljbiaaDoor

/- The contract of the document's Lift. -/
namespace Go.Proofs.YtkgkmlikpljbiaaDoor
open Go.RowKit

/-- A box of a term's five cells and the result's block lie there, and nothing older has turned. -/
abbrev TB (w : World) (c0 c1 c2 c3 c4 : Value) (W : World) : Prop := Below (w.heap.size + 2) ((w.alloc (.cells #[c0, c1, c2, c3, c4] 42)).alloc ztm) W
section
variable {w W W' : World} {c0 c1 c2 c3 c4 : Value}
theorem TB.old (h : TB w c0 c1 c2 c3 c4 W) : Below w.heap.size w W := (((Below.refl _ _).alloc (Nat.le_refl _) _).alloc (by simp) _).trans (Below.mono h (by omega))
theorem TB.size (h : TB w c0 c1 c2 c3 c4 W) : w.heap.size + 2 ≤ W.heap.size := by have := Below.size h; simpa using this
theorem TB.cells (h : TB w c0 c1 c2 c3 c4 W) : W.cell? ⟨w.heap.size, 0, none⟩ = some c0 ∧ W.cell? ⟨w.heap.size, 1, none⟩ = some c1 ∧ W.cell? ⟨w.heap.size, 2, none⟩ = some c2 ∧ W.cell? ⟨w.heap.size, 3, none⟩ = some c3 ∧ W.cell? ⟨w.heap.size, 4, none⟩ = some c4 := by
  refine ⟨?_, ?_, ?_, ?_, ?_⟩ <;> (rw [Below.cell h (by simp)]; simp)
theorem TB.zero (h : TB w c0 c1 c2 c3 c4 W) : W.cell? ⟨w.heap.size + 1, 0, none⟩ = some (.int .i64 0) ∧ W.cell? ⟨w.heap.size + 1, 1, none⟩ = some (.int .i64 0) ∧ W.cell? ⟨w.heap.size + 1, 2, none⟩ = some (.string ⟨#[]⟩) ∧ W.cell? ⟨w.heap.size + 1, 3, none⟩ = some (.slice none 0 0) ∧ W.cell? ⟨w.heap.size + 1, 4, none⟩ = some (.slice none 0 0) ∧ (∀ i, W.frozen? ⟨w.heap.size + 1, i, none⟩ = false) ∧ w.heap.size + 1 < W.heap.size := by
  have hz := TB.size h
  refine ⟨?_, ?_, ?_, ?_, ?_, fun i => ?_, by omega⟩
  · rw [Below.cell h (by simp)]; simp [World.cell?_alloc_at]
  · rw [Below.cell h (by simp)]; simp [World.cell?_alloc_at]
  · rw [Below.cell h (by simp)]; simp [World.cell?_alloc_at]
  · rw [Below.cell h (by simp)]; simp [World.cell?_alloc_at]
  · rw [Below.cell h (by simp)]; simp [World.cell?_alloc_at]
  · rw [Below.frozen h (by simp)]
    have := heap_alloc_new (w.alloc (.cells #[c0, c1, c2, c3, c4] 42)) ztm
    simp at this
    simp [World.frozen?, this]
theorem TB.then (h : TB w c0 c1 c2 c3 c4 W) (hb : Below W.heap.size W W') : TB w c0 c1 c2 c3 c4 W' := Below.trans h (hb.mono (TB.size h))
end

def bndB (t : Tm) (i : Nat) : Bool := decide (4 ≤ t.kd) && decide (i + 1 = t.ts.length)
theorem bndB_true {t : Tm} {i : Nat} (h : bndB t i = true) : t.bnd i = 1 := by unfold bndB at h; simp at h; unfold Tm.bnd; rw [if_pos h]
theorem bndB_false {t : Tm} {i : Nat} (h : bndB t i = false) : t.bnd i = 0 := by unfold bndB at h; unfold Tm.bnd; rw [if_neg]; rintro ⟨h1, h2⟩; simp [h1, h2] at h

def liftF (n f0 : Nat) : Nat → Nat → Tm := fun free b => tvar ((if f0 ≤ free then free + n else free) + b)

theorem tvar_of {d : Nat} {t : Tm} (h : WfT (d + 1) t) (hk : t.kd = 0) : tvar t.n = t := by
  obtain ⟨h1, h2, h3⟩ := h.2.2.1 hk
  exact Tm.ext hk.symm rfl h1.symm h2.symm h3.symm

theorem InTm.tvar (w : World) (S : Nat → Prop) (d n : Nat) (A : Option Addr) (c : Nat) (A' : Option Addr) (c' : Nat) : InTm w S (d + 1) (tvar n) (.agg #[.int .i64 0, .int .i64 (n : Nat), .string ⟨#[]⟩, .slice A 0 c, .slice A' 0 c']) :=
  ⟨A, c, A', c', rfl, fun i hi => absurd hi (by show ¬ i < 0; omega), fun i hi => absurd hi (by show ¬ i < 0; omega)⟩

theorem TK.map {W : World} {S : Nat → Prop} {d k : Nat} {ts : List Tm} {F : Nat → Tm → Tm} {v : Value} (h : k < ts.length) (hin : InTm W S d (F k ts[k]) v) : TK d (ts.mapIdx F) W S k v :=
  ⟨by simpa using h, by rw [List.getElem_mapIdx]; exact hin⟩

theorem Tryd.info42 : (Tryd.prog.info? 42).map (fun i => (i.zero, i.size, i.bytes)) = some (some (.agg #[.int .i64 0, .int .i64 0, .string ⟨#[]⟩, .slice none 0 0, .slice none 0 0]), 5, 80) := by kernel_rfl

theorem InTm.mk {W : World} {S : Nat → Prop} {d kd n lk lt c c' : Nat} {nm : ByteArray} {ls : List LvB} {ts : List Tm} {A A' : Option Addr} (e1 : lk = ls.length) (e2 : lt = ts.length) (hl : LvsIn W S A ls)
    (ht : ∀ i (hi : i < ts.length), ∃ b x, A' = some ⟨b, 0, none⟩ ∧ S b ∧ Five W b (i * 5) x ∧ InTm W S d ts[i] x) : InTm W S (d + 1) (.node kd n nm ls ts) (.agg #[.int .i64 (kd : Nat), .int .i64 (n : Nat), .string nm, .slice A lk c, .slice A' lt c']) := by
  subst e1; subst e2
  exact ⟨A, c, A', c', rfl, hl, ht⟩

/-- Parts stand as long as their blocks do. -/
theorem parts_keep {W W' : World} {S S' : Nat → Prop} {d : Nat} {ts : List Tm} {A' : Option Addr} (h : ∀ b, b < W.heap.size → S b → S' b ∧ W'.heap[b]? = W.heap[b]?) (ht : ∀ i (hi : i < ts.length), ∃ b x, A' = some ⟨b, 0, none⟩ ∧ S b ∧ Five W b (i * 5) x ∧ InTm W S d ts[i] x) :
    ∀ i (hi : i < ts.length), ∃ b x, A' = some ⟨b, 0, none⟩ ∧ S' b ∧ Five W' b (i * 5) x ∧ InTm W' S' d ts[i] x := fun i hi => by
  obtain ⟨b, x, e, hb, h5, hp⟩ := ht i hi
  exact ⟨b, x, e, (h b h5.lt hb).1, h5.of_block (h b h5.lt hb).2, hp.keep h⟩

end Go.Proofs.YtkgkmlikpljbiaaDoor

/- The contract of the document's Subst. -/
namespace Go.Proofs.YtkgkmlikpljbiaaDoor
open Go.RowKit

/-- A call that makes a term, as one step of a region that draws its order. -/
theorem step_madeT {ops : Array Oper} {o : Oper} {a : Act} {w : World} {K : Act → World → Prop} {Q : Exit → Act → World → Prop} {E : Prop} {args : Array Value} {f : FuncId} {B d : Nat} {t : Tm}
    (hg : o.guard = none) (hrun : (execOp a.eval o).run Tryd.prog w = .ok (.enter f args) w) (hc : Calls Tryd.prog f args w fun e w' => MadeT B w d t e w')
    (hK : ∀ (k n : Int) (nm : ByteArray) (A : Option Addr) (la lc : Nat) (A' : Option Addr) (ta tc : Nat) (w' : World), InTm w' (fun b => b < B ∨ w.heap.size ≤ b) d t (.agg #[.int .i64 k, .int .i64 n, .string nm, .slice A la lc, .slice A' ta tc]) → Below w.heap.size w w' → K (a.put o.dst (.agg #[.int .i64 k, .int .i64 n, .string nm, .slice A la lc, .slice A' ta tc])) w') :
    if Region.wanted o (yielded ops a.tmps) = true then Oper.wp Tryd.prog o a w K Q else E := by
  have hw : Region.wanted o (yielded ops a.tmps) = true := by simp [Region.wanted, hg]
  rw [if_pos hw]
  unfold Oper.wp
  rw [hrun]
  refine hc.mono ?_
  rintro e w' ⟨k, n, nm, A, la, lc, A', ta, tc, rfl, h1, h2⟩
  exact hK k n nm A la lc A' ta tc w' h1 h2

/-- Two boxes of a term's five cells and the result's block lie there, and nothing older has turned. -/
abbrev TB2 (w : World) (c0 c1 c2 c3 c4 e0 e1 e2 e3 e4 : Value) (W : World) : Prop := Below (w.heap.size + 3) (((w.alloc (.cells #[c0, c1, c2, c3, c4] 42)).alloc (.cells #[e0, e1, e2, e3, e4] 42)).alloc ztm) W
section
variable {w W W' : World} {c0 c1 c2 c3 c4 e0 e1 e2 e3 e4 : Value}
theorem TB2.old (h : TB2 w c0 c1 c2 c3 c4 e0 e1 e2 e3 e4 W) : Below w.heap.size w W := ((((Below.refl _ _).alloc (Nat.le_refl _) _).alloc (by simp) _).alloc (by simp; omega) _).trans (Below.mono h (by omega))
theorem TB2.size (h : TB2 w c0 c1 c2 c3 c4 e0 e1 e2 e3 e4 W) : w.heap.size + 3 ≤ W.heap.size := by have := Below.size h; simpa using this
theorem TB2.b0 (h : TB2 w c0 c1 c2 c3 c4 e0 e1 e2 e3 e4 W) : W.heap[w.heap.size]? = some (.cells #[c0, c1, c2, c3, c4] 42 (0, 0)) := by
  rw [Below.block h _ (by omega), Below.heap_alloc _ _ _ (by simp; omega), Below.heap_alloc _ _ _ (by simp)]
  exact heap_alloc_new _ _
theorem TB2.b1 (h : TB2 w c0 c1 c2 c3 c4 e0 e1 e2 e3 e4 W) : W.heap[w.heap.size + 1]? = some (.cells #[e0, e1, e2, e3, e4] 42 (0, 0)) := by
  have e : (w.alloc (.cells #[c0, c1, c2, c3, c4] 42)).heap.size = w.heap.size + 1 := by simp
  have := heap_alloc_new (w.alloc (.cells #[c0, c1, c2, c3, c4] 42)) (.cells #[e0, e1, e2, e3, e4] 42)
  rw [e] at this
  rw [Below.block h _ (by omega), Below.heap_alloc _ _ _ (by simp)]
  exact this
theorem TB2.b2 (h : TB2 w c0 c1 c2 c3 c4 e0 e1 e2 e3 e4 W) : W.heap[w.heap.size + 2]? = some ztm := by
  have e : ((w.alloc (.cells #[c0, c1, c2, c3, c4] 42)).alloc (.cells #[e0, e1, e2, e3, e4] 42)).heap.size = w.heap.size + 2 := by simp
  have := heap_alloc_new ((w.alloc (.cells #[c0, c1, c2, c3, c4] 42)).alloc (.cells #[e0, e1, e2, e3, e4] 42)) ztm
  rw [e] at this
  rw [Below.block h _ (by omega)]
  exact this
theorem cells5 {n : Nat} (h : W.heap[n]? = some (.cells #[c0, c1, c2, c3, c4] 42 (0, 0))) : W.cell? ⟨n, 0, none⟩ = some c0 ∧ W.cell? ⟨n, 1, none⟩ = some c1 ∧ W.cell? ⟨n, 2, none⟩ = some c2 ∧ W.cell? ⟨n, 3, none⟩ = some c3 ∧ W.cell? ⟨n, 4, none⟩ = some c4 := by
  refine ⟨?_, ?_, ?_, ?_, ?_⟩ <;> simp [World.cell?, h]
theorem cells5f {n : Nat} (h : W.heap[n]? = some (.cells #[c0, c1, c2, c3, c4] 42 (0, 0))) (i : Nat) : W.frozen? ⟨n, i, none⟩ = false := by simp [World.frozen?, h]
theorem TB2.cells (h : TB2 w c0 c1 c2 c3 c4 e0 e1 e2 e3 e4 W) : W.cell? ⟨w.heap.size, 0, none⟩ = some c0 ∧ W.cell? ⟨w.heap.size, 1, none⟩ = some c1 ∧ W.cell? ⟨w.heap.size, 2, none⟩ = some c2 ∧ W.cell? ⟨w.heap.size, 3, none⟩ = some c3 ∧ W.cell? ⟨w.heap.size, 4, none⟩ = some c4 := cells5 (TB2.b0 h)
theorem TB2.cells2 (h : TB2 w c0 c1 c2 c3 c4 e0 e1 e2 e3 e4 W) : W.cell? ⟨w.heap.size + 1, 0, none⟩ = some e0 ∧ W.cell? ⟨w.heap.size + 1, 1, none⟩ = some e1 ∧ W.cell? ⟨w.heap.size + 1, 2, none⟩ = some e2 ∧ W.cell? ⟨w.heap.size + 1, 3, none⟩ = some e3 ∧ W.cell? ⟨w.heap.size + 1, 4, none⟩ = some e4 := cells5 (TB2.b1 h)
theorem TB2.zero (h : TB2 w c0 c1 c2 c3 c4 e0 e1 e2 e3 e4 W) : W.cell? ⟨w.heap.size + 2, 0, none⟩ = some (.int .i64 0) ∧ W.cell? ⟨w.heap.size + 2, 1, none⟩ = some (.int .i64 0) ∧ W.cell? ⟨w.heap.size + 2, 2, none⟩ = some (.string ⟨#[]⟩) ∧ W.cell? ⟨w.heap.size + 2, 3, none⟩ = some (.slice none 0 0) ∧ W.cell? ⟨w.heap.size + 2, 4, none⟩ = some (.slice none 0 0) ∧ (∀ i, W.frozen? ⟨w.heap.size + 2, i, none⟩ = false) ∧ w.heap.size + 2 < W.heap.size := by
  have hz := TB2.size h
  obtain ⟨h0, h1, h2, h3, h4⟩ := cells5 (TB2.b2 h)
  exact ⟨h0, h1, h2, h3, h4, cells5f (TB2.b2 h), by omega⟩
theorem TB2.then (h : TB2 w c0 c1 c2 c3 c4 e0 e1 e2 e3 e4 W) (hb : Below W.heap.size W W') : TB2 w c0 c1 c2 c3 c4 e0 e1 e2 e3 e4 W' := Below.trans h (hb.mono (TB2.size h))
end

def substF (v : Tm) (e : Nat) : Nat → Nat → Tm := fun free b => if free = 0 then chT (liftF b 0) id e 0 v else tvar (free - 1 + b)

end Go.Proofs.YtkgkmlikpljbiaaDoor

/- The contracts of Closed: the document's and the program's. -/
namespace Go.Proofs.YtkgkmlikpljbiaaDoor
open Go.RowKit

def allB (p : Nat → Bool) (n : Nat) : Bool := (List.range n).all p
theorem allB_true {p : Nat → Bool} {n : Nat} (h : ∀ j, j < n → p j = true) : allB p n = true := by
  unfold allB; rw [List.all_eq_true]; intro x hx; exact h x (List.mem_range.1 hx)
theorem allB_false {p : Nat → Bool} {n k : Nat} (hk : k < n) (h : p k = false) : allB p n = false := by
  unfold allB; rw [List.all_eq_false]; exact ⟨k, List.mem_range.2 hk, by simp [h]⟩

/-- A term's part; behind the last one some term. -/
def Tm.ch (t : Tm) (i : Nat) : Tm := t.ts.getD i (tvar 0)
theorem Tm.ch_eq {t : Tm} {i : Nat} (h : i < t.ts.length) : t.ch i = t.ts[i] := by unfold ch; simp [List.getD, h]

/-- Has no free variable a number of n or more? -/
def closedT : Nat → Nat → Tm → Bool
  | 0, _, _ => true
  | d + 1, n, t => if t.kd = 0 then decide (t.n < n) else allB (fun i => closedT d (n + t.bnd i) (t.ch i)) t.ts.length

/-- Behind a box of a term's five cells nothing old has turned. -/
abbrev Box5 (w : World) (c0 c1 c2 c3 c4 : Value) (W : World) : Prop := Below (w.heap.size + 1) (w.alloc (.cells #[c0, c1, c2, c3, c4] 42)) W
section
variable {w W W' : World} {c0 c1 c2 c3 c4 : Value}
theorem Box5.start (w : World) (c0 c1 c2 c3 c4 : Value) : Box5 w c0 c1 c2 c3 c4 (w.alloc (.cells #[c0, c1, c2, c3, c4] 42)) := Below.refl _ _
theorem Box5.old (h : Box5 w c0 c1 c2 c3 c4 W) : Below w.heap.size w W := ((Below.refl _ _).alloc (Nat.le_refl _) _).trans (Below.mono h (by omega))
theorem Box5.size (h : Box5 w c0 c1 c2 c3 c4 W) : w.heap.size + 1 ≤ W.heap.size := by have := Below.size h; simpa using this
theorem Box5.cells (h : Box5 w c0 c1 c2 c3 c4 W) : W.cell? ⟨w.heap.size, 0, none⟩ = some c0 ∧ W.cell? ⟨w.heap.size, 1, none⟩ = some c1 ∧ W.cell? ⟨w.heap.size, 2, none⟩ = some c2 ∧ W.cell? ⟨w.heap.size, 3, none⟩ = some c3 ∧ W.cell? ⟨w.heap.size, 4, none⟩ = some c4 :=
  cells5 (by rw [Below.block h _ (by omega)]; exact heap_alloc_new _ _)
theorem Box5.then (h : Box5 w c0 c1 c2 c3 c4 W) (hb : Below W.heap.size W W') : Box5 w c0 c1 c2 c3 c4 W' := Below.trans h (hb.mono (Box5.size h))
end

end Go.Proofs.YtkgkmlikpljbiaaDoor
