/- The contract of the document's term at a bracket: its levels, its parts, the whole. -/
import Derived.Test.YtkgkmlikpljbiaaDoorRClosed

namespace Go.Proofs.YtkgkmlikpljbiaaDoor
open Go.RowKit

theorem Row.nextq {W w5 w6 : World} {B n0 c n m q : Nat} {ks : List LvB} {l : LvB} {rv rv' : Value} {xs : List Value} {k : Int} {nm : ByteArray} {A : Option Addr} {cap : Nat} (h : Row W B n0 ks rv xs) (hB : B ≤ c) (hc : c < n0) (hnm : n0 ≤ m) (hm' : ∀ g, rv.ownBlock = some g → g < m)
    (hz : W.heap.size ≤ w5.heap.size) (hw : ∀ b, b < W.heap.size → b < B ∨ n0 ≤ b → w5.heap[b]? = W.heap[b]?) (hx : InP w5 (fun b => b < B ∨ m ≤ b) l (.agg #[.int .i64 k, .string nm, .slice A n cap]))
    (hown : w6.ownsRow n0 99 3 rv' (xs.length + 1) (flat xs ++ [.int .i64 k, .string nm, .slice A n cap])) (hgr : (w5.alloc (.cells #[.int .i64 k, .string nm, .slice A n cap] 99)).grownBy w6 rv.ownBlock)
    (hpl : rv'.ownBlock = rv.ownBlock ∨ rv'.ownBlock = some (w5.alloc (.cells #[.int .i64 k, .string nm, .slice A n cap] 99)).heap.size) (u : Value) :
    Row (w6.setCell ⟨c, q, none⟩ u) B n0 (ks ++ [l]) rv' (xs ++ [.agg #[.int .i64 k, .string nm, .slice A n cap]]) := by
  have hblock : ∀ b, b < w5.heap.size → rv.ownBlock ≠ some b → b ≠ c → (w6.setCell ⟨c, q, none⟩ u).heap[b]? = w5.heap[b]? := fun b hb hne hbc => by
    rw [Below.heap_setCell _ _ _ _ hbc, hgr.block b (by simp; omega) (fun e => hne e.symm)]
    exact Below.heap_alloc _ _ _ hb
  have hne' : ∀ b, b < w5.heap.size → rv.ownBlock ≠ some b → rv'.ownBlock ≠ some b := fun b hb hne => by
    rcases hpl with e | e
    · rw [e]; exact hne
    · rw [e]; simp; omega
  refine ⟨?_, fun e => by simp at e, by simp [h.len], fun j hj hj' => ?_⟩
  · have : flat (xs ++ [Value.agg #[.int .i64 k, .string nm, .slice A n cap]]) = flat xs ++ [.int .i64 k, .string nm, .slice A n cap] := by rw [flat_append]; simp [flat]
    rw [this, List.length_append, List.length_singleton]
    exact ownsRow_setCell_below hown (a := ⟨c, q, none⟩) hc _
  · by_cases hjx : j < xs.length
    · have hjk : j < ks.length := by rw [← h.len]; exact hjx
      rw [List.getElem_append_left hjx, List.getElem_append_left hjk]
      refine (h.parts j hjx hjk).keep fun b hb hS => ⟨⟨hS.1, hne' b (by omega) hS.2⟩, ?_⟩
      rw [hblock b (by omega) hS.2 (by rcases hS.1 with h1 | h1 <;> omega)]
      exact hw b hb hS.1
    · have e : j = xs.length := by simp at hj; omega
      subst e
      have hjk : ¬ xs.length < ks.length := by rw [h.len]; omega
      have e2 : (ks ++ [l])[xs.length] = l := by rw [List.getElem_append_right (by omega)]; simp
      rw [e2, List.getElem_append_right (Nat.le_refl _)]
      simp only [Nat.sub_self, List.getElem_cons_zero]
      refine hx.keep fun b hb hS => ?_
      have hne : rv.ownBlock ≠ some b := fun e => by
        have h1 := hm' b e
        have h2 := h.own.lt b e
        rcases hS with h3 | h3 <;> omega
      refine ⟨⟨hS.imp id fun h3 => by omega, hne' b hb hne⟩, hblock b hb hne (by rcases hS with h3 | h3 <;> omega)⟩


theorem InAbove.inP {w : World} {lo : Nat} : ∀ {l : LvB} {v : Value}, InAbove w lo l v → InP w (fun b => b < 0 ∨ lo ≤ b) l v
  | .zero, _, hl => hl
  | .param _, _, hl => hl
  | .succ a, _, ⟨b, cap, x, e, hb, h3, ha⟩ => ⟨b, cap, x, e, .inr hb, h3, InAbove.inP (l := a) ha⟩
  | .max a c, _, ⟨b, cap, x, y, e, hb, h3, h4, ha, hc⟩ => ⟨b, cap, x, y, e, .inr hb, h3, h4, InAbove.inP (l := a) ha, InAbove.inP (l := c) hc⟩
  | .imax a c, _, ⟨b, cap, x, y, e, hb, h3, h4, ha, hc⟩ => ⟨b, cap, x, y, e, .inr hb, h3, h4, InAbove.inP (l := a) ha, InAbove.inP (l := c) hc⟩

end Go.Proofs.YtkgkmlikpljbiaaDoor

namespace Go.Proofs.YtkgkmlikpljbiaaDoor
open Go.RowKit

/-- A term that should stand among the parts does not. -/
theorem part_fails {s : ByteArray} {p p1 p2 p3 p4 pk kd d1 d a : Nat} {t1 nm : ByteArray} {ls : List LvB} {ts : List Tm} (hSg : SignAt s 40 p p1) (hWd : WordAt s t1 p1 p2) (hKd : TKind t1 kd) (hN : NamePart s kd nm p2 p3) (hL : LvPart s kd ls p3 p4) (hSq : Seq (RT s d1) ts p4 pk) (hlen : ts.length < tparts kd) (hf : FT s d pk a) : ∃ d, FT s d p a :=
  ⟨max d1 d + 1, .inr ⟨_, hSg, .inr ⟨_, _, _, hWd, hKd, .inr ⟨_, _, hN, .inr ⟨_, _, hL, ts, pk, hSq.mono fun _ _ _ h => h.deeper (by omega), .inl ⟨hlen, hf.deeper (by omega)⟩⟩⟩⟩⟩⟩

end Go.Proofs.YtkgkmlikpljbiaaDoor

namespace Go.Proofs.YtkgkmlikpljbiaaDoor
open Go.RowKit

theorem dlitSame_pos {l : List UInt8} {t : ByteArray} (h : t = ⟨l.toArray⟩) : (l == t.toList) = true := by rw [dlitSame]; simp [h]

/-- Whether a word is the table's i-th. -/
theorem word_flags {q : ByteArray} {kd : Nat} (h : TKind q kd) :
    ([115, 111, 114, 116] == q.toList) = decide (kd = 1) ∧ ([99, 111, 110, 115, 116] == q.toList) = decide (kd = 2) ∧ ([97, 112, 112] == q.toList) = decide (kd = 3) ∧ ([108, 97, 109] == q.toList) = decide (kd = 4) ∧ ([112, 105] == q.toList) = decide (kd = 5) ∧ ([108, 101, 116] == q.toList) = decide (kd = 6) := by
  rcases h with ⟨rfl, rfl⟩ | ⟨rfl, rfl⟩ | ⟨rfl, rfl⟩ | ⟨rfl, rfl⟩ | ⟨rfl, rfl⟩ | ⟨rfl, rfl⟩ <;> decide +kernel

end Go.Proofs.YtkgkmlikpljbiaaDoor
