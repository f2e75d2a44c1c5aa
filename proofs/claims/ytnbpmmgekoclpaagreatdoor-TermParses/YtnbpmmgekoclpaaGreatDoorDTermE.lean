/- The contract of the document's term at a bracket: what its parts and its end make. -/
import Derived.Test.YtnbpmmgekoclpaaGreatDoorDTermC
namespace Go.Proofs.YtnbpmmgekoclpaaGreatDoor
open Go.RowKit

/-- A term that should stand among the parts does not. -/
theorem part_fails {s : ByteArray} {p p1 p2 p3 p4 pk kd d1 d a : Nat} {t1 nm : ByteArray} {ls : List LvB} {ts : List Tm} (hSg : SignAt s 40 p p1) (hWd : WordAt s t1 p1 p2) (hKd : TKind t1 kd) (hN : NamePart s kd nm p2 p3) (hL : LvPart s kd ls p3 p4) (hSq : Seq (RT s d1) ts p4 pk) (hlen : ts.length < tparts kd) (hf : FT s d pk a) : ∃ d, FT s d p a :=
  ⟨max d1 d + 1, .inr ⟨_, hSg, .inr ⟨_, _, _, hWd, hKd, .inr ⟨_, _, hN, .inr ⟨_, _, hL, ts, pk, hSq.mono fun _ _ _ h => h.deeper (by omega), .inl ⟨hlen, hf.deeper (by omega)⟩⟩⟩⟩⟩⟩

/-- The parts and the end have come. -/
theorem term_fin {w wc wr w7 : World} {rb p p1 p2 p4 c kd pk ck ak ck0 p' c' a' a la lc ta tc : Nat} {s t1 nm : ByteArray} {A A' : Option Addr} {xs : List Value} (hrb : rb < w.heap.size) (hc : w.heap.size + 1 ≤ c) (hp4 : p ≤ p4)
    (hSg : SignAt s 40 p p1) (hWd : WordAt s t1 p1 p2) (hKd : TKind t1 kd)
    (hl : ck0 = 0 → ∃ ls p3, NamePart s kd nm p2 p3 ∧ LvPart s kd ls p3 p4 ∧ la = ls.length ∧ LvsIn wc (fun b => c + 1 ≤ b ∧ b < wc.heap.size) A ls)
    (hxl : xs.length = tparts kd) (hcw : c < wc.heap.size) (hpk : p4 ≤ pk) (hT : Touched (w.alloc ztm) rb wr) (hn0 : wc.heap.size ≤ wr.heap.size) (hkeep : ∀ b, c + 1 ≤ b → b < wc.heap.size → wr.heap[b]? = wc.heap[b]?)
    (h0 : ck = 0 → ck0 = 0 ∧ ∃ d ts, TRow wr 30 d wc.heap.size ts (.slice A' ta tc) xs ∧ Seq (RT s d) ts p4 pk) (h1 : ck ≠ 0 → ck = 1 ∧ ∃ d, FT s d p ak)
    (hR7 : RdAt w7 rb s p' c' a') (hp : pk ≤ p') (hp' : p' ≤ s.size) (hT7 : Touched wr rb w7) (him : c' = 0 → ck = 0 ∧ pk < p' ∧ SignAt s 41 pk p')
    (hbad : c' ≠ 0 → (ck ≠ 0 ∧ c' = ck ∧ a' = ak) ∨ (ck = 0 ∧ c' = 1 ∧ a' = runTo blankB s pk ∧ (tok s pk).t ≠ ⟨#[41]⟩)) :
    TermPost w rb s p 0 a (.returned (.agg #[.int .i64 kd, .int .i64 0, .string nm, .slice A la lc, .slice A' ta tc]))
      (((((w7.setCell ⟨w.heap.size, 0, none⟩ (.int .i64 kd)).setCell ⟨w.heap.size, 1, none⟩ (.int .i64 0)).setCell ⟨w.heap.size, 2, none⟩ (.string nm)).setCell ⟨w.heap.size, 3, none⟩ (.slice A la lc)).setCell ⟨w.heap.size, 4, none⟩ (.slice A' ta tc)) := by
  have hTw : Touched w rb w7 := ((Touched.alloc w rb ztm).trans hT).trans hT7
  have hf := filled5 hrb hR7 hTw (.int .i64 kd) (.int .i64 0) (.string nm) (.slice A la lc) (.slice A' ta tc)
  have hblk : ∀ b, b ≠ w.heap.size → b ≠ rb → b < wr.heap.size → (((((w7.setCell ⟨w.heap.size, 0, none⟩ (.int .i64 kd)).setCell ⟨w.heap.size, 1, none⟩ (.int .i64 0)).setCell ⟨w.heap.size, 2, none⟩ (.string nm)).setCell ⟨w.heap.size, 3, none⟩ (.slice A la lc)).setCell ⟨w.heap.size, 4, none⟩ (.slice A' ta tc)).heap[b]? = wr.heap[b]? := fun b h1 h2 h3 => by
    rw [Below.heap_setCell _ _ _ _ (by show b ≠ w.heap.size; exact h1), Below.heap_setCell _ _ _ _ (by show b ≠ w.heap.size; exact h1), Below.heap_setCell _ _ _ _ (by show b ≠ w.heap.size; exact h1), Below.heap_setCell _ _ _ _ (by show b ≠ w.heap.size; exact h1), Below.heap_setCell _ _ _ _ (by show b ≠ w.heap.size; exact h1)]
    exact hT7.at h3 h2
  refine ⟨kd, 0, nm, A, la, lc, A', ta, tc, p', c', a', rfl, hf.1, by omega, hp', hf.2, fun hz => ?_, fun hz => ?_⟩
  · obtain ⟨e0, hlt, hS⟩ := him hz
    obtain ⟨e1, d, ts, hRow, hSq⟩ := h0 e0
    obtain ⟨ls, p3, hN, hL, hla, hLs⟩ := hl e1
    have hlen : ts.length = tparts kd := by rw [← hRow.len]; exact hxl
    refine ⟨rfl, by omega, d + 1, .node kd 0 nm ls ts, ?_, .inr ⟨_, _, _, _, _, t1, hSg, hWd, hKd, rfl, hN, hL, hSq, hlen, hS⟩⟩
    obtain ⟨A1, c1, e, hparts⟩ := hRow.made
    cases e
    refine ⟨A, lc, A', tc, by rw [hla]; rfl, ?_, fun i hi => ?_⟩
    · refine hLs.keep fun b hb hb2 => ⟨by show w.heap.size ≤ b; omega, ?_⟩
      rw [hblk b (by omega) (by omega) (by omega)]
      exact hkeep b hb2.1 hb2.2
    · obtain ⟨b, x, hA, hb, hF, hI⟩ := hparts i hi
      refine ⟨b, x, hA, by show w.heap.size ≤ b; omega, hF.of_block (hblk b (by omega) (by omega) hF.lt), hI.keep fun b hb hb2 => ⟨by show w.heap.size ≤ b; omega, hblk b (by omega) (by omega) hb⟩⟩
  · rcases hbad hz with ⟨h, e1, e2⟩ | ⟨h, e1, e2, htk⟩
    · obtain ⟨e3, hd⟩ := h1 h
      exact .inr ⟨rfl, by omega, by rw [e2]; exact hd⟩
    · obtain ⟨e3, d, ts, hRow, hSq⟩ := h0 h
      obtain ⟨ls, p3, hN, hL, hla, hLs⟩ := hl e3
      have hlen : ts.length = tparts kd := by rw [← hRow.len]; exact hxl
      exact .inr ⟨rfl, e1, d + 1, .inr ⟨_, hSg, .inr ⟨_, _, _, hWd, hKd, .inr ⟨_, _, hN, .inr ⟨_, _, hL, ts, pk, hSq, .inr ⟨hlen, htk, e2⟩⟩⟩⟩⟩⟩

end Go.Proofs.YtnbpmmgekoclpaaGreatDoor
