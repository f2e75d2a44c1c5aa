/- The contracts of notation.Read at a text that is too long, and of level.Parse. -/
import Derived.Test.YtmpepnckfghepaaDoorCaught
namespace Go.Proofs.YtmpepnckfghepaaDoor
open Go.RowKit

set_option maxHeartbeats 1000000 in
/-- Parse at a text that is no level. -/
theorem parse_bad (s : ByteArray) (code a : Nat) (w : World) (ht : Tabs w) (K : ∀ W, Tabs W → Calls Tryd.prog 9 #[.string s, .int .i64 20000, .func (.func 10) #[] #[]] W fun e w' => Faulted W code a e w') :
    Calls Tryd.prog 5 #[.string s] w fun e w' => Faulted w code a e w' := by
  have K1 := hide (K _ (((ht.below ((Below.refl _ _).alloc (Nat.le_refl _) zlev) ht.lt))))
  clear K ht
  go_enter Tryd.func5, Tryd.ntmps5
  go_wp2_with (go_at_call 9; refine K1.out.mono ?_)
  rintro e w1 ⟨N, rfl, hF, hb⟩
  have hz := hb.size
  simp at hz
  have hlF : N < w1.heap.size := (Array.getElem?_eq_some_iff.1 hF).1
  have hb1 : w1.heap[w.heap.size]? = some (.cells #[.int .i64 0, .string ⟨#[]⟩, .slice none 0 0] 29 (0, 0)) := by
    rw [hb.block w.heap.size (by simp)]
    exact heap_alloc_new w zlev
  have hN : N ≠ w.heap.size := fun e => by rw [e, hb1] at hF; simp at hF
  have d0 : w1.cell? ⟨w.heap.size, 0, none⟩ = some (.int .i64 0) := by simp [World.cell?, hb1]
  have d1 : w1.cell? ⟨w.heap.size, 1, none⟩ = some (.string ⟨#[]⟩) := by simp [World.cell?, hb1]
  have d2 : w1.cell? ⟨w.heap.size, 2, none⟩ = some (.slice none 0 0) := by simp [World.cell?, hb1]
  have d3 : ∀ i, w1.frozen? ⟨w.heap.size, i, none⟩ = false := fun i => by simp [World.frozen?, hb1]
  have d4 : w.heap.size < w1.heap.size := by omega
  have HF : Hid ((((w1.setCell ⟨w.heap.size, 0, none⟩ (.int .i64 0)).setCell ⟨w.heap.size, 1, none⟩ (.string ⟨#[]⟩)).setCell ⟨w.heap.size, 2, none⟩ (.slice none 0 0)).heap[N]? = some (.cells #[.int .i64 (code : Nat), .int .i64 (a : Nat)] 35 (0, 0))) := by
    unfold Hid
    rw [Below.heap_setCell _ _ _ _ (by show N ≠ w.heap.size; exact hN), Below.heap_setCell _ _ _ _ (by show N ≠ w.heap.size; exact hN), Below.heap_setCell _ _ _ _ (by show N ≠ w.heap.size; exact hN)]
    exact hF
  have HB : Hid (Below w.heap.size w (((w1.setCell ⟨w.heap.size, 0, none⟩ (.int .i64 0)).setCell ⟨w.heap.size, 1, none⟩ (.string ⟨#[]⟩)).setCell ⟨w.heap.size, 2, none⟩ (.slice none 0 0))) :=
    ((((((Below.refl w.heap.size w).alloc (Nat.le_refl _) zlev).trans (hb.mono (by simp))).setCell (p := ⟨w.heap.size, 0, none⟩) (Nat.le_refl _) _).setCell (p := ⟨w.heap.size, 1, none⟩) (Nat.le_refl _) _).setCell (p := ⟨w.heap.size, 2, none⟩) (Nat.le_refl _) _)
  clear hF hb hb1 hN hlF
  go_wp2_with fail
  refine bodyPost_ret (v := .tuple #[.agg #[.int .i64 0, .string ⟨#[]⟩, .slice none 0 0], .iface 62 (.pointer (some ⟨N, 0, none⟩))]) (by simp [results, Tryd.results5, go_sem, d0, d1, d2]) rfl ?_
  exact ⟨N, rfl, HF.out, HB.out⟩

set_option maxHeartbeats 1000000 in
/-- Parse at a text that is a level. -/
theorem parse_good (s : ByteArray) (l : LvB) (p' : Nat) (w : World) (hs : s.size ≤ 20000) (hr : Reads s l 0 p') (he : runTo blankB s p' = s.size) (ht : Tabs w) :
    Calls Tryd.prog 5 #[.string s] w fun e w' => ∃ (k : Int) (nm : ByteArray) (A : Option Addr) (n cap : Nat), e = .returned (.tuple #[.agg #[.int .i64 k, .string nm, .slice A n cap], .nilIface]) ∧ InLv w' w'.heap.size l (.agg #[.int .i64 k, .string nm, .slice A n cap]) ∧ Below w.heap.size w w' := by
  have K1 := hide (read_calls s l _ _ hs hr he (ht.below ((Below.refl _ _).alloc (Nat.le_refl _) zlev) ht.lt))
  clear hr he ht hs
  go_enter Tryd.func5, Tryd.ntmps5
  go_wp2_with (go_at_call 9; refine K1.out.mono ?_)
  rintro e w1 ⟨k, nm, A, n, cap, rfl, hin, hb⟩
  have hz := hb.size
  simp at hz
  have hb1 : w1.heap[w.heap.size]? = some (.cells #[.int .i64 0, .string ⟨#[]⟩, .slice none 0 0] 29 (0, 0)) := by
    rw [hb.block w.heap.size (by simp)]
    exact heap_alloc_new w zlev
  have d0 : w1.cell? ⟨w.heap.size, 0, none⟩ = some (.int .i64 0) := by simp [World.cell?, hb1]
  have d1 : w1.cell? ⟨w.heap.size, 1, none⟩ = some (.string ⟨#[]⟩) := by simp [World.cell?, hb1]
  have d2 : w1.cell? ⟨w.heap.size, 2, none⟩ = some (.slice none 0 0) := by simp [World.cell?, hb1]
  have d3 : ∀ i, w1.frozen? ⟨w.heap.size, i, none⟩ = false := fun i => by simp [World.frozen?, hb1]
  have d4 : w.heap.size < w1.heap.size := by omega
  have HF : Hid (InLv (((w1.setCell ⟨w.heap.size, 0, none⟩ (.int .i64 k)).setCell ⟨w.heap.size, 1, none⟩ (.string nm)).setCell ⟨w.heap.size, 2, none⟩ (.slice A n cap)) (((w1.setCell ⟨w.heap.size, 0, none⟩ (.int .i64 k)).setCell ⟨w.heap.size, 1, none⟩ (.string nm)).setCell ⟨w.heap.size, 2, none⟩ (.slice A n cap)).heap.size l (.agg #[.int .i64 k, .string nm, .slice A n cap])) :=
    (hin.keep (S' := fun _ => True) fun b _ hb => ⟨trivial, by
      have hb' : w.heap.size + 1 ≤ b := by simpa using hb
      rw [Below.heap_setCell _ _ _ _ (by show b ≠ w.heap.size; omega), Below.heap_setCell _ _ _ _ (by show b ≠ w.heap.size; omega), Below.heap_setCell _ _ _ _ (by show b ≠ w.heap.size; omega)]⟩).inLv
  have HB : Hid (Below w.heap.size w (((w1.setCell ⟨w.heap.size, 0, none⟩ (.int .i64 k)).setCell ⟨w.heap.size, 1, none⟩ (.string nm)).setCell ⟨w.heap.size, 2, none⟩ (.slice A n cap))) :=
    ((((((Below.refl w.heap.size w).alloc (Nat.le_refl _) zlev).trans (hb.mono (by simp))).setCell (p := ⟨w.heap.size, 0, none⟩) (Nat.le_refl _) _).setCell (p := ⟨w.heap.size, 1, none⟩) (Nat.le_refl _) _).setCell (p := ⟨w.heap.size, 2, none⟩) (Nat.le_refl _) _)
  clear hin hb hb1
  go_wp2_with fail
  refine bodyPost_ret (v := .tuple #[.agg #[.int .i64 k, .string nm, .slice A n cap], .nilIface]) (by simp [results, Tryd.results5, go_sem, d0, d1, d2]) rfl ?_
  exact ⟨k, nm, A, n, cap, rfl, HF.out, HB.out⟩

end Go.Proofs.YtmpepnckfghepaaDoor
