/- The contracts of notation.Read at a text that is too long, and of term.Parse. -/
import Derived.Test.YtnbpmmgekoclpaaGreatDoorPReadBad
namespace Go.Proofs.YtnbpmmgekoclpaaGreatDoor
open Go.RowKit

set_option maxRecDepth 100000 in
set_option maxHeartbeats 4000000 in
theorem read_long (s : ByteArray) (w : World) (hs : 20000 < s.size) (hm : s.size ≤ maxLen) (f : Value) :
    Calls Tryz.prog 9 #[.string s, .int .i64 20000, f] w fun e w' => Faulted w 2 0 e w' := by
  unfold maxLen at hm
  go_enter_defers Tryz.func9, Tryz.ntmps9
  go_wp2_with fail
  refine ⟨.tuple #[.agg #[.int .i64 0, .int .i64 0, .string ⟨#[]⟩, .slice none 0 0, .slice none 0 0], .iface 52 (.pointer (some ⟨w.heap.size + 1 + 1, 0, none⟩))], by simp [results, Tryz.results9, go_sem], w.heap.size + 1 + 1, rfl, ?_, ?_⟩
  · have := heap_alloc_new ((w.alloc ztm).alloc (.cells #[.iface 52 (.pointer (some ⟨w.heap.size + 1 + 1, 0, none⟩))] 32)) (.cells #[.int .i64 (2 : Nat), .int .i64 (0 : Nat)] 36)
    simpa using this
  · exact (((Below.refl _ _).alloc (Nat.le_refl _) _).alloc (by simp) _).alloc (by simp; omega) _

set_option maxHeartbeats 1000000 in
/-- Parse at a text that is no term. -/
theorem tparse_bad (s : ByteArray) (code a : Nat) (w : World) (ht : Tabs2 w) (K : ∀ W, Tabs2 W → Calls Tryz.prog 9 #[.string s, .int .i64 20000, .func (.func 10) #[] #[]] W fun e w' => Faulted W code a e w') :
    Calls Tryz.prog 5 #[.string s] w fun e w' => Faulted w code a e w' := by
  have K1 := hide (K _ (((ht.below ((Below.refl _ _).alloc (Nat.le_refl _) ztm) ht.lt))))
  clear K ht
  go_enter Tryz.func5, Tryz.ntmps5
  go_wp2_with (go_at_call 9; refine K1.out.mono ?_)
  rintro e w1 ⟨N, rfl, hF, hb⟩
  have hz := hb.size
  simp at hz
  have hlF : N < w1.heap.size := (Array.getElem?_eq_some_iff.1 hF).1
  have hb1 : w1.heap[w.heap.size]? = some (.cells #[.int .i64 0, .int .i64 0, .string ⟨#[]⟩, .slice none 0 0, .slice none 0 0] 30 (0, 0)) := by
    rw [hb.block w.heap.size (by simp)]
    exact heap_alloc_new w ztm
  have hN : N ≠ w.heap.size := fun e => by rw [e, hb1] at hF; simp at hF
  have d0 : w1.cell? ⟨w.heap.size, 0, none⟩ = some (.int .i64 0) := by simp [World.cell?, hb1]
  have d1 : w1.cell? ⟨w.heap.size, 1, none⟩ = some (.int .i64 0) := by simp [World.cell?, hb1]
  have d2 : w1.cell? ⟨w.heap.size, 2, none⟩ = some (.string ⟨#[]⟩) := by simp [World.cell?, hb1]
  have dx3 : w1.cell? ⟨w.heap.size, 3, none⟩ = some (.slice none 0 0) := by simp [World.cell?, hb1]
  have dx4 : w1.cell? ⟨w.heap.size, 4, none⟩ = some (.slice none 0 0) := by simp [World.cell?, hb1]
  have d3 : ∀ i, w1.frozen? ⟨w.heap.size, i, none⟩ = false := fun i => by simp [World.frozen?, hb1]
  have d4 : w.heap.size < w1.heap.size := by omega
  have HF : Hid ((((((w1.setCell ⟨w.heap.size, 0, none⟩ (.int .i64 0)).setCell ⟨w.heap.size, 1, none⟩ (.int .i64 0)).setCell ⟨w.heap.size, 2, none⟩ (.string ⟨#[]⟩)).setCell ⟨w.heap.size, 3, none⟩ (.slice none 0 0)).setCell ⟨w.heap.size, 4, none⟩ (.slice none 0 0)).heap[N]? = some (.cells #[.int .i64 (code : Nat), .int .i64 (a : Nat)] 36 (0, 0))) := by
    unfold Hid
    rw [Below.heap_setCell _ _ _ _ (by show N ≠ w.heap.size; exact hN), Below.heap_setCell _ _ _ _ (by show N ≠ w.heap.size; exact hN), Below.heap_setCell _ _ _ _ (by show N ≠ w.heap.size; exact hN), Below.heap_setCell _ _ _ _ (by show N ≠ w.heap.size; exact hN), Below.heap_setCell _ _ _ _ (by show N ≠ w.heap.size; exact hN)]
    exact hF
  have HB : Hid (Below w.heap.size w (((((w1.setCell ⟨w.heap.size, 0, none⟩ (.int .i64 0)).setCell ⟨w.heap.size, 1, none⟩ (.int .i64 0)).setCell ⟨w.heap.size, 2, none⟩ (.string ⟨#[]⟩)).setCell ⟨w.heap.size, 3, none⟩ (.slice none 0 0)).setCell ⟨w.heap.size, 4, none⟩ (.slice none 0 0))) :=
    ((((((((Below.refl w.heap.size w).alloc (Nat.le_refl _) ztm).trans (hb.mono (by simp))).setCell (p := ⟨w.heap.size, 0, none⟩) (Nat.le_refl _) _).setCell (p := ⟨w.heap.size, 1, none⟩) (Nat.le_refl _) _).setCell (p := ⟨w.heap.size, 2, none⟩) (Nat.le_refl _) _).setCell (p := ⟨w.heap.size, 3, none⟩) (Nat.le_refl _) _).setCell (p := ⟨w.heap.size, 4, none⟩) (Nat.le_refl _) _)
  clear hF hb hb1 hN hlF
  go_wp2_with fail
  refine bodyPost_ret (v := .tuple #[.agg #[.int .i64 0, .int .i64 0, .string ⟨#[]⟩, .slice none 0 0, .slice none 0 0], .iface 52 (.pointer (some ⟨N, 0, none⟩))]) (by simp [results, Tryz.results5, go_sem, d0, d1, d2, dx3, dx4]) rfl ?_
  exact ⟨N, rfl, HF.out, HB.out⟩

set_option maxHeartbeats 1000000 in
/-- Parse at a text that is a term. -/
theorem tparse_good (s : ByteArray) (dd : Nat) (t : Tm) (p' : Nat) (w : World) (hs : s.size ≤ 20000) (hr : RT s dd t 0 p') (he : runTo blankB s p' = s.size) (ht : Tabs2 w) :
    Calls Tryz.prog 5 #[.string s] w fun e w' => ∃ (k n : Int) (nm : ByteArray) (A : Option Addr) (la lc : Nat) (A' : Option Addr) (ta tc : Nat), e = .returned (.tuple #[.agg #[.int .i64 k, .int .i64 n, .string nm, .slice A la lc, .slice A' ta tc], .nilIface]) ∧ InTm w' (fun _ => True) dd t (.agg #[.int .i64 k, .int .i64 n, .string nm, .slice A la lc, .slice A' ta tc]) ∧ Below w.heap.size w w' := by
  have K1 := hide (read_calls s dd t _ _ hs hr he (ht.below ((Below.refl _ _).alloc (Nat.le_refl _) ztm) ht.lt))
  clear hr he ht hs
  go_enter Tryz.func5, Tryz.ntmps5
  go_wp2_with (go_at_call 9; refine K1.out.mono ?_)
  rintro e w1 ⟨k, n, nm, A, la, lc, A', ta, tc, rfl, hin, hb⟩
  have hz := hb.size
  simp at hz
  have hb1 : w1.heap[w.heap.size]? = some (.cells #[.int .i64 0, .int .i64 0, .string ⟨#[]⟩, .slice none 0 0, .slice none 0 0] 30 (0, 0)) := by
    rw [hb.block w.heap.size (by simp)]
    exact heap_alloc_new w ztm
  have d0 : w1.cell? ⟨w.heap.size, 0, none⟩ = some (.int .i64 0) := by simp [World.cell?, hb1]
  have d1 : w1.cell? ⟨w.heap.size, 1, none⟩ = some (.int .i64 0) := by simp [World.cell?, hb1]
  have d2 : w1.cell? ⟨w.heap.size, 2, none⟩ = some (.string ⟨#[]⟩) := by simp [World.cell?, hb1]
  have dx3 : w1.cell? ⟨w.heap.size, 3, none⟩ = some (.slice none 0 0) := by simp [World.cell?, hb1]
  have dx4 : w1.cell? ⟨w.heap.size, 4, none⟩ = some (.slice none 0 0) := by simp [World.cell?, hb1]
  have d3 : ∀ i, w1.frozen? ⟨w.heap.size, i, none⟩ = false := fun i => by simp [World.frozen?, hb1]
  have d4 : w.heap.size < w1.heap.size := by omega
  have HF : Hid (InTm ((((((w1.setCell ⟨w.heap.size, 0, none⟩ (.int .i64 k)).setCell ⟨w.heap.size, 1, none⟩ (.int .i64 n)).setCell ⟨w.heap.size, 2, none⟩ (.string nm)).setCell ⟨w.heap.size, 3, none⟩ (.slice A la lc)).setCell ⟨w.heap.size, 4, none⟩ (.slice A' ta tc))) (fun _ => True) dd t (.agg #[.int .i64 k, .int .i64 n, .string nm, .slice A la lc, .slice A' ta tc])) :=
    (hin.keep (S' := fun _ => True) fun b _ hb => ⟨trivial, by
      have hb' : w.heap.size + 1 ≤ b := by simpa using hb
      rw [Below.heap_setCell _ _ _ _ (by show b ≠ w.heap.size; omega), Below.heap_setCell _ _ _ _ (by show b ≠ w.heap.size; omega), Below.heap_setCell _ _ _ _ (by show b ≠ w.heap.size; omega), Below.heap_setCell _ _ _ _ (by show b ≠ w.heap.size; omega), Below.heap_setCell _ _ _ _ (by show b ≠ w.heap.size; omega)]⟩)
  have HB : Hid (Below w.heap.size w (((((w1.setCell ⟨w.heap.size, 0, none⟩ (.int .i64 k)).setCell ⟨w.heap.size, 1, none⟩ (.int .i64 n)).setCell ⟨w.heap.size, 2, none⟩ (.string nm)).setCell ⟨w.heap.size, 3, none⟩ (.slice A la lc)).setCell ⟨w.heap.size, 4, none⟩ (.slice A' ta tc))) :=
    ((((((((Below.refl w.heap.size w).alloc (Nat.le_refl _) ztm).trans (hb.mono (by simp))).setCell (p := ⟨w.heap.size, 0, none⟩) (Nat.le_refl _) _).setCell (p := ⟨w.heap.size, 1, none⟩) (Nat.le_refl _) _).setCell (p := ⟨w.heap.size, 2, none⟩) (Nat.le_refl _) _).setCell (p := ⟨w.heap.size, 3, none⟩) (Nat.le_refl _) _).setCell (p := ⟨w.heap.size, 4, none⟩) (Nat.le_refl _) _)
  clear hin hb hb1
  go_wp2_with fail
  refine bodyPost_ret (v := .tuple #[.agg #[.int .i64 k, .int .i64 n, .string nm, .slice A la lc, .slice A' ta tc], .nilIface]) (by simp [results, Tryz.results5, go_sem, d0, d1, d2, dx3, dx4]) rfl ?_
  exact ⟨k, n, nm, A, la, lc, A', ta, tc, rfl, HF.out, HB.out⟩

end Go.Proofs.YtnbpmmgekoclpaaGreatDoor
