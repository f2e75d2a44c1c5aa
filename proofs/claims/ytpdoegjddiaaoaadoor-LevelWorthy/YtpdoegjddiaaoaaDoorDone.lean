/- The contract of done, and of fail whatever went before. -/
import Derived.Test.YtpdoegjddiaaoaaDoorReader
namespace Go.Proofs.YtpdoegjddiaaoaaDoor
open Go.RowKit

theorem fail_any (rb : Nat) (s : ByteArray) (p code a b : Nat) (w : World) (h : RdAt w rb s p code a) : Calls Tryd.prog 29 #[.pointer (some ⟨rb, 0, none⟩), .int .i64 (b : Nat)] w fun e w' => ∃ c' a' : Nat, e = .returned (.tuple #[]) ∧ RdAt w' rb s p c' a' ∧ c' ≠ 0 ∧ Touched w rb w' := by
  by_cases hc : code = 0
  · subst hc
    exact (fail_zero rb s p a b w h).mono fun e w' ⟨he, hr, ht⟩ => ⟨1, b, he, hr, by omega, ht⟩
  · exact (fail_not rb s p code a b w hc h).mono fun e w' ⟨he, hw⟩ => ⟨code, a, he, by rw [hw]; exact h, hc, by rw [hw]; exact Touched.refl _ _⟩

set_option maxHeartbeats 1000000 in
theorem done_calls (rb : Nat) (s : ByteArray) (p code a : Nat) (w : World) (hs : s.size ≤ 20000) (hp : p ≤ s.size) (h : RdAt w rb s p code a) :
    Calls Tryd.prog 14 #[.pointer (some ⟨rb, 0, none⟩)] w fun e w' => ∃ c' a' : Nat, e = .returned (.agg #[.int .i64 (c' : Nat), .int .i64 (a' : Nat)]) ∧ (c' = 0 → code = 0) ∧ Touched w rb w' := by
  have hal := h.alloc (.cells #[.int .i64 0, .int .i64 0] 30)
  have hrb := h.lt
  have HT := hide (token_calls s p rb _ hs hp hal.c0 hal.c1)
  have HA : Hid (Touched w rb (w.alloc (.cells #[.int .i64 0, .int .i64 0] 30))) := Touched.alloc _ _ _
  have c2 := h.c2
  have c3 := h.c3
  have HF := hide (fun b => fail_any rb s p code a b _ hal)
  clear h hal
  generalize (tok s p).t = t at *
  generalize (tok s p).at_ = k at *
  generalize (tok s p).ok = ok at *
  by_cases ht : ok = true ∧ t = ⟨#[]⟩
  · obtain ⟨rfl, ht⟩ := ht
    have hb := sameLit_pos (l := []) ht
    have H := hide ht
    clear ht
    go_enter Tryd.func14, Tryd.ntmps14
    go_wp2_with (go_at_call 26; refine HT.out.mono ?_; rintro e w' ⟨rfl, rfl⟩)
    refine bodyPost_ret (v := .agg #[.int .i64 (code : Nat), .int .i64 (a : Nat)]) (by simp [results, Tryd.results14, go_sem]) rfl ⟨code, a, rfl, fun h => h, ?_⟩
    exact Touched.alloc _ _ _
  · have hb : (!ok || !(t.toList == ([] : List UInt8))) = true := by
      cases ok with
      | false => rfl
      | true => rw [sameLit_neg (l := []) (fun e => ht ⟨rfl, e⟩)]; rfl
    cases ok with
    | false =>
      clear ht hb
      go_enter Tryd.func14, Tryd.ntmps14
      go_wp2_with (first
        | (go_at_call 26; refine HT.out.mono ?_; rintro e w' ⟨rfl, rfl⟩)
        | (go_at_call 29; refine (HF.out _).mono ?_))
      rintro e w2 ⟨c', a', rfl, hr, hc', ht⟩
      have d2 := hr.c2
      have d3 := hr.c3
      have hz := ht.size
      have hblk := ht.block w.heap.size (by simp) (by simp; omega)
      have d4 : w2.cell? ⟨w.heap.size, 0, none⟩ = some (.int .i64 0) := by rw [World.cell?_of_block hblk]; simp
      have d5 : w2.cell? ⟨w.heap.size, 1, none⟩ = some (.int .i64 0) := by rw [World.cell?_of_block hblk]; simp
      have d6 : w2.frozen? ⟨w.heap.size, 0, none⟩ = false := by rw [World.frozen?_of_block hblk]; simp [World.frozen?_alloc_at]
      have d7 : w2.frozen? ⟨w.heap.size, 1, none⟩ = false := by rw [World.frozen?_of_block hblk]; simp [World.frozen?_alloc_at]
      simp at hz
      have HTo := hide (HA.out.trans ht)
      have HC := hide hc'
      clear hr ht hblk hc'
      go_wp2_with fail
      refine bodyPost_ret (v := .agg #[.int .i64 (c' : Nat), .int .i64 (a' : Nat)]) (by simp [results, Tryd.results14, go_sem, d4, d5]) rfl ⟨c', a', rfl, fun h => absurd h HC.out, ?_⟩
      exact (HTo.out.setNew (a := ⟨w.heap.size, 0, none⟩) (Nat.le_refl _) _).setNew (a := ⟨w.heap.size, 1, none⟩) (Nat.le_refl _) _
    | true =>
      have hb2 : (t.toList == ([] : List UInt8)) = false := by simpa using hb
      clear ht hb
      go_enter Tryd.func14, Tryd.ntmps14
      go_wp2_with (first
        | (go_at_call 26; refine HT.out.mono ?_; rintro e w' ⟨rfl, rfl⟩)
        | (go_at_call 29; refine (HF.out _).mono ?_))
      rintro e w2 ⟨c', a', rfl, hr, hc', ht⟩
      have d2 := hr.c2
      have d3 := hr.c3
      have hz := ht.size
      have hblk := ht.block w.heap.size (by simp) (by simp; omega)
      have d4 : w2.cell? ⟨w.heap.size, 0, none⟩ = some (.int .i64 0) := by rw [World.cell?_of_block hblk]; simp
      have d5 : w2.cell? ⟨w.heap.size, 1, none⟩ = some (.int .i64 0) := by rw [World.cell?_of_block hblk]; simp
      have d6 : w2.frozen? ⟨w.heap.size, 0, none⟩ = false := by rw [World.frozen?_of_block hblk]; simp [World.frozen?_alloc_at]
      have d7 : w2.frozen? ⟨w.heap.size, 1, none⟩ = false := by rw [World.frozen?_of_block hblk]; simp [World.frozen?_alloc_at]
      simp at hz
      have HTo := hide (HA.out.trans ht)
      have HC := hide hc'
      clear hr ht hblk hc'
      go_wp2_with fail
      refine bodyPost_ret (v := .agg #[.int .i64 (c' : Nat), .int .i64 (a' : Nat)]) (by simp [results, Tryd.results14, go_sem, d4, d5]) rfl ⟨c', a', rfl, fun h => absurd h HC.out, ?_⟩
      exact (HTo.out.setNew (a := ⟨w.heap.size, 0, none⟩) (Nat.le_refl _) _).setNew (a := ⟨w.heap.size, 1, none⟩) (Nat.le_refl _) _

end Go.Proofs.YtpdoegjddiaaoaaDoor
