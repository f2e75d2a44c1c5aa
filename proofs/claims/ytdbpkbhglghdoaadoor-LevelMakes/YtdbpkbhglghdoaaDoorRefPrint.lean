/- The contract of the document's PrintLevel. -/
import Derived.Test.YtdbpkbhglghdoaaDoorText
import Derived.Test.YtdbpkbhglghdoaaDoorLater
namespace Go.Proofs.YtdbpkbhglghdoaaDoor
open Go.RowKit

theorem ret_str {a b : ByteArray} (h : a = b) : Ending.returned (.string a) = .returned (.string b) := by rw [h]

set_option maxHeartbeats 2000000 in
theorem rprint_two (kd : Int) (ta tc wd : List UInt8) (hta : ta.length ≤ 1000000000) (htc : tc.length ≤ 1000000000) (hkd : (kd = 2 ∧ wd = [109, 97, 120]) ∨ (kd = 3 ∧ wd = [105, 109, 97, 120])) (k' k2 : Int) (nm' nm2 : ByteArray) (A' A2 : Option Addr) (b cap n' cap' n2 cap2 : Nat) (w : World)
    (c0 : w.cell? ⟨b, 0, none⟩ = some (.int .i64 k')) (c1 : w.cell? ⟨b, 0 + 1, none⟩ = some (.string nm')) (c2 : w.cell? ⟨b, 0 + 2, none⟩ = some (.slice A' n' cap'))
    (c3 : w.cell? ⟨b, 3, none⟩ = some (.int .i64 k2)) (c4 : w.cell? ⟨b, 3 + 1, none⟩ = some (.string nm2)) (c5 : w.cell? ⟨b, 3 + 2, none⟩ = some (.slice A2 n2 cap2))
    (iha : ∀ w', Below w.heap.size w w' → Calls Tryd.prog 10 #[.agg #[.int .i64 k', .string nm', .slice A' n' cap']] w' fun e w'' => e = .returned (.string ⟨ta.toArray⟩) ∧ Below w'.heap.size w' w'')
    (ihc : ∀ w', Below w.heap.size w w' → Calls Tryd.prog 10 #[.agg #[.int .i64 k2, .string nm2, .slice A2 n2 cap2]] w' fun e w'' => e = .returned (.string ⟨tc.toArray⟩) ∧ Below w'.heap.size w' w'') :
    Calls Tryd.prog 10 #[.agg #[.int .i64 kd, .string ⟨#[]⟩, .slice (some ⟨b, 0, none⟩) 2 cap]] w fun e w' => e = .returned (.string ⟨([40] ++ wd ++ [32] ++ ta ++ [32] ++ tc ++ [41]).toArray⟩) ∧ Below w.heap.size w w' := by
  have HA := hide iha
  have HC := hide ihc
  clear iha ihc
  rcases hkd with ⟨rfl, rfl⟩ | ⟨rfl, rfl⟩
  all_goals
    go_enter Tryd.func10, Tryd.ntmps10
    go_wp2_with fail
    generalize hW0 : w.alloc (.cells #[.int .i64 _, .string ⟨#[]⟩, .slice (some ⟨b, 0, none⟩) 2 cap] 29) = W0 at *
    have hsz : W0.heap.size = w.heap.size + 1 := by rw [← hW0]; simp
    have hold : Below w.heap.size w W0 := by rw [← hW0]; exact (Below.refl _ _).alloc (Nat.le_refl _) _
    have q2 : ∀ x : Later (w.heap.size + 1) W0, x.W.cell? ⟨w.heap.size, 2, none⟩ = some (.slice (some ⟨b, 0, none⟩) 2 cap) := fun x => by rw [x.h.cell (by simp), ← hW0]; simp
    have hb0 : ∀ x : Later (w.heap.size + 1) W0, Below w.heap.size w x.W := fun x => hold.trans (x.h.mono (by omega))
    have q3 : ∀ x : Later (w.heap.size + 1) W0, x.W.cell? ⟨b, 0, none⟩ = some (.int .i64 k') := fun x => cell_later (hb0 x) c0
    have q4 : ∀ x : Later (w.heap.size + 1) W0, x.W.cell? ⟨b, 1, none⟩ = some (.string nm') := fun x => cell_later (hb0 x) c1
    have q5 : ∀ x : Later (w.heap.size + 1) W0, x.W.cell? ⟨b, 2, none⟩ = some (.slice A' n' cap') := fun x => cell_later (hb0 x) c2
    have q6 : ∀ x : Later (w.heap.size + 1) W0, x.W.cell? ⟨b, 3, none⟩ = some (.int .i64 k2) := fun x => cell_later (hb0 x) c3
    have q7 : ∀ x : Later (w.heap.size + 1) W0, x.W.cell? ⟨b, 4, none⟩ = some (.string nm2) := fun x => cell_later (hb0 x) c4
    have q8 : ∀ x : Later (w.heap.size + 1) W0, x.W.cell? ⟨b, 5, none⟩ = some (.slice A2 n2 cap2) := fun x => cell_later (hb0 x) c5
    have HL := hide (fun W (hW : Below (w.heap.size + 1) W0 W) => HA.out W (hold.trans (hW.mono (by omega))))
    have HL' := hide (fun W (hW : Below (w.heap.size + 1) W0 W) => HC.out W (hold.trans (hW.mono (by omega))))
    have HS := hide hsz
    have HO := hide hold
    clear hW0 hsz hold hb0 c0 c1 c2 c3 c4 c5
    refine wp_region_later (by kernel_rfl) (by kernel_rfl) (Below.refl (w.heap.size + 1) W0) ?_
    have hst := Later.some (w.heap.size + 1) W0
    have hn2 : w.heap.size + 1 ≤ W0.heap.size := by rw [HS.out]; exact Nat.le_refl _
    have e1 : (9223372036854775807 < 5 + ta.length) = False := eq_false (by omega)
    have e2 : (9223372036854775807 < 5 + ta.length + 1) = False := eq_false (by omega)
    have e3 : (9223372036854775807 < 5 + ta.length + 1 + tc.length) = False := eq_false (by omega)
    have e4 : (9223372036854775807 < 5 + ta.length + 1 + tc.length + 1) = False := eq_false (by omega)
    have e5 : (9223372036854775807 < 6 + ta.length) = False := eq_false (by omega)
    have e6 : (9223372036854775807 < 6 + ta.length + 1) = False := eq_false (by omega)
    have e7 : (9223372036854775807 < 6 + ta.length + 1 + tc.length) = False := eq_false (by omega)
    have e8 : (9223372036854775807 < 6 + ta.length + 1 + tc.length + 1) = False := eq_false (by omega)
    quiet_step (fail)
    quiet_step (fail)
    quiet_step (fail)
    quiet_step (fail)
    quiet_step (fail)
    quiet_step (fail)
    quiet_step (fail)
    quiet_step (exact Later.calls HL.out hn2 _)
    quiet_step (fail)
    quiet_step (fail)
    quiet_step (fail)
    quiet_step (fail)
    quiet_step (fail)
    quiet_step (fail)
    quiet_step (exact Later.calls HL'.out hn2 _)
    quiet_step (fail)
    quiet_step (fail)
    quiet_step (fail)
    refine wpQuiet_nil ?_
    intro _ hw'
    obtain ⟨x, rfl⟩ := hw'
    go_wp2_with fail
    go_ret
    refine ⟨ret_str ?_, HO.out.trans (x.h.mono (by omega))⟩
    rw [ByteArray.ext_iff]
    simp

set_option maxHeartbeats 1000000 in
theorem rprint_calls : ∀ (l : LvB) (v : Value) (B : Nat) (w : World), l.nodes ≤ 1000000 → (∀ p, Lv.has p l → p.size ≤ 1000) → B ≤ w.heap.size → InLv w B l v →
    Calls Tryd.prog 10 #[v] w fun e w' => e = .returned (.string ⟨l.text.toArray⟩) ∧ Below w.heap.size w w' := by
  intro l
  induction l with
  | zero =>
    intro v B w _ _ _ hl
    subst hl
    go_enter Tryd.func10, Tryd.ntmps10
    go_wp2_with fail
    go_ret
    exact ⟨rfl, (Below.refl _ _).alloc (Nat.le_refl _) _⟩
  | param p =>
    intro v B w _ _ _ hl
    subst hl
    go_enter Tryd.func10, Tryd.ntmps10
    go_wp2_with fail
    go_ret
    exact ⟨rfl, (Below.refl _ _).alloc (Nat.le_refl _) _⟩
  | succ a ih =>
    intro v B w hn hm hBw hl
    obtain ⟨b, cap, x, rfl, hb, ⟨k', nm', A', n', cap', rfl, c0, c1, c2⟩, ha⟩ := hl
    simp only [Lv.nodes] at hn
    have hbs : b < w.heap.size := by omega
    have hlen := Lv.text_len a hm
    have HI : Hid (∀ w', Below w.heap.size w w' → _) := fun w' (hb' : Below w.heap.size w w') => ih _ B w' (by omega) hm (Nat.le_trans hBw hb'.size) (ha.below (hb'.mono hBw))
    clear ih ha hm
    simp only [Lv.text]
    generalize Lv.text a = ta at *
    go_enter Tryd.func10, Tryd.ntmps10
    go_wp2_with (go_at_call 10; refine (HI.out _ ?_).mono ?_)
    · exact (Below.refl _ _).alloc (Nat.le_refl _) _
    rintro e w' ⟨rfl, hbw⟩
    have HW : Hid (Below w.heap.size w w') := ((Below.refl _ _).alloc (Nat.le_refl _) _).trans (hbw.mono (by simp))
    clear hbw
    go_wp2_with fail
    go_ret
    refine ⟨ret_str ?_, HW.out⟩
    rw [ByteArray.ext_iff]
    simp
  | max a c iha ihc =>
    intro v B w hn hm hBw hl
    obtain ⟨b, cap, x, y, rfl, hb, ⟨k', nm', A', n', cap', rfl, c0, c1, c2⟩, ⟨k2, nm2, A2, n2, cap2, rfl, c3, c4, c5⟩, ha, hc⟩ := hl
    simp only [Lv.nodes] at hn
    exact rprint_two 2 (Lv.text a) (Lv.text c) [109, 97, 120] (by have := Lv.text_len a fun p hp => hm p (.inl hp); omega) (by have := Lv.text_len c fun p hp => hm p (.inr hp); omega) (.inl ⟨rfl, rfl⟩) k' k2 nm' nm2 A' A2 b cap n' cap' n2 cap2 w c0 c1 c2 c3 c4 c5
      (fun w' hb' => iha _ B w' (by omega) (fun p hp => hm p (.inl hp)) (Nat.le_trans hBw hb'.size) (ha.below (hb'.mono hBw)))
      (fun w' hb' => ihc _ B w' (by omega) (fun p hp => hm p (.inr hp)) (Nat.le_trans hBw hb'.size) (hc.below (hb'.mono hBw)))
  | imax a c iha ihc =>
    intro v B w hn hm hBw hl
    obtain ⟨b, cap, x, y, rfl, hb, ⟨k', nm', A', n', cap', rfl, c0, c1, c2⟩, ⟨k2, nm2, A2, n2, cap2, rfl, c3, c4, c5⟩, ha, hc⟩ := hl
    simp only [Lv.nodes] at hn
    exact rprint_two 3 (Lv.text a) (Lv.text c) [105, 109, 97, 120] (by have := Lv.text_len a fun p hp => hm p (.inl hp); omega) (by have := Lv.text_len c fun p hp => hm p (.inr hp); omega) (.inr ⟨rfl, rfl⟩) k' k2 nm' nm2 A' A2 b cap n' cap' n2 cap2 w c0 c1 c2 c3 c4 c5
      (fun w' hb' => iha _ B w' (by omega) (fun p hp => hm p (.inl hp)) (Nat.le_trans hBw hb'.size) (ha.below (hb'.mono hBw)))
      (fun w' hb' => ihc _ B w' (by omega) (fun p hp => hm p (.inr hp)) (Nat.le_trans hBw hb'.size) (hc.below (hb'.mono hBw)))

end Go.Proofs.YtdbpkbhglghdoaaDoor
