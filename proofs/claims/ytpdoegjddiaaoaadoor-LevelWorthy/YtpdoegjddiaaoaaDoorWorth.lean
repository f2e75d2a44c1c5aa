/- The contract of worth: what a level is worth under numbers that a function tells. -/
import Derived.Test.YtpdoegjddiaaoaaDoorWorthMax
namespace Go.Proofs.YtpdoegjddiaaoaaDoor
open Go.RowKit

set_option maxHeartbeats 1000000 in
theorem worth_calls (F : FuncId) (C : Array Value) (σ : ByteArray → Nat) (B : Nat) (hle : ∀ p, σ p ≤ 1000000) : ∀ (l : LvB) (v : Value) (w : World),
    (∀ p, Lv.has p l → p.size ≤ 1000) → l.nodes ≤ 1000000 → B ≤ w.heap.size → InLv w B l v → Numbers F C σ B w →
    Calls Tryd.prog 16 #[v, .func (.func F) #[] C] w fun e w' => e = .returned (.int .i64 (l.worth σ : Nat)) ∧ Below w.heap.size w w' := by
  have WB : Hid (∀ l : LvB, l.nodes ≤ 1000000 → l.worth σ ≤ 2000000) := fun l hl => by
    have := Lv.worth_le (σ := σ) (n := 1000000) l fun p _ => hle p
    have := Lv.succs_le l
    omega
  clear hle
  intro l
  induction l with
  | zero =>
    intro v w _ _ _ hl _
    subst hl
    go_enter Tryd.func16, Tryd.ntmps16
    go_wp2_with fail
    go_ret
    exact ⟨rfl, (Below.refl _ _).alloc (Nat.le_refl _) _⟩
  | param p =>
    intro v w hnm _ hBw hl hn
    subst hl
    exact worth_param F C σ p B w hBw (hnm p rfl) hn
  | succ a ih =>
    intro v w hnm hn hBw hl hN
    obtain ⟨b, cap, x, rfl, hb, ⟨k', nm', A', n', cap', rfl, c0, c1, c2⟩, ha⟩ := hl
    simp only [Lv.nodes] at hn
    have hbs : b < w.heap.size := by omega
    have ha' : a.worth σ ≤ 2000000 := WB.out a (by omega)
    have HI : Hid (∀ w', Below w.heap.size w w' → _) := fun w' (hb' : Below w.heap.size w w') => ih _ w' hnm (by omega) (Nat.le_trans hBw hb'.size) (ha.below (hb'.mono hBw)) (hN.later (hb'.mono hBw))
    have HP : Hid (∀ w', Below w.heap.size w w' → _) := fun w' (hb' : Below w.heap.size w w') => part_calls 1 k' ⟨#[]⟩ nm' b 1 cap 0 n' cap' A' w' (Nat.lt_of_lt_of_le hbs hb'.size) (by omega) (cell_later hb' c0) (cell_later hb' c1) (cell_later hb' c2)
    clear ih ha hN c0 c1 c2 hnm
    simp only [Lv.worth]
    generalize a.worth σ = wa at *
    go_enter Tryd.func16, Tryd.ntmps16
    go_wp2_with (go_at_call 31; refine (HP.out _ ?_).mono ?_)
    · exact ((Below.refl _ _).alloc (Nat.le_refl _) _)
    rintro e w' ⟨rfl, hbw⟩
    have hw1 : Below w.heap.size w w' := ((Below.refl _ _).alloc (Nat.le_refl _) _).trans (hbw.mono (by simp))
    have HW := hide hw1
    clear hw1 hbw
    go_wp2_with (go_at_call 16; refine (HI.out _ HW.out).mono ?_)
    rintro e w'' ⟨rfl, hbw⟩
    have HW2 := hide (HW.out.trans (hbw.mono HW.out.size))
    clear hbw
    go_wp2_with fail
    go_ret
    exact ⟨rfl, HW2.out⟩
  | max a c iha ihc =>
    intro v w hnm hn hBw hl hN
    obtain ⟨b, cap, x, y, rfl, hb, ⟨k', nm', A', n', cap', rfl, c0, c1, c2⟩, ⟨k2, nm2, A2, n2, cap2, rfl, c3, c4, c5⟩, ha, hc⟩ := hl
    simp only [Lv.nodes] at hn
    exact worth_max F C k' k2 nm' nm2 A' A2 b cap n' cap' n2 cap2 _ _ w (by omega) c0 c1 c2 c3 c4 c5
      (fun w' hb' => iha _ w' (fun p hp => hnm p (.inl hp)) (by omega) (Nat.le_trans hBw hb'.size) (ha.below (hb'.mono hBw)) (hN.later (hb'.mono hBw)))
      (fun w' hb' => ihc _ w' (fun p hp => hnm p (.inr hp)) (by omega) (Nat.le_trans hBw hb'.size) (hc.below (hb'.mono hBw)) (hN.later (hb'.mono hBw)))
  | imax a c iha ihc =>
    intro v w hnm hn hBw hl hN
    obtain ⟨b, cap, x, y, rfl, hb, ⟨k', nm', A', n', cap', rfl, c0, c1, c2⟩, ⟨k2, nm2, A2, n2, cap2, rfl, c3, c4, c5⟩, ha, hc⟩ := hl
    simp only [Lv.nodes] at hn
    have hbs : b < w.heap.size := by omega
    have ha' : a.worth σ ≤ 2000000 := WB.out a (by omega)
    have hc' : c.worth σ ≤ 2000000 := WB.out c (by omega)
    have HI := hide (Box.calls (w := w) (c0 := .int .i64 3) (c1 := .string ⟨#[]⟩) (c2 := .slice (some ⟨b, 0, none⟩) 2 cap) fun w' (hb' : Below w.heap.size w w') => iha _ w' (fun p hp => hnm p (.inl hp)) (by omega) (Nat.le_trans hBw hb'.size) (ha.below (hb'.mono hBw)) (hN.later (hb'.mono hBw)))
    have HJ := hide (Box.calls (w := w) (c0 := .int .i64 3) (c1 := .string ⟨#[]⟩) (c2 := .slice (some ⟨b, 0, none⟩) 2 cap) fun w' (hb' : Below w.heap.size w w') => ihc _ w' (fun p hp => hnm p (.inr hp)) (by omega) (Nat.le_trans hBw hb'.size) (hc.below (hb'.mono hBw)) (hN.later (hb'.mono hBw)))
    have HP := hide (Box.calls (w := w) (c0 := .int .i64 3) (c1 := .string ⟨#[]⟩) (c2 := .slice (some ⟨b, 0, none⟩) 2 cap) fun w' (hb' : Below w.heap.size w w') => part_calls 3 k' ⟨#[]⟩ nm' b 2 cap 0 n' cap' A' w' (Nat.lt_of_lt_of_le hbs hb'.size) (by omega) (cell_later hb' c0) (cell_later hb' c1) (cell_later hb' c2))
    have HQ := hide (Box.calls (w := w) (c0 := .int .i64 3) (c1 := .string ⟨#[]⟩) (c2 := .slice (some ⟨b, 0, none⟩) 2 cap) fun w' (hb' : Below w.heap.size w w') => part_calls 3 k2 ⟨#[]⟩ nm2 b 2 cap 1 n2 cap2 A2 w' (Nat.lt_of_lt_of_le hbs hb'.size) (by omega) (cell_later hb' c3) (cell_later hb' c4) (cell_later hb' c5))
    clear iha ihc hN ha hc c0 c1 c2 c3 c4 c5 hnm
    simp only [Lv.worth]
    generalize a.worth σ = wa at *
    generalize c.worth σ = wc at *
    go_enter Tryd.func16, Tryd.ntmps16
    go_wp2_with fail
    refine (HQ.out _ (Box.start w _ _ _)).mono ?_
    rintro e w' ⟨rfl, HB, g0, g1, g2⟩
    go_wp2_with (go_at_call 16; refine (HJ.out _ HB.out).mono ?_)
    rintro e w'' ⟨rfl, HB2, g3, g4, g5⟩
    clear g0 g1 g2
    by_cases h0 : wc = 0
    · have hq : ((wc : Int) == 0) = true := by simp [h0]
      have H0 := hide h0
      clear h0
      go_wp2_with fail
      go_ret
      exact ⟨rfl, HB2.out.old⟩
    · have hq : ((wc : Int) == 0) = false := by simp; omega
      go_wp2_with (go_at_call 31; refine (HP.out _ HB2.out).mono ?_)
      rintro e w3 ⟨rfl, HB3, g6, g7, g8⟩
      clear g3 g4 g5
      go_wp2_with (go_at_call 16; refine (HI.out _ HB3.out).mono ?_)
      rintro e w4 ⟨rfl, HB4, g3, g4, g5⟩
      go_wp2_with fail
      all_goals
        go_ret
        refine ⟨ret_int ?_, HB4.out.old⟩
        first | omega | (simp; omega) | (rw [if_neg (by omega)]; omega) | (rw [if_neg (by omega)]; simp; omega)

end Go.Proofs.YtpdoegjddiaaoaaDoor
