/- The contracts of Leq and Same of package level: they tell what is so under all numbers. -/
import Derived.Test.YtpdoegjddiaaoaaDoorAlways
namespace Go.Proofs.YtpdoegjddiaaoaaDoor
open Go.RowKit Go.Maps

theorem nodup_length {α : Type} : ∀ (l m : List α), l.Nodup → (∀ x, x ∈ l → x ∈ m) → l.length ≤ m.length
  | [], _, _, _ => by simp
  | x :: xs, m, hnd, hsub => by
    obtain ⟨s, t, rfl⟩ := List.append_of_mem (hsub x (by simp))
    have := nodup_length xs (s ++ t) (List.nodup_cons.1 hnd).2 fun y hy => by
      have h1 := hsub y (List.mem_cons_of_mem _ hy)
      have hne : y ≠ x := fun e => (List.nodup_cons.1 hnd).1 (e ▸ hy)
      simp only [List.mem_append, List.mem_cons] at h1 ⊢
      rcases h1 with h | h | h
      · exact .inl h
      · exact absurd h hne
      · exact .inr h
    simp only [List.length_append, List.length_cons] at this ⊢
    omega

/-- The order in which the two levels are walked does not count. -/
theorem addP_comm_len (a b : LvB) : (b.addP (a.addP [])).length ≤ (a.addP (b.addP [])).length := by
  refine nodup_length _ _ (Lv.addP_nodup b _ (Lv.addP_nodup a _ List.nodup_nil)) fun p hp => ?_
  rcases Lv.addP_mem b _ p hp with h | h
  · rcases Lv.addP_mem a _ p h with h | h
    · simp at h
    · exact Lv.addP_has a _ p h
  · exact Lv.addP_sub a _ p (Lv.addP_has b _ p h)

theorem puts_le : ∀ {n : Nat}, n ≤ 6 → puts n ≤ 1000000
  | 0, _ => by decide
  | 1, _ => by decide
  | 2, _ => by decide
  | 3, _ => by decide
  | 4, _ => by decide
  | 5, _ => by decide
  | 6, _ => by decide
  | n + 7, h => by omega

theorem try_facts (a b : LvB) : (∀ p, a.has p ∨ b.has p → p ∈ b.addP (a.addP [])) ∧ (b.addP (a.addP [])).Nodup ∧ (∀ p, a.gate p false → decide (0 < Lv.gcount p false (.max a b)) = true) ∧ (∀ p, b.gate p false → decide (0 < Lv.gcount p false (.max a b)) = true) :=
  ⟨fun p hp => hp.elim (fun h => Lv.addP_sub b _ p (Lv.addP_has a [] p h)) (fun h => Lv.addP_has b _ p h), Lv.addP_nodup b _ (Lv.addP_nodup a _ List.nodup_nil),
    fun p hp => by rw [decide_eq_true_eq, Lv.gcount_gate]; exact .inl hp, fun p hp => by rw [decide_eq_true_eq, Lv.gcount_gate]; exact .inr hp⟩

theorem try_leq (a b : LvB) : tryB (fun x y => decide (x ≤ y)) a b (fun q => decide (0 < Lv.gcount q false (.max a b))) (a.worth (fun _ => 1) + b.worth (fun _ => 1) + 1) (b.addP (a.addP [])) true (fun _ => 0) = leB a b := by
  obtain ⟨h1, h2, h3, h4⟩ := try_facts a b
  by_cases h : Leq a b
  · rw [leB_true h]
    exact tryB_all (fun τ => by simpa using h τ) _ _ _
  · rw [leB_false h, ← Bool.not_eq_true]
    intro ht
    refine h (tried_decides h1 h2 h3 h4 (fun τ hτ => ?_) fun τ hτ => by simpa using tryB_tried ht hτ)
    have := Lv.worth_mono hτ b
    omega

noncomputable def sameB (a b : LvB) : Bool := leB a b && leB b a

theorem try_same (a b : LvB) : tryB (fun x y => decide (x = y)) a b (fun q => decide (0 < Lv.gcount q false (.max a b))) (a.worth (fun _ => 1) + b.worth (fun _ => 1) + 1) (b.addP (a.addP [])) true (fun _ => 0) = sameB a b := by
  obtain ⟨h1, h2, h3, h4⟩ := try_facts a b
  by_cases h : Leq a b ∧ Leq b a
  · rw [sameB, leB_true h.1, leB_true h.2]
    exact tryB_all (fun τ => by have := h.1 τ; have := h.2 τ; simp; omega) _ _ _
  · have hf : sameB a b = false := by
      unfold sameB
      by_cases h' : Leq a b
      · rw [leB_false (a := b) fun h'' => h ⟨h', h''⟩]; simp
      · rw [leB_false h']; simp
    rw [hf, ← Bool.not_eq_true]
    intro ht
    refine h ⟨tried_decides (G := a.worth (fun _ => 1) + b.worth (fun _ => 1) + 1) (σ := fun _ => 0) h1 h2 h3 h4 (fun τ hτ => ?_) fun τ hτ => ?_, tried_decides (G := a.worth (fun _ => 1) + b.worth (fun _ => 1) + 1) (ps := b.addP (a.addP [])) (σ := fun _ => 0) (fun p hp => h1 p hp.symm) h2 h4 h3 (fun τ hτ => ?_) fun τ hτ => ?_⟩
    · have := Lv.worth_mono hτ b; omega
    · have := tryB_tried ht hτ; simp at this; omega
    · have := Lv.worth_mono hτ a; omega
    · have := tryB_tried ht hτ; simp at this; omega

set_option maxHeartbeats 1000000 in
theorem leq_calls (a b : LvB) (va vb : Value) (B : Nat) (w : World) (hBw : B ≤ w.heap.size) (ha : InLv w B a va) (hb : InLv w B b vb) (na : a.nodes ≤ 1000) (nb : b.nodes ≤ 1000) (ma : ∀ p, Lv.has p a → p.size ≤ 1000) (mb : ∀ p, Lv.has p b → p.size ≤ 1000) (hlen : (a.addP (b.addP [])).length ≤ 6) :
    Calls Tryd.prog 9 #[va, vb] w fun e w' => e = .returned (.bool (leB a b)) ∧ Below w.heap.size w w' := by
  obtain ⟨A1, cap1, e1⟩ := ha.form
  obtain ⟨A2, cap2, e2⟩ := hb.form
  have hl := puts_le (Nat.le_trans (addP_comm_len a b) hlen)
  have HA : Hid (∀ W, Below w.heap.size w W → _) := fun W (hW : Below w.heap.size w W) => always_calls 20 (fun x y => decide (x ≤ y)) (fun x => by simp) (fun args w' => by simp [go_sem]) leq1_calls a b va vb B W (Nat.le_trans hBw hW.size) (ha.below (hW.mono hBw)) (hb.below (hW.mono hBw)) na nb ma mb hl
  rw [try_leq] at HA
  subst e1
  subst e2
  clear ha hb ma mb
  go_enter Tryd.func9, Tryd.ntmps9
  go_wp2_with (go_at_call 19; refine (HA.out _ ?_).mono ?_)
  · exact ((Below.refl _ _).alloc (Nat.le_refl _) _).alloc (by simp) _
  rintro e w' ⟨rfl, hbw⟩
  have HB := hide ((((Below.refl w.heap.size w).alloc (Nat.le_refl _) _).alloc (by simp) _).trans (hbw.mono (by simp; omega)))
  clear hbw
  go_wp2_with fail
  go_ret
  exact ⟨rfl, HB.out⟩

set_option maxHeartbeats 1000000 in
theorem same_calls (a b : LvB) (va vb : Value) (B : Nat) (w : World) (hBw : B ≤ w.heap.size) (ha : InLv w B a va) (hb : InLv w B b vb) (na : a.nodes ≤ 1000) (nb : b.nodes ≤ 1000) (ma : ∀ p, Lv.has p a → p.size ≤ 1000) (mb : ∀ p, Lv.has p b → p.size ≤ 1000) (hlen : (a.addP (b.addP [])).length ≤ 6) :
    Calls Tryd.prog 10 #[va, vb] w fun e w' => e = .returned (.bool (sameB a b)) ∧ Below w.heap.size w w' := by
  obtain ⟨A1, cap1, e1⟩ := ha.form
  obtain ⟨A2, cap2, e2⟩ := hb.form
  have hl := puts_le (Nat.le_trans (addP_comm_len a b) hlen)
  have HA : Hid (∀ W, Below w.heap.size w W → _) := fun W (hW : Below w.heap.size w W) => always_calls 21 (fun x y => decide (x = y)) (fun x => by simp) (fun args w' => by simp [go_sem]) same1_calls a b va vb B W (Nat.le_trans hBw hW.size) (ha.below (hW.mono hBw)) (hb.below (hW.mono hBw)) na nb ma mb hl
  rw [try_same] at HA
  subst e1
  subst e2
  clear ha hb ma mb
  go_enter Tryd.func10, Tryd.ntmps10
  go_wp2_with (go_at_call 19; refine (HA.out _ ?_).mono ?_)
  · exact ((Below.refl _ _).alloc (Nat.le_refl _) _).alloc (by simp) _
  rintro e w' ⟨rfl, hbw⟩
  have HB := hide ((((Below.refl w.heap.size w).alloc (Nat.le_refl _) _).alloc (by simp) _).trans (hbw.mono (by simp; omega)))
  clear hbw
  go_wp2_with fail
  go_ret
  exact ⟨rfl, HB.out⟩

end Go.Proofs.YtpdoegjddiaaoaaDoor
