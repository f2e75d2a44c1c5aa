/- The contracts of Leq and Same of package level: they tell what is so under all numbers. -/
import Derived.Test.YteepmfhpjanbhaaGreatDoorAlways
import Derived.Test.YteepmfhpjanbhaaGreatDoorKin

namespace Go.Proofs.YteepmfhpjanbhaaGreatDoor
open Go.RowKit Go.Maps

theorem nodup_length {α : Type} : ∀ (l m : List α), l.Nodup → (∀ x, x ∈ l → x ∈ m) → l.length ≤ m.length
  | [], _, _, _ => by simp
  | x :: xs, m, hnd, hsub => by
    obtain ⟨s, t, rfl⟩ := List.append_of_mem (hsub x (by simp))
    have := nodup_length xs (s ++ t) (List.nodup_cons.1 hnd).2 fun y hy => by
      have h1 := hsub y (List.mem_cons_of_mem _ hy)
      have hne : y ≠ x := fun e => (List.nodup_cons.1 hnd).1 (e ▸ hy)
      simp only [List.mem_append, List.mem_cons] at h1 ⊢
      rcases h1 with h | h | h
      · exact .inl h
      · exact absurd h hne
      · exact .inr h
    simp only [List.length_append, List.length_cons] at this ⊢
    omega

/-- The order in which the two levels are walked does not count. -/
theorem addP_comm_len (a b : LvB) : (b.addP (a.addP [])).length ≤ (a.addP (b.addP [])).length := by
  refine nodup_length _ _ (Lv.addP_nodup b _ (Lv.addP_nodup a _ List.nodup_nil)) fun p hp => ?_
  rcases Lv.addP_mem b _ p hp with h | h
  · rcases Lv.addP_mem a _ p h with h | h
    · simp at h
    · exact Lv.addP_has a _ p h
  · exact Lv.addP_sub a _ p (Lv.addP_has b _ p h)

theorem try_facts (a b : LvB) : (∀ p, a.has p ∨ b.has p → p ∈ b.addP (a.addP [])) ∧ (b.addP (a.addP [])).Nodup ∧ (∀ p, a.gate p false → decide (0 < Lv.gcount p false (.max a b)) = true) ∧ (∀ p, b.gate p false → decide (0 < Lv.gcount p false (.max a b)) = true) :=
  ⟨fun p hp => hp.elim (fun h => Lv.addP_sub b _ p (Lv.addP_has a [] p h)) (fun h => Lv.addP_has b _ p h), Lv.addP_nodup b _ (Lv.addP_nodup a _ List.nodup_nil),
    fun p hp => by rw [decide_eq_true_eq, Lv.gcount_gate]; exact .inl hp, fun p hp => by rw [decide_eq_true_eq, Lv.gcount_gate]; exact .inr hp⟩

theorem try_leq (a b : LvB) : tryB (fun x y => decide (x ≤ y)) a b (fun q => decide (0 < Lv.gcount q false (.max a b))) (a.worth (fun _ => 1) + b.worth (fun _ => 1) + 1) (b.addP (a.addP [])) true (fun _ => 0) = leB a b := by
  obtain ⟨h1, h2, h3, h4⟩ := try_facts a b
  by_cases h : Leq a b
  · rw [leB_true h]
    exact tryB_all (fun τ => by simpa using h τ) _ _ _
  · rw [leB_false h, ← Bool.not_eq_true]
    intro ht
    refine h (tried_decides h1 h2 h3 h4 (fun τ hτ => ?_) fun τ hτ => by simpa using tryB_tried ht hτ)
    have := Lv.worth_mono hτ b
    omega

noncomputable def sameB (a b : LvB) : Bool := leB a b && leB b a

theorem try_same (a b : LvB) : tryB (fun x y => decide (x = y)) a b (fun q => decide (0 < Lv.gcount q false (.max a b))) (a.worth (fun _ => 1) + b.worth (fun _ => 1) + 1) (b.addP (a.addP [])) true (fun _ => 0) = sameB a b := by
  obtain ⟨h1, h2, h3, h4⟩ := try_facts a b
  by_cases h : Leq a b ∧ Leq b a
  · rw [sameB, leB_true h.1, leB_true h.2]
    exact tryB_all (fun τ => by have := h.1 τ; have := h.2 τ; simp; omega) _ _ _
  · have hf : sameB a b = false := by
      unfold sameB
      by_cases h' : Leq a b
      · rw [leB_false (a := b) fun h'' => h ⟨h', h''⟩]; simp
      · rw [leB_false h']; simp
    rw [hf, ← Bool.not_eq_true]
    intro ht
    refine h ⟨tried_decides (G := a.worth (fun _ => 1) + b.worth (fun _ => 1) + 1) (σ := fun _ => 0) h1 h2 h3 h4 (fun τ hτ => ?_) fun τ hτ => ?_, tried_decides (G := a.worth (fun _ => 1) + b.worth (fun _ => 1) + 1) (ps := b.addP (a.addP [])) (σ := fun _ => 0) (fun p hp => h1 p hp.symm) h2 h4 h3 (fun τ hτ => ?_) fun τ hτ => ?_⟩
    · have := Lv.worth_mono hτ b; omega
    · have := tryB_tried ht hτ; simp at this; omega
    · have := Lv.worth_mono hτ a; omega
    · have := tryB_tried ht hτ; simp at this; omega

set_option maxHeartbeats 1000000 in
theorem same_calls (a b : LvB) (va vb : Value) (B : Nat) (w : World) (hBw : B ≤ w.heap.size) (ha : InLv w B a va) (hb : InLv w B b vb) (na : a.nodes ≤ 20000) (nb : b.nodes ≤ 20000) (ma : ∀ p, Lv.has p a → p.size ≤ 1000) (mb : ∀ p, Lv.has p b → p.size ≤ 1000) :
    Calls Tryz.prog 42 #[va, vb] w fun e w' => e = .returned (.bool (sameB a b)) ∧ Below w.heap.size w w' := by
  obtain ⟨A1, cap1, e1⟩ := ha.form
  obtain ⟨A2, cap2, e2⟩ := hb.form
  have hl : (b.addP (a.addP [])).length ≤ 1000000 := by have h1 := Lv.addP_len b (a.addP []); have h2 := Lv.addP_len a []; simp only [List.length_nil] at h2; omega
  have HA : Hid (∀ W, Below w.heap.size w W → _) := fun W (hW : Below w.heap.size w W) => always_calls 75 (fun x y => decide (x = y)) (fun x => by simp) (fun args w' => by simp [go_sem]) same1_calls a b va vb B W (Nat.le_trans hBw hW.size) (ha.below (hW.mono hBw)) (hb.below (hW.mono hBw)) na nb ma mb hl
  rw [try_same] at HA
  subst e1
  subst e2
  clear ha hb ma mb
  go_enter Tryz.func42, Tryz.ntmps42
  go_wp2_with (go_at_call 74; refine (HA.out _ ?_).mono ?_)
  · exact ((Below.refl _ _).alloc (Nat.le_refl _) _).alloc (by simp) _
  rintro e w' ⟨rfl, hbw⟩
  have HB := hide ((((Below.refl w.heap.size w).alloc (Nat.le_refl _) _).alloc (by simp) _).trans (hbw.mono (by simp; omega)))
  clear hbw
  go_wp2_with fail
  go_ret
  exact ⟨rfl, HB.out⟩

end Go.Proofs.YteepmfhpjanbhaaGreatDoor

/- The contract of Equal of package term, with slices.EqualFunc at levels and at terms. -/
namespace Go.Proofs.YteepmfhpjanbhaaGreatDoor
open Go.RowKit

/-- A level of a list, a term of a list. -/
def lvAt (ls : List LvB) (i : Nat) : LvB := ls.getD i .zero
theorem lvAt_eq {ls : List LvB} {i : Nat} (h : i < ls.length) : lvAt ls i = ls[i] := by unfold lvAt; simp [List.getD, h]
def tmAt (ts : List Tm) (i : Nat) : Tm := ts.getD i (tvar 0)
theorem tmAt_eq {ts : List Tm} {i : Nat} (h : i < ts.length) : tmAt ts i = ts[i] := by unfold tmAt; simp [List.getD, h]

noncomputable def eqLs (ls ms : List LvB) : Bool := decide (ls.length = ms.length) && allB (fun i => sameB (lvAt ls i) (lvAt ms i)) ls.length
def eqTs (f : Tm → Tm → Bool) (xs ys : List Tm) : Bool := decide (xs.length = ys.length) && allB (fun i => f (tmAt xs i) (tmAt ys i)) xs.length
/-- The same, but that levels need only be Same. -/
noncomputable def eqT : Nat → Tm → Tm → Bool
  | 0, _, _ => true
  | d + 1, a, b => decide (a.kd = b.kd) && decide (a.n = b.n) && decide (a.nm = b.nm) && eqLs a.ls b.ls && eqTs (eqT d) a.ts b.ts

set_option maxHeartbeats 2000000 in
theorem equalLs_calls (ls ms : List LvB) (p : Nat → Bool) (A1 A2 : Option Addr) (c1 c2 : Nat) (w : World) (_n1 : ls.length ≤ 20000) (n2 : ms.length ≤ 20000) (h1 : LvsIn w (fun _ => True) A1 ls) (h2 : LvsIn w (fun _ => True) A2 ms)
    (ih : ∀ k (h1 : k < ls.length) (h2 : k < ms.length) (x y : Value) (W : World), InLv W W.heap.size ls[k] x → InLv W W.heap.size ms[k] y → Calls Tryz.prog 42 #[x, y] W fun e w' => e = .returned (.bool (p k)) ∧ Below W.heap.size W w') :
    Calls Tryz.prog 41 #[.slice A1 ls.length c1, .slice A2 ms.length c2, .func (.func 42) #[] #[]] w fun e w' => e = .returned (.bool (decide (ls.length = ms.length) && allB p ls.length)) ∧ Below w.heap.size w w' := by
  have HK1 := hide h1
  have HK2 := hide h2
  have IH := hide ih
  clear h1 h2 ih
  by_cases hlen : ls.length = ms.length
  · have hq : ((ls.length : Int) != (ms.length : Int)) = false := by simp [hlen]
    have HLen := hide hlen
    have hd : (decide (ls.length = ms.length) && allB p ls.length) = allB p ls.length := by simp [hlen]
    rw [hd]
    clear hlen hd
    go_enter Tryz.func41, Tryz.ntmps41
    go_wp2_with fail
    go_loopg [17] (ls.length) (fun g i wr => ∃ k : Nat, k + g = ls.length ∧ i = .int .i64 k ∧ (∀ j, j < k → p j = true) ∧ Below w.heap.size w wr)
    case atStart => exact ⟨0, by omega, rfl, fun j h => absurd h (by omega), Below.refl _ _⟩
    case round =>
      obtain ⟨k, hkg, rfl, hno, hwr⟩ := hrel
      have HN := hide hno
      have hz := hwr.size
      clear hno
      by_cases hlt : k < ls.length
      · have hlt2 : k < ms.length := by rw [← HLen.out]; exact hlt
        obtain ⟨b1, x, rfl, hb1, h3, hin1⟩ := HK1.out k hlt
        obtain ⟨k', nm', A', n', cap', rfl, c0, c1, c2⟩ := h3
        obtain ⟨b2, y, rfl, hb2', h4, hin2⟩ := HK2.out k hlt2
        obtain ⟨k2, nm2, A2', n2, cap2', rfl, c3, c4, c5⟩ := h4
        have hb1w : b1 < wr.heap.size := Nat.lt_of_lt_of_le (World.block_lt_of_cell? _ _ c0) hz
        have hb2w : b2 < wr.heap.size := Nat.lt_of_lt_of_le (World.block_lt_of_cell? _ _ c3) hz
        have d0 := cell_later hwr c0
        have d1 := cell_later hwr c1
        have d2 := cell_later hwr c2
        have d3 := cell_later hwr c3
        have d4 := cell_later hwr c4
        have d5 := cell_later hwr c5
        have HI : Hid (∀ W, Below wr.heap.size wr W → _) := fun W (hW : Below wr.heap.size wr W) => IH.out k hlt hlt2 _ _ W (((hin1.inLv.below hwr).mono hz).below hW |>.mono hW.size) (((hin2.inLv.below hwr).mono hz).below hW |>.mono hW.size)
        have HW := hide hwr
        clear hwr c0 c1 c2 c3 c4 c5 hin1 hin2
        go_wp2_with (go_at_call 42; refine (HI.out _ ?_).mono ?_)
        · exact ((Below.refl _ _).alloc (Nat.le_refl _) _).alloc (by simp) _
        rintro e w' ⟨rfl, hbw⟩
        have HB := hide (HW.out.trans ((((Below.refl wr.heap.size wr).alloc (Nat.le_refl _) _).alloc (by simp) _).trans (hbw.mono (by simp; omega)) |>.mono hz))
        clear hbw HI
        cases he : p k with
        | true =>
          have HE := hide he
          clear he
          go_wp2_with fail
          go_roundg (ls.length - (k + 1))
          case measure => omega
          case rel => exact ⟨k + 1, by omega, by go_num, fun j hj => if e : j = k then by subst e; exact HE.out else HN.out j (by omega), HB.out⟩
        | false =>
          have HE := hide (allB_false (p := p) hlt he)
          clear he
          go_wp2_with fail
          go_ret
          rw [HE.out]
          exact ⟨rfl, HB.out⟩
      · have HE := hide (allB_true (p := p) (n := ls.length) fun j hj => HN.out j (by omega))
        go_wp2_with fail
        go_ret
        rw [HE.out]
        exact ⟨rfl, hwr⟩
  · have hq : ((ls.length : Int) != (ms.length : Int)) = true := by simp; omega
    have hd : (decide (ls.length = ms.length) && allB p ls.length) = false := by simp [hlen]
    rw [hd]
    clear hlen hd
    go_enter Tryz.func41, Tryz.ntmps41
    go_wp2_with fail
    go_ret
    exact ⟨rfl, Below.refl _ _⟩

set_option maxRecDepth 100000 in
set_option maxHeartbeats 4000000 in
theorem equalTs_calls (d : Nat) (xs ys : List Tm) (p : Nat → Bool) (A1 A2 : Option Addr) (c1 c2 : Nat) (w : World) (_n1 : xs.length ≤ 3) (n2 : ys.length ≤ 3) (h1 : ∀ i (hi : i < xs.length), ∃ b x, A1 = some ⟨b, 0, none⟩ ∧ Five w b (i * 5) x ∧ InTm w (fun _ => True) d xs[i] x)
    (h2 : ∀ i (hi : i < ys.length), ∃ b x, A2 = some ⟨b, 0, none⟩ ∧ Five w b (i * 5) x ∧ InTm w (fun _ => True) d ys[i] x)
    (ih : ∀ k (h1 : k < xs.length) (h2 : k < ys.length) (x y : Value) (W : World), InTm W (fun _ => True) d xs[k] x → InTm W (fun _ => True) d ys[k] y → Calls Tryz.prog 12 #[x, y] W fun e w' => e = .returned (.bool (p k)) ∧ Below W.heap.size W w') :
    Calls Tryz.prog 43 #[.slice A1 xs.length c1, .slice A2 ys.length c2, .func (.func 12) #[] #[]] w fun e w' => e = .returned (.bool (decide (xs.length = ys.length) && allB p xs.length)) ∧ Below w.heap.size w w' := by
  have HK1 := hide h1
  have HK2 := hide h2
  have IH := hide ih
  clear h1 h2 ih
  by_cases hlen : xs.length = ys.length
  · have hq : ((xs.length : Int) != (ys.length : Int)) = false := by simp [hlen]
    have HLen := hide hlen
    have hd : (decide (xs.length = ys.length) && allB p xs.length) = allB p xs.length := by simp [hlen]
    rw [hd]
    clear hlen hd
    go_enter Tryz.func43, Tryz.ntmps43
    go_wp2_with fail
    go_loopg [17] (xs.length) (fun g i wr => ∃ k : Nat, k + g = xs.length ∧ i = .int .i64 k ∧ (∀ j, j < k → p j = true) ∧ Below w.heap.size w wr)
    case atStart => exact ⟨0, by omega, rfl, fun j h => absurd h (by omega), Below.refl _ _⟩
    case round =>
      obtain ⟨k, hkg, rfl, hno, hwr⟩ := hrel
      have HN := hide hno
      have hz := hwr.size
      clear hno
      by_cases hlt : k < xs.length
      · have hlt2 : k < ys.length := by rw [← HLen.out]; exact hlt
        obtain ⟨b1, x, rfl, h3, hin1⟩ := HK1.out k hlt
        obtain ⟨k1, nn1, nm1, A3, m3, cap3, A4, m4, cap4, rfl, c0, c1, c2, c3, c4⟩ := h3
        obtain ⟨b2, y, rfl, h4, hin2⟩ := HK2.out k hlt2
        obtain ⟨k2, nn2, nm2, A5, m5, cap5, A6, m6, cap6, rfl, c5, c6, c7, c8, c9⟩ := h4
        have hb1w : b1 < wr.heap.size := Nat.lt_of_lt_of_le (World.block_lt_of_cell? _ _ c0) hz
        have hb2w : b2 < wr.heap.size := Nat.lt_of_lt_of_le (World.block_lt_of_cell? _ _ c5) hz
        have d0 := cell_later hwr c0
        have d1 := cell_later hwr c1
        have d2 := cell_later hwr c2
        have d3 := cell_later hwr c3
        have d4 := cell_later hwr c4
        have d5 := cell_later hwr c5
        have d6 := cell_later hwr c6
        have d7 := cell_later hwr c7
        have d8 := cell_later hwr c8
        have d9 := cell_later hwr c9
        have HI : Hid (∀ W, Below wr.heap.size wr W → _) := fun W (hW : Below wr.heap.size wr W) => IH.out k hlt hlt2 _ _ W (hin1.keep fun b hb _ => ⟨trivial, (hwr.trans (hW.mono hz)).block b hb⟩) (hin2.keep fun b hb _ => ⟨trivial, (hwr.trans (hW.mono hz)).block b hb⟩)
        have HW := hide hwr
        clear hwr c0 c1 c2 c3 c4 c5 c6 c7 c8 c9 hin1 hin2
        go_wp2_with (go_at_call 12; refine (HI.out _ ?_).mono ?_)
        · exact ((Below.refl _ _).alloc (Nat.le_refl _) _).alloc (by simp) _
        rintro e w' ⟨rfl, hbw⟩
        have HB := hide (HW.out.trans ((((Below.refl wr.heap.size wr).alloc (Nat.le_refl _) _).alloc (by simp) _).trans (hbw.mono (by simp; omega)) |>.mono hz))
        clear hbw HI
        cases he : p k with
        | true =>
          have HE := hide he
          clear he
          go_wp2_with fail
          go_roundg (xs.length - (k + 1))
          case measure => omega
          case rel => exact ⟨k + 1, by omega, by go_num, fun j hj => if e : j = k then by subst e; exact HE.out else HN.out j (by omega), HB.out⟩
        | false =>
          have HE := hide (allB_false (p := p) hlt he)
          clear he
          go_wp2_with fail
          go_ret
          rw [HE.out]
          exact ⟨rfl, HB.out⟩
      · have HE := hide (allB_true (p := p) (n := xs.length) fun j hj => HN.out j (by omega))
        go_wp2_with fail
        go_ret
        rw [HE.out]
        exact ⟨rfl, hwr⟩
  · have hq : ((xs.length : Int) != (ys.length : Int)) = true := by simp; omega
    have hd : (decide (xs.length = ys.length) && allB p xs.length) = false := by simp [hlen]
    rw [hd]
    clear hlen hd
    go_enter Tryz.func43, Tryz.ntmps43
    go_wp2_with fail
    go_ret
    exact ⟨rfl, Below.refl _ _⟩

set_option maxRecDepth 100000 in
set_option maxHeartbeats 4000000 in
theorem equalT_calls : ∀ (d : Nat) (a b : Tm) (va vb : Value) (w : World), WfT d a → WfT d b → InTm w (fun _ => True) d a va → InTm w (fun _ => True) d b vb →
    Calls Tryz.prog 12 #[va, vb] w fun e w' => e = .returned (.bool (eqT d a b)) ∧ Below w.heap.size w w'
  | 0, _, _, _, _, _, h, _, _, _ => absurd h (by simp [WfT])
  | d + 1, a, b, va, vb, w, hwa, hwb, ha, hb => by
    have ih := equalT_calls d
    obtain ⟨A, c, A', c', rfl, hl, ht⟩ := ha
    obtain ⟨B, k, B', k', rfl, hl2, ht2⟩ := hb
    obtain ⟨a1, a2, a3, a4, a5, a6, a7, a8, a9, a10⟩ := hwa
    obtain ⟨b1, b2, b3, b4, b5, b6, b7, b8, b9, b10⟩ := hwb
    have h3a : a.ts.length ≤ 3 := by rw [a8]; exact tparts_le _
    have h3b : b.ts.length ≤ 3 := by rw [b8]; exact tparts_le _
    have hold : Below w.heap.size w ((w.alloc (five a.kd a.n a.nm (.slice A a.ls.length c) (.slice A' a.ts.length c'))).alloc (five b.kd b.n b.nm (.slice B b.ls.length k) (.slice B' b.ts.length k'))) := ((Below.refl _ _).alloc (Nat.le_refl _) _).alloc (by simp) _
    have HL : Hid (∀ W, Below w.heap.size w W → Calls Tryz.prog 41 #[.slice A a.ls.length c, .slice B b.ls.length k, .func (.func 42) #[] #[]] W fun e w' => e = .returned (.bool (eqLs a.ls b.ls)) ∧ Below W.heap.size W w') := fun W hW =>
      equalLs_calls a.ls b.ls _ A B c k W a7 b7 (hl.keep fun b hb _ => ⟨trivial, hW.block b hb⟩) (hl2.keep fun b hb _ => ⟨trivial, hW.block b hb⟩) fun i h1 h2 x y W' hx hy => by
        rw [lvAt_eq h1, lvAt_eq h2]
        exact same_calls _ _ x y W'.heap.size W' (Nat.le_refl _) hx hy (a9 _ (List.getElem_mem h1)).1 (b9 _ (List.getElem_mem h2)).1 (a9 _ (List.getElem_mem h1)).2 (b9 _ (List.getElem_mem h2)).2
    have HTm : Hid (∀ W, Below w.heap.size w W → Calls Tryz.prog 43 #[.slice A' a.ts.length c', .slice B' b.ts.length k', .func (.func 12) #[] #[]] W fun e w' => e = .returned (.bool (eqTs (eqT d) a.ts b.ts)) ∧ Below W.heap.size W w') := fun W hW =>
      equalTs_calls d a.ts b.ts _ A' B' c' k' W h3a h3b (fun i hi => by
          obtain ⟨b, x, e, _, h5, hp⟩ := ht i hi
          exact ⟨b, x, e, h5.of_block (hW.block b h5.lt), hp.keep fun b hb _ => ⟨trivial, hW.block b hb⟩⟩)
        (fun i hi => by
          obtain ⟨b, x, e, _, h5, hp⟩ := ht2 i hi
          exact ⟨b, x, e, h5.of_block (hW.block b h5.lt), hp.keep fun b hb _ => ⟨trivial, hW.block b hb⟩⟩)
        fun i h1 h2 x y W' hx hy => by
          rw [tmAt_eq h1, tmAt_eq h2]
          exact ih _ _ x y W' (a10 i h1) (b10 i h2) hx hy
    have HO := hide hold
    have HR : Hid (eqT (d + 1) a b = (decide (a.kd = b.kd) && decide (a.n = b.n) && decide (a.nm = b.nm) && eqLs a.ls b.ls && eqTs (eqT d) a.ts b.ts)) := rfl
    clear ih hl ht hl2 ht2 a10 b10 a9 b9 hold a8 b8
    by_cases hk : a.kd = b.kd
    · have q0 : ((a.kd : Int) != (b.kd : Int)) = false := by simp [hk]
      by_cases h0 : a.kd = 0
      · have q1 : ((a.kd : Int) == 0) = true := by simp [h0]
        have hr : eqT (d + 1) a b = decide (a.n = b.n) := by
          rw [HR.out, (a3 h0).1, (a3 h0).2.1, (a3 h0).2.2, (b3 (hk ▸ h0)).1, (b3 (hk ▸ h0)).2.1, (b3 (hk ▸ h0)).2.2]
          simp [hk, eqLs, eqTs, allB]
        rw [hr]
        clear hr HR HL HTm a3 b3 a4 b4 a5 b5 hk h0
        go_enter Tryz.func12, Tryz.ntmps12
        go_wp2_with fail
        go_ret
        refine ⟨ret_bool ?_, HO.out⟩
        by_cases h : a.n = b.n
        · simp [h]
        · rw [decide_eq_false h, beq_eq_false_iff_ne]
          omega
      · have q1 : ((a.kd : Int) == 0) = false := by simp; omega
        have hn : a.n = b.n := by rw [a4 h0, b4 (by omega)]
        by_cases hnm : a.nm = b.nm
        · have hr : eqT (d + 1) a b = (eqLs a.ls b.ls && eqTs (eqT d) a.ts b.ts) := by rw [HR.out]; simp [hk, hn, hnm]
          rw [hr]
          have hs : (a.nm.toList == b.nm.toList) = true := sameStr_pos hnm
          have hs2 : (a.nm.toList != b.nm.toList) = false := by simpa using hs
          have hcase : ((a.kd : Int) == 2) = true ∨ ((a.kd : Int) == 2) = false := by cases ((a.kd : Int) == 2) <;> simp
          clear hr HR a3 b3 a4 b4 a5 b5 hk h0 hnm hn
          generalize eqLs a.ls b.ls = RL at *
          generalize eqTs (eqT d) a.ts b.ts = RT' at *
          rcases hcase with q2 | q2
          all_goals
            go_enter Tryz.func12, Tryz.ntmps12
            go_wp2_with (go_at_call 41; refine (HL.out _ ?_).mono ?_)
            · exact HO.out
            rintro e w1 ⟨rfl, hb1⟩
            have HB1 := hide (HO.out.trans (hb1.mono HO.out.size))
            have HB1' : Hid (Below (w.heap.size + 2) ((w.alloc (five a.kd a.n a.nm (.slice A a.ls.length c) (.slice A' a.ts.length c'))).alloc (five b.kd b.n b.nm (.slice B b.ls.length k) (.slice B' b.ts.length k'))) w1) := by simpa [Hid] using hb1
            have g4 : w1.cell? ⟨w.heap.size, 4, none⟩ = some (.slice A' a.ts.length c') := (Boxes5.cells HB1'.out).2.1
            have g5 : w1.cell? ⟨w.heap.size + 1, 4, none⟩ = some (.slice B' b.ts.length k') := (Boxes5.cells HB1'.out).2.2.2
            have gz : w.heap.size + 2 ≤ w1.heap.size := Boxes5.size HB1'.out
            clear hb1 HL HB1'
            cases RL with
            | false =>
              go_wp2_with fail
              go_ret
              exact ⟨rfl, HB1.out⟩
            | true =>
              go_wp2_with (go_at_call 43; refine (HTm.out _ ?_).mono ?_)
              · exact HB1.out
              rintro e w2 ⟨rfl, hb2⟩
              have HB2 := hide (HB1.out.trans (hb2.mono HB1.out.size))
              clear hb2
              go_wp2_with fail
              go_ret
              exact ⟨rfl, HB2.out⟩
        · have h2 : a.kd = 2 := by
            by_cases h2 : a.kd = 2
            · exact h2
            · exact absurd (by rw [a5 h2, b5 (by omega)]) hnm
          have q2 : ((a.kd : Int) == 2) = true := by simp; omega
          have hs : (a.nm.toList == b.nm.toList) = false := sameStr_neg hnm
          have hs2 : (a.nm.toList != b.nm.toList) = true := by simpa using hs
          have hr : eqT (d + 1) a b = false := by rw [HR.out]; simp [hnm]
          rw [hr]
          clear hr HR HL HTm a3 b3 a4 b4 a5 b5 hk h0 hnm hn h2
          go_enter Tryz.func12, Tryz.ntmps12
          go_wp2_with fail
          go_ret
          exact ⟨rfl, HO.out⟩
    · have q0 : ((a.kd : Int) != (b.kd : Int)) = true := by simp; omega
      have hr : eqT (d + 1) a b = false := by rw [HR.out]; simp [hk]
      rw [hr]
      clear hr HR HL HTm a3 b3 a4 b4 a5 b5 hk
      go_enter Tryz.func12, Tryz.ntmps12
      go_wp2_with fail
      go_ret
      exact ⟨rfl, HO.out⟩

end Go.Proofs.YteepmfhpjanbhaaGreatDoor
