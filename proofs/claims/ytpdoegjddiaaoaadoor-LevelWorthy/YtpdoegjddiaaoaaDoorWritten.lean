/- The contracts of written and of slices.EqualFunc that it calls: two levels are the same as they are written. -/
import Derived.Test.YtpdoegjddiaaoaaDoorTools
namespace Go.Proofs.YtpdoegjddiaaoaaDoor
open Go.RowKit

noncomputable def eqB (a b : LvB) : Bool := @decide (a = b) (Classical.propDecidable _)
theorem eqB_true {a b : LvB} (h : a = b) : eqB a b = true := @decide_eq_true _ (Classical.propDecidable _) h
theorem eqB_false {a b : LvB} (h : a ≠ b) : eqB a b = false := @decide_eq_false _ (Classical.propDecidable _) h

/-- A level is its kind, its name and its parts. -/
theorem Lv.ext3 {a b : LvB} (h1 : a.kind = b.kind) (h2 : a.nm = b.nm) (h3 : a.kids = b.kids) : a = b := by
  cases a <;> cases b <;> simp [kind, nm, kids] at h1 h2 h3 ⊢ <;> first | exact h2 | exact h3

noncomputable def kidsB (a b : LvB) : Bool := @decide (a.kids = b.kids) (Classical.propDecidable _)
theorem kidsB_len {a b : LvB} (h : a.kids.length ≠ b.kids.length) : kidsB a b = false := by
  refine @decide_eq_false _ (Classical.propDecidable _) fun e => ?_; exact h (by rw [e])
theorem kidsB_false {a b : LvB} {k : Nat} (h1 : k < a.kids.length) (h2 : k < b.kids.length) (h : a.kids[k] ≠ b.kids[k]) : kidsB a b = false := by
  refine @decide_eq_false _ (Classical.propDecidable _) fun e => ?_; exact h (by simp [e])
theorem kidsB_true {a b : LvB} (hl : a.kids.length = b.kids.length) (h : ∀ j (h1 : j < a.kids.length) (h2 : j < b.kids.length), a.kids[j] = b.kids[j]) : kidsB a b = true := by
  exact @decide_eq_true _ (Classical.propDecidable _) <| List.ext_getElem hl h
theorem eqB_parts (a b : LvB) : eqB a b = (decide (a.kind = b.kind) && decide (a.nm = b.nm) && kidsB a b) := by
  by_cases h : a = b
  · subst h; rw [eqB_true rfl, kidsB_true rfl fun _ _ _ => rfl]; simp
  · rw [eqB_false h]
    by_cases h1 : a.kind = b.kind
    · by_cases h2 : a.nm = b.nm
      · have : kidsB a b = false := by refine @decide_eq_false _ (Classical.propDecidable _) fun e => ?_; exact h (Lv.ext3 h1 h2 e)
        rw [this]; simp
      · simp [h2]
    · simp [h1]

set_option maxHeartbeats 1000000 in
theorem equalFunc_calls (a b : LvB) (A1 A2 : Option Addr) (cap1 cap2 B : Nat) (w : World) (hBw : B ≤ w.heap.size)
    (hk1 : ∀ i (hi : i < a.kids.length), ∃ b' x, A1 = some ⟨b', 0, none⟩ ∧ b' < B ∧ Three w b' (i * 3) x ∧ InLv w B a.kids[i] x)
    (hk2 : ∀ i (hi : i < b.kids.length), ∃ b' x, A2 = some ⟨b', 0, none⟩ ∧ b' < B ∧ Three w b' (i * 3) x ∧ InLv w B b.kids[i] x)
    (ih : ∀ k (h1 : k < a.kids.length) (h2 : k < b.kids.length) (x y : Value) (W : World), B ≤ W.heap.size → InLv W B a.kids[k] x → InLv W B b.kids[k] y → Calls Tryd.prog 32 #[x, y] W fun e w' => e = .returned (.bool (eqB a.kids[k] b.kids[k])) ∧ Below W.heap.size W w') :
    Calls Tryd.prog 47 #[.slice A1 a.kids.length cap1, .slice A2 b.kids.length cap2, .func (.func 32) #[] #[]] w fun e w' => e = .returned (.bool (kidsB a b)) ∧ Below w.heap.size w w' := by
  have HK1 := hide hk1
  have HK2 := hide hk2
  have IH := hide ih
  have ha2 := a.kids_le
  have hb2 := b.kids_le
  clear hk1 hk2 ih
  by_cases hlen : a.kids.length = b.kids.length
  · have hq : ((a.kids.length : Int) != (b.kids.length : Int)) = false := by simp [hlen]
    have HLen := hide hlen
    clear hlen
    go_enter Tryd.func47, Tryd.ntmps47
    go_wp2_with fail
    go_loopg [17] (a.kids.length) (fun g i wr => ∃ k : Nat, k + g = a.kids.length ∧ i = .int .i64 k ∧ (∀ j (h1 : j < a.kids.length) (h2 : j < b.kids.length), j < k → a.kids[j] = b.kids[j]) ∧ Below w.heap.size w wr)
    case atStart => exact ⟨0, by omega, rfl, fun j _ _ h => absurd h (by omega), Below.refl _ _⟩
    case round =>
      obtain ⟨k, hkg, rfl, hno, hwr⟩ := hrel
      have HN := hide hno
      have hz := hwr.size
      clear hno
      by_cases hlt : k < a.kids.length
      · have hlt2 : k < b.kids.length := by rw [← HLen.out]; exact hlt
        obtain ⟨b1, x, rfl, hb1, h3, hin1⟩ := HK1.out k hlt
        obtain ⟨k', nm', A', n', cap', rfl, c0, c1, c2⟩ := h3
        obtain ⟨b2, y, rfl, hb2', h4, hin2⟩ := HK2.out k hlt2
        obtain ⟨k2, nm2, A2', n2, cap2', rfl, c3, c4, c5⟩ := h4
        have d0 := cell_later hwr c0
        have d1 := cell_later hwr c1
        have d2 := cell_later hwr c2
        have d3 := cell_later hwr c3
        have d4 := cell_later hwr c4
        have d5 := cell_later hwr c5
        have hb1w : b1 < wr.heap.size := by omega
        have hb2w : b2 < wr.heap.size := by omega
        have HI : Hid (∀ W, Below wr.heap.size wr W → _) := fun W (hW : Below wr.heap.size wr W) => IH.out k hlt hlt2 _ _ W (Nat.le_trans (Nat.le_trans hBw hz) hW.size) ((hin1.below (hwr.mono hBw)).below (hW.mono (Nat.le_trans hBw hz))) ((hin2.below (hwr.mono hBw)).below (hW.mono (Nat.le_trans hBw hz)))
        have HW := hide hwr
        clear hwr c0 c1 c2 c3 c4 c5 hin1 hin2
        by_cases he : a.kids[k] = b.kids[k]
        · rw [eqB_true he] at HI
          have HE := hide he
          clear he
          go_wp2_with (go_at_call 32; refine (HI.out _ ?_).mono ?_)
          · exact ((Below.refl _ _).alloc (Nat.le_refl _) _).alloc (by simp) _
          rintro e w' ⟨rfl, hbw⟩
          have HB := hide (HW.out.trans ((((Below.refl wr.heap.size wr).alloc (Nat.le_refl _) _).alloc (by simp) _).trans (hbw.mono (by simp; omega)) |>.mono hz))
          clear hbw
          go_wp2_with fail
          go_roundg (a.kids.length - (k + 1))
          case measure => omega
          case rel => exact ⟨k + 1, by omega, by go_num, fun j h1 h2 hj => if e : j = k then by subst e; exact HE.out else HN.out j h1 h2 (by omega), HB.out⟩
        · rw [eqB_false he] at HI
          have HE := hide (kidsB_false hlt hlt2 he)
          clear he
          go_wp2_with (go_at_call 32; refine (HI.out _ ?_).mono ?_)
          · exact ((Below.refl _ _).alloc (Nat.le_refl _) _).alloc (by simp) _
          rintro e w' ⟨rfl, hbw⟩
          have HB := hide (HW.out.trans ((((Below.refl wr.heap.size wr).alloc (Nat.le_refl _) _).alloc (by simp) _).trans (hbw.mono (by simp; omega)) |>.mono hz))
          clear hbw
          go_wp2_with fail
          go_ret
          rw [HE.out]
          exact ⟨rfl, HB.out⟩
      · have HE := hide (kidsB_true HLen.out fun j h1 h2 => HN.out j h1 h2 (by omega))
        go_wp2_with fail
        go_ret
        rw [HE.out]
        exact ⟨rfl, hwr⟩
  · have hq : ((a.kids.length : Int) != (b.kids.length : Int)) = true := by simp; omega
    have HE := hide (kidsB_len hlen)
    clear hlen
    go_enter Tryd.func47, Tryd.ntmps47
    go_wp2_with fail
    go_ret
    rw [HE.out]
    exact ⟨rfl, Below.refl _ _⟩

set_option maxHeartbeats 1000000 in
theorem written_calls (N : Nat) : ∀ (a b : LvB) (va vb : Value) (B : Nat) (w : World), a.nodes ≤ N → B ≤ w.heap.size → InLv w B a va → InLv w B b vb →
    Calls Tryd.prog 32 #[va, vb] w fun e w' => e = .returned (.bool (eqB a b)) ∧ Below w.heap.size w w' := by
  induction N with
  | zero => intro a b va vb B w h; cases a <;> simp [Lv.nodes] at h
  | succ N ih =>
    intro a b va vb B w hN hBw ha hb
    obtain ⟨A1, cap1, rfl, hk1⟩ := ha.shape
    obtain ⟨A2, cap2, rfl, hk2⟩ := hb.shape
    have HC : Hid (∀ W, Below w.heap.size w W → _) := fun W (hW : Below w.heap.size w W) => equalFunc_calls a b A1 A2 cap1 cap2 B W (Nat.le_trans hBw hW.size)
      (fun i hi => by obtain ⟨b', x, e, h1, h2, h3⟩ := hk1 i hi; exact ⟨b', x, e, h1, h2.below (hW.mono hBw) h1, h3.below (hW.mono hBw)⟩)
      (fun i hi => by obtain ⟨b', x, e, h1, h2, h3⟩ := hk2 i hi; exact ⟨b', x, e, h1, h2.below (hW.mono hBw) h1, h3.below (hW.mono hBw)⟩)
      (fun k h1 h2 x y W' hB' hx hy => ih _ _ x y B W' (by have := Lv.kid_nodes h1; omega) hB' hx hy)
    clear ih ha hb hk1 hk2
    rw [eqB_parts]
    generalize kidsB a b = K at *
    have hk4 := a.kind_le
    have hk5 := b.kind_le
    by_cases h1 : a.kind = b.kind
    · have hq : ((a.kind : Int) == (b.kind : Int)) = true := by simp [h1]
      by_cases h2 : a.nm = b.nm
      · have hs := sameStr_pos h2
        have H1 := hide h1
        have H2 := hide h2
        clear h1 h2
        go_enter Tryd.func32, Tryd.ntmps32
        go_wp2_with (go_at_call 47; refine (HC.out _ ?_).mono ?_)
        · exact ((Below.refl _ _).alloc (Nat.le_refl _) _).alloc (by simp) _
        rintro e w' ⟨rfl, hbw⟩
        have HB := hide ((((Below.refl w.heap.size w).alloc (Nat.le_refl _) _).alloc (by simp) _).trans (hbw.mono (by simp; omega)))
        clear hbw
        go_wp2_with fail
        go_ret
        refine ⟨ret_bool ?_, HB.out⟩
        simp [H1.out, H2.out]
      · have hs := sameStr_neg h2
        have H1 := hide h1
        have H2 := hide h2
        clear h1 h2 HC
        go_enter Tryd.func32, Tryd.ntmps32
        go_wp2_with fail
        go_ret
        refine ⟨ret_bool ?_, ((Below.refl _ _).alloc (Nat.le_refl _) _).alloc (by simp) _⟩
        simp [H1.out, H2.out]
    · have hq : ((a.kind : Int) == (b.kind : Int)) = false := by simp; omega
      have H1 := hide h1
      clear h1 HC
      go_enter Tryd.func32, Tryd.ntmps32
      go_wp2_with fail
      go_ret
      refine ⟨ret_bool ?_, ((Below.refl _ _).alloc (Nat.le_refl _) _).alloc (by simp) _⟩
      simp [H1.out]

end Go.Proofs.YtpdoegjddiaaoaaDoor
