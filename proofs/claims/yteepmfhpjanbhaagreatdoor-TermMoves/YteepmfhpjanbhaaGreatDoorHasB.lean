/- The contracts of Has: the document's and the program's. -/
import Derived.Test.YteepmfhpjanbhaaGreatDoorKin
import Derived.Laws.EntriesVeiled

namespace Go.Proofs.YteepmfhpjanbhaaGreatDoor
open Go.RowKit

def anyB (p : Nat → Bool) (n : Nat) : Bool := (List.range n).any p
theorem anyB_false {p : Nat → Bool} {n : Nat} (h : ∀ j, j < n → p j = false) : anyB p n = false := by
  unfold anyB; rw [List.any_eq_false]; intro x hx; rw [h x (List.mem_range.1 hx)]; simp
theorem anyB_true {p : Nat → Bool} {n k : Nat} (hk : k < n) (h : p k = true) : anyB p n = true := by
  unfold anyB; rw [List.any_eq_true]; exact ⟨k, List.mem_range.2 hk, h⟩

/-- Does a constant of that name stand in it? -/
def hasT (q : ByteArray) : Nat → Tm → Bool
  | 0, _ => false
  | d + 1, t => (decide (t.kd = 2) && decide (t.nm = q)) || anyB (fun i => hasT q d (t.ch i)) t.ts.length

set_option maxRecDepth 100000 in
set_option maxHeartbeats 4000000 in
theorem rhas_calls (q : ByteArray) : ∀ (d : Nat) (t : Tm) (v : Value) (S : Nat → Prop) (w : World), WfT d t → InTm w S d t v →
    Calls Tryz.prog 17 #[v, .string q] w fun e w' => e = .returned (.bool (hasT q d t)) ∧ Below w.heap.size w w'
  | 0, _, _, _, _, h, _ => absurd h (by simp [WfT])
  | d + 1, t, v, S, w, hwf, hin => by
    have ih := rhas_calls q d
    obtain ⟨A, c, A', c', rfl, -, ht⟩ := hin
    obtain ⟨a1, a2, a3, a4, a5, a6, a7, a8, a9, a10⟩ := hwf
    have h3 : t.ts.length ≤ 3 := by rw [a8]; exact tparts_le _
    have IH := hide ih
    have HT := hide ht
    have HW := hide a10
    clear ih ht a10 a3 a4 a5 a8 a9
    unfold hasT
    by_cases hself : t.kd = 2 ∧ t.nm = q
    · have q0 : ((t.kd : Int) == 2) = true := by simp; omega
      have hs := sameStr_pos hself.2
      have hd : (decide (t.kd = 2) && decide (t.nm = q)) = true := by simp [hself]
      rw [hd, Bool.true_or]
      clear hd hself
      go_enter Tryz.func17, Tryz.ntmps17
      go_wp2_with fail
      go_ret
      exact ⟨rfl, (Below.refl _ _).alloc (Nat.le_refl _) _⟩
    · have hd : (decide (t.kd = 2) && decide (t.nm = q)) = false := by
        by_cases h : t.kd = 2
        · simp [h, show ¬ t.nm = q from fun e => hself ⟨h, e⟩]
        · simp [h]
      rw [hd, Bool.false_or]
      have hcase : (((t.kd : Int) == 2) = true ∧ (t.nm.toList == q.toList) = false) ∨ ((t.kd : Int) == 2) = false := by
        by_cases h : t.kd = 2
        · exact .inl ⟨by simp; omega, sameStr_neg fun e => hself ⟨h, e⟩⟩
        · exact .inr (by simp; omega)
      clear hd hself
      rcases hcase with ⟨q0, hs⟩ | q0
      all_goals
        go_enter Tryz.func17, Tryz.ntmps17
        go_wp2_with fail
        go_loopg [5] (t.ts.length) (fun gg i wr => ∃ (k : Nat), k + gg = t.ts.length ∧ i = .int .i64 k ∧ (∀ j, j < k → hasT q d (t.ch j) = false) ∧ Box5 w (.int .i64 (t.kd : Nat)) (.int .i64 (t.n : Nat)) (.string t.nm) (.slice A t.ls.length c) (.slice A' t.ts.length c') wr)
        case atStart => exact ⟨0, by omega, rfl, fun j h => absurd h (by omega), Below.refl _ _⟩
        case round =>
          obtain ⟨k, hkg, rfl, hall, hbel⟩ := hrel
          obtain ⟨g0, g1, g2, g3, g4⟩ := Box5.cells hbel
          have hz := Box5.size hbel
          by_cases hlt : k < t.ts.length
          · obtain ⟨b1, x, rfl, hb1, h5, hinx⟩ := HT.out k hlt
            obtain ⟨kk, nn, nm', A3, n', cap', A5, n5, cap5, rfl, c0, c1, c2, c3, c4⟩ := h5
            have hold := Box5.old hbel
            have d0 := cell_later hold c0
            have d1 := cell_later hold c1
            have d2 := cell_later hold c2
            have d3 := cell_later hold c3
            have d4 := cell_later hold c4
            have IH1 : Hid (Calls Tryz.prog 17 #[.agg #[.int .i64 kk, .int .i64 nn, .string nm', .slice A3 n' cap', .slice A5 n5 cap5], .string q] wr fun e w' => e = .returned (.bool (hasT q d (t.ch k))) ∧ Below wr.heap.size wr w') := by
              rw [Tm.ch_eq hlt]
              exact IH.out t.ts[k] _ (fun _ => True) wr (HW.out k hlt) (hinx.keep fun b hb _ => ⟨trivial, hold.block b hb⟩)
            have HA := hide hall
            have HBel := hide hbel
            clear hall hbel hinx c0 c1 c2 c3 c4 hold
            go_wp2_with (go_at_call 17; refine IH1.out.mono ?_)
            rintro e w5 ⟨rfl, hb5⟩
            have HB5 := hide (Box5.then HBel.out hb5)
            clear hb5 IH1 d0 d1 d2 d3 d4 g0 g1 g2 g3 g4
            cases hr : hasT q d (t.ch k) with
            | false =>
              have HR := hide hr
              clear hr
              go_wp2_with fail
              go_roundg (t.ts.length - (k + 1))
              case measure => omega
              case rel => exact ⟨k + 1, by omega, by go_num, fun j hj => if e : j = k then by subst e; exact HR.out else HA.out j (by omega), HB5.out⟩
            | true =>
              have HR := hide (anyB_true (p := fun i => hasT q d (t.ch i)) hlt hr)
              clear hr
              go_wp2_with fail
              go_ret
              exact ⟨ret_bool HR.out.symm, Box5.old HB5.out⟩
          · have HR := hide (anyB_false (p := fun i => hasT q d (t.ch i)) (n := t.ts.length) fun j hj => hall j (by omega))
            have HB5 := hide hbel
            clear hall hbel
            go_wp2_with fail
            go_ret
            exact ⟨ret_bool HR.out.symm, Box5.old HB5.out⟩

/-- What a function tells of the terms of a list. -/
structure Asks (F : FuncId) (C : Array Value) (d : Nat) (ts : List Tm) (p : Nat → Bool) (D : Nat) (w : World) : Prop where
  enter : ∀ (args : Array Value) (w' : World), Sem.run Tryz.prog (callFunc F args) w' = .ok (.enter F args) w'
  calls : ∀ (i : Nat) (hi : i < ts.length) (v : Value) (w' : World), InTm w' (fun _ => True) d ts[i] v → D ≤ w'.heap.size → Below D w w' → Calls Tryz.prog F (#[v] ++ C) w' fun e w'' => e = .returned (.bool (p i)) ∧ Below w'.heap.size w' w''

set_option maxRecDepth 100000 in
set_option maxHeartbeats 4000000 in
theorem indexFunc_calls (F : FuncId) (C : Array Value) (d : Nat) (ts : List Tm) (p : Nat → Bool) (D : Nat) (A' : Option Addr) (c' : Nat) (w : World) (hD : D ≤ w.heap.size) (h3 : ts.length ≤ 3) (hF : Asks F C d ts p D w) (ht : ∀ i (hi : i < ts.length), ∃ b x, A' = some ⟨b, 0, none⟩ ∧ Five w b (i * 5) x ∧ InTm w (fun _ => True) d ts[i] x) :
    Calls Tryz.prog 73 #[.slice A' ts.length c', .func (.func F) #[] C] w fun e w' => ∃ r : Int, e = .returned (.int .i64 r) ∧ decide (r ≥ 0) = anyB p ts.length ∧ Below w.heap.size w w' := by
  have HT := hide ht
  have HC := hide hF.calls
  have hen := hF.enter
  clear ht hF
  go_enter Tryz.func73, Tryz.ntmps73
  go_wp2_with fail
  go_loopg [8] (ts.length) (fun gg i wr => ∃ (k : Nat), k + gg = ts.length ∧ i = .int .i64 k ∧ (∀ j, j < k → p j = false) ∧ Below w.heap.size w wr)
  case atStart => exact ⟨0, by omega, rfl, fun j h => absurd h (by omega), Below.refl _ _⟩
  case round =>
    obtain ⟨k, hkg, rfl, hall, hbel⟩ := hrel
    have hz := hbel.size
    by_cases hlt : k < ts.length
    · obtain ⟨b1, x, rfl, h5, hinx⟩ := HT.out k hlt
      obtain ⟨kk, nn, nm', A3, n', cap', A5, n5, cap5, rfl, c0, c1, c2, c3, c4⟩ := h5
      have d0 := cell_later hbel c0
      have d1 := cell_later hbel c1
      have d2 := cell_later hbel c2
      have d3 := cell_later hbel c3
      have d4 := cell_later hbel c4
      have K1 := hide (HC.out k hlt _ wr (hinx.keep fun b hb _ => ⟨trivial, hbel.block b hb⟩) (by omega) (hbel.mono hD))
      have HA := hide hall
      have HB := hide hbel
      clear hall hbel hinx c0 c1 c2 c3 c4
      go_wp2_with fail
      refine K1.out.mono ?_
      rintro e w5 ⟨rfl, hb5⟩
      have HB5 := hide (HB.out.trans (hb5.mono hz))
      clear hb5 K1 d0 d1 d2 d3 d4
      cases hr : p k with
      | false =>
        have HR := hide hr
        clear hr
        go_wp2_with fail
        go_roundg (ts.length - (k + 1))
        case measure => omega
        case rel => exact ⟨k + 1, by omega, by go_num, fun j hj => if e : j = k then by subst e; exact HR.out else HA.out j (by omega), HB5.out⟩
      | true =>
        have HR := hide (anyB_true (p := p) hlt hr)
        clear hr
        go_wp2_with fail
        go_ret
        exact ⟨(k : Int), rfl, by rw [HR.out]; simp, HB5.out⟩
    · have HR := hide (anyB_false (p := p) (n := ts.length) fun j hj => hall j (by omega))
      have HB5 := hide hbel
      clear hall hbel
      go_wp2_with fail
      go_ret
      exact ⟨-1, rfl, by rw [HR.out]; decide, HB5.out⟩

set_option maxRecDepth 100000 in
set_option maxHeartbeats 2000000 in
theorem containsFunc_calls (F : FuncId) (C : Array Value) (d : Nat) (ts : List Tm) (p : Nat → Bool) (D : Nat) (A' : Option Addr) (c' : Nat) (w : World) (hD : D ≤ w.heap.size) (h3 : ts.length ≤ 3) (hF : Asks F C d ts p D w) (ht : ∀ i (hi : i < ts.length), ∃ b x, A' = some ⟨b, 0, none⟩ ∧ Five w b (i * 5) x ∧ InTm w (fun _ => True) d ts[i] x) :
    Calls Tryz.prog 39 #[.slice A' ts.length c', .func (.func F) #[] C] w fun e w' => e = .returned (.bool (anyB p ts.length)) ∧ Below w.heap.size w w' := by
  have HC := hide (indexFunc_calls F C d ts p D A' c' w hD h3 hF ht)
  clear hF ht
  go_enter Tryz.func39, Tryz.ntmps39
  go_wp2_with (go_at_call 73; refine HC.out.mono ?_)
  intro e w1 h
  obtain ⟨r, rfl, hr, hb⟩ := h
  have HB := hide hb
  have HR := hide hr
  clear hb hr
  go_wp2_with fail
  go_ret
  exact ⟨ret_bool (by rw [← HR.out]), HB.out⟩
end Go.Proofs.YteepmfhpjanbhaaGreatDoor

/- The contract of Has of package term. -/
namespace Go.Proofs.YteepmfhpjanbhaaGreatDoor
open Go.RowKit

set_option maxRecDepth 100000 in
set_option maxHeartbeats 2000000 in
theorem has1_calls (q : ByteArray) (p d : Nat) (t : Tm) (v : Value) (w : World) (cp : w.cell? ⟨p, 0, none⟩ = some (.string q)) (hin : InTm w (fun _ => True) d t v)
    (ih : ∀ W, InTm W (fun _ => True) d t v → Calls Tryz.prog 11 #[v, .string q] W fun e w' => e = .returned (.bool (hasT q d t)) ∧ Below W.heap.size W w') :
    Calls Tryz.prog 40 #[v, .pointer (some ⟨p, 0, none⟩)] w fun e w' => e = .returned (.bool (hasT q d t)) ∧ Below w.heap.size w w' := by
  obtain ⟨k, nn, nm, A, la, lc, A', ta, tc, rfl⟩ := hin.form
  have hold : Below w.heap.size w (w.alloc (.cells #[.int .i64 k, .int .i64 nn, .string nm, .slice A la lc, .slice A' ta tc] 30)) := (Below.refl _ _).alloc (Nat.le_refl _) _
  have hpl : p < w.heap.size := World.block_lt_of_cell? _ _ cp
  have HC := hide (ih _ (hin.keep fun b hb _ => ⟨trivial, hold.block b hb⟩))
  have HO := hide hold
  clear hin hold ih
  go_enter Tryz.func40, Tryz.ntmps40
  go_wp2_with (go_at_call 11; refine HC.out.mono ?_)
  rintro e w1 ⟨rfl, hb⟩
  have HB := hide (HO.out.trans (hb.mono HO.out.size))
  clear hb
  go_wp2_with fail
  go_ret
  exact ⟨rfl, HB.out⟩

set_option maxRecDepth 100000 in
set_option maxHeartbeats 4000000 in
theorem has_calls (q : ByteArray) : ∀ (d : Nat) (t : Tm) (v : Value) (S : Nat → Prop) (w : World), WfT d t → InTm w S d t v →
    Calls Tryz.prog 11 #[v, .string q] w fun e w' => e = .returned (.bool (hasT q d t)) ∧ Below w.heap.size w w'
  | 0, _, _, _, _, h, _ => absurd h (by simp [WfT])
  | d + 1, t, v, S, w, hwf, hin => by
    have ih := has_calls q d
    obtain ⟨A, c, A', c', rfl, -, ht⟩ := hin
    obtain ⟨a1, a2, a3, a4, a5, a6, a7, a8, a9, a10⟩ := hwf
    have h3 : t.ts.length ≤ 3 := by rw [a8]; exact tparts_le _
    have hex : ∃ W0 : World, W0 = (w.alloc (.cells #[.int .i64 (t.kd : Nat), .int .i64 (t.n : Nat), .string t.nm, .slice A t.ls.length c, .slice A' t.ts.length c'] 30)).alloc (.cells #[.string q] 9) := ⟨_, rfl⟩
    obtain ⟨W0, hW0⟩ := hex
    have hold : Below w.heap.size w W0 := by rw [hW0]; exact ((Below.refl _ _).alloc (Nat.le_refl _) _).alloc (by simp) _
    have hsz : W0.heap.size = w.heap.size + 2 := by rw [hW0]; simp
    have hcp : W0.cell? ⟨w.heap.size + 1, 0, none⟩ = some (.string q) := by rw [hW0]; simp [World.cell?_alloc_at]
    have HA : Asks 40 #[.pointer (some ⟨w.heap.size + 1, 0, none⟩)] d t.ts (fun i => hasT q d (t.ch i)) (w.heap.size + 2) W0 :=
      ⟨fun args w' => by simp [go_sem], fun i hi v w' hv hD hb => by
        have := has1_calls q (w.heap.size + 1) d t.ts[i] v w' (by rw [hb.cell (by show w.heap.size + 1 < _; omega)]; exact hcp) hv fun W hW => ih _ _ _ W (a10 i hi) hW
        rw [← Tm.ch_eq hi] at this
        exact this⟩
    have HC := hide (containsFunc_calls 40 _ d t.ts _ (w.heap.size + 2) A' c' W0 (by omega) h3 HA fun i hi => by
      obtain ⟨b, x, e, _, h5, hp⟩ := ht i hi
      exact ⟨b, x, e, h5.of_block (hold.block b h5.lt), hp.keep fun b hb _ => ⟨trivial, hold.block b hb⟩⟩)
    have HO := hide hold
    rw [hW0] at HC
    clear ih ht a10 a3 a4 a5 a8 a9 HA hold hsz hcp
    unfold hasT
    by_cases hself : t.kd = 2 ∧ t.nm = q
    · have q0 : ((t.kd : Int) == 2) = true := by simp; omega
      have hs := sameStr_pos hself.2
      have hd : (decide (t.kd = 2) && decide (t.nm = q)) = true := by simp [hself]
      rw [hd, Bool.true_or]
      clear hd hself HC HO hW0
      go_enter Tryz.func11, Tryz.ntmps11
      go_wp2_with fail
      go_ret
      exact ⟨rfl, ((Below.refl _ _).alloc (Nat.le_refl _) _).alloc (by simp) _⟩
    · have hd : (decide (t.kd = 2) && decide (t.nm = q)) = false := by
        by_cases h : t.kd = 2
        · simp [h, show ¬ t.nm = q from fun e => hself ⟨h, e⟩]
        · simp [h]
      rw [hd, Bool.false_or]
      have hcase : (((t.kd : Int) == 2) = true ∧ (t.nm.toList == q.toList) = false) ∨ ((t.kd : Int) == 2) = false := by
        by_cases h : t.kd = 2
        · exact .inl ⟨by simp; omega, sameStr_neg fun e => hself ⟨h, e⟩⟩
        · exact .inr (by simp; omega)
      clear hd hself
      rcases hcase with ⟨q0, hs⟩ | q0
      all_goals
        go_enter Tryz.func11, Tryz.ntmps11
        go_wp2_with (go_at_call 39; refine HC.out.mono ?_)
        rw [← hW0]
        rintro e w1 ⟨rfl, hb⟩
        have HB := hide (HO.out.trans (hb.mono HO.out.size))
        clear hb hW0
        go_wp2_with fail
        go_ret
        exact ⟨rfl, HB.out⟩
end Go.Proofs.YteepmfhpjanbhaaGreatDoor
