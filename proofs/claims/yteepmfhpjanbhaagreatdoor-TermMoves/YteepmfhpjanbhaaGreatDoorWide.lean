/- The contract of the document's EqualTerm: alike, where levels need only be Same. -/
import Derived.Test.YteepmfhpjanbhaaGreatDoorEquals
import Derived.Test.YteepmfhpjanbhaaGreatDoorTParams
import Derived.Test.YteepmfhpjanbhaaGreatDoorRefSame

namespace Go.Proofs.YteepmfhpjanbhaaGreatDoor
open Go.RowKit

theorem sameB_refl (l : LvB) : sameB l l = true := by
  unfold sameB
  rw [leB_true fun τ => Nat.le_refl _]
  rfl

theorem par_len {L : List ByteArray} {a b : LvB} (hL : L.length ≤ 6) (ha : ∀ p, Lv.has p a → p ∈ L) (hb : ∀ p, Lv.has p b → p ∈ L) : (a.addP (b.addP [])).length ≤ 6 := by
  refine Nat.le_trans (nodup_length _ L (Lv.addP_nodup a _ (Lv.addP_nodup b _ List.nodup_nil)) fun p hp => ?_) hL
  rcases Lv.addP_mem a _ p hp with h | h
  · rcases Lv.addP_mem b _ p h with h | h
    · simp at h
    · exact hb p h
  · exact ha p h

set_option maxRecDepth 100000 in
set_option maxHeartbeats 8000000 in
theorem ralike_calls (L : List ByteArray) (hL : L.length ≤ 6) : ∀ (d : Nat) (a b : Tm) (va vb : Value) (w : World), WfT d a → WfT d b → ParT L d a → ParT L d b → InTm w (fun _ => True) d a va → InTm w (fun _ => True) d b vb →
    Calls Tryz.prog 44 #[va, vb, .bool true] w fun e w' => e = .returned (.bool (eqT d a b)) ∧ Below w.heap.size w w'
  | 0, _, _, _, _, _, h, _, _, _, _, _ => absurd h (by simp [WfT])
  | d + 1, a, b, va, vb, w, hwa, hwb, hpa, hpb, ha, hb => by
    have ih := ralike_calls L hL d
    obtain ⟨A, c, A', c', rfl, hl, ht⟩ := ha
    obtain ⟨B, k, B', k', rfl, hl2, ht2⟩ := hb
    obtain ⟨a1, a2, a3, a4, a5, a6, a7, a8, a9, a10⟩ := hwa
    obtain ⟨b1, b2, b3, b4, b5, b6, b7, b8, b9, b10⟩ := hwb
    have h3a : a.ts.length ≤ 3 := by rw [a8]; exact tparts_le _
    have h3b : b.ts.length ≤ 3 := by rw [b8]; exact tparts_le _
    have hold : Below w.heap.size w ((w.alloc (five a.kd a.n a.nm (.slice A a.ls.length c) (.slice A' a.ts.length c'))).alloc (five b.kd b.n b.nm (.slice B b.ls.length k) (.slice B' b.ts.length k'))) := ((Below.refl _ _).alloc (Nat.le_refl _) _).alloc (by simp) _
    have HR : Hid (eqT (d + 1) a b = (decide (a.kd = b.kd) && decide (a.n = b.n) && decide (a.nm = b.nm) && eqLs a.ls b.ls && eqTs (eqT d) a.ts b.ts)) := rfl
    have HO := hide hold
    clear hold
    by_cases hk : ¬ a.kd = b.kd
    · have q0 : ((a.kd : Int) != (b.kd : Int)) = true := by simp; omega
      have hr : eqT (d + 1) a b = false := by rw [HR.out]; simp [hk]
      rw [hr]
      clear hr HR hl ht hl2 ht2 a3 a4 a5 a9 a10 b3 b4 b5 b9 b10 ih hpa hpb hk a8 b8
      go_enter Tryz.func44, Tryz.ntmps44
      go_wp2_with fail
      go_ret
      exact ⟨rfl, HO.out⟩
    rw [Classical.not_not] at hk
    have q0 : ((a.kd : Int) != (b.kd : Int)) = false := by simp [hk]
    by_cases hn : ¬ a.n = b.n
    · have q1 : ((a.n : Int) != (b.n : Int)) = true := by simp; omega
      have hr : eqT (d + 1) a b = false := by rw [HR.out]; simp [hn]
      rw [hr]
      clear hr HR hl ht hl2 ht2 a3 a4 a5 a9 a10 b3 b4 b5 b9 b10 ih hpa hpb hk hn a8 b8
      go_enter Tryz.func44, Tryz.ntmps44
      go_wp2_with fail
      go_ret
      exact ⟨rfl, HO.out⟩
    rw [Classical.not_not] at hn
    have q1 : ((a.n : Int) != (b.n : Int)) = false := by simp [hn]
    by_cases hnm : ¬ a.nm = b.nm
    · have q2 : (a.nm.toList != b.nm.toList) = true := by simpa using sameStr_neg hnm
      have q2' : (a.nm.toList == b.nm.toList) = false := sameStr_neg hnm
      have hr : eqT (d + 1) a b = false := by rw [HR.out]; simp [hnm]
      rw [hr]
      clear hr HR hl ht hl2 ht2 a3 a4 a5 a9 a10 b3 b4 b5 b9 b10 ih hpa hpb hk hn hnm a8 b8
      go_enter Tryz.func44, Tryz.ntmps44
      go_wp2_with fail
      go_ret
      exact ⟨rfl, HO.out⟩
    rw [Classical.not_not] at hnm
    have q2' : (a.nm.toList == b.nm.toList) = true := sameStr_pos hnm
    have q2 : (a.nm.toList != b.nm.toList) = false := by simpa using q2'
    have htl : a.ts.length = b.ts.length := by rw [a8, b8, hk]
    by_cases hll : ¬ a.ls.length = b.ls.length
    · have q3 : ((a.ls.length : Int) != (b.ls.length : Int)) = true := by simp; omega
      have hr : eqT (d + 1) a b = false := by rw [HR.out]; simp [eqLs, hll]
      rw [hr]
      clear hr HR hl ht hl2 ht2 a3 a4 a5 a9 a10 b3 b4 b5 b9 b10 ih hpa hpb hk hn hnm hll htl a8 b8
      go_enter Tryz.func44, Tryz.ntmps44
      go_wp2_with fail
      go_ret
      exact ⟨rfl, HO.out⟩
    rw [Classical.not_not] at hll
    have q3 : ((a.ls.length : Int) != (b.ls.length : Int)) = false := by simp [hll]
    have q4 : ((a.ts.length : Int) != (b.ts.length : Int)) = false := by simp [htl]
    have hr : eqT (d + 1) a b = (allB (fun i => sameB (lvAt a.ls i) (lvAt b.ls i)) a.ls.length && allB (fun i => eqT d (tmAt a.ts i) (tmAt b.ts i)) a.ts.length) := by rw [HR.out]; simp [hk, hn, hnm, eqLs, eqTs, hll, htl]
    rw [hr]
    have HLl := hide hll
    have HTl := hide htl
    have HL := hide hl
    have HL2 := hide hl2
    have HT := hide ht
    have HT2 := hide ht2
    have IH := hide ih
    have HWa := hide a10
    have HWb := hide b10
    have H9a := hide a9
    have H9b := hide b9
    have HPa := hide hpa
    have HPb := hide hpb
    clear hr HR hl ht hl2 ht2 a3 a4 a5 a9 a10 b3 b4 b5 b9 b10 ih hpa hpb hk hn hnm hll htl a8 b8
    go_enter Tryz.func44, Tryz.ntmps44
    go_wp2_with fail
    go_loopg [7] (a.ls.length) (fun g i wr => ∃ k0 : Nat, k0 + g = a.ls.length ∧ i = .int .i64 k0 ∧ (∀ j, j < k0 → sameB (lvAt a.ls j) (lvAt b.ls j) = true) ∧ Boxes5 w (five a.kd a.n a.nm (.slice A a.ls.length c) (.slice A' a.ts.length c')) (five b.kd b.n b.nm (.slice B b.ls.length k) (.slice B' b.ts.length k')) wr)
    case atStart => exact ⟨0, by omega, rfl, fun j h => absurd h (by omega), Below.refl _ _⟩
    case round =>
      obtain ⟨k0, hkg, rfl, hall, hwr⟩ := hrel
      have hz := hwr.size
      obtain ⟨g0, g1, g2, g3⟩ := hwr.cells
      have HAll := hide hall
      clear hall
      by_cases hlt : k0 < a.ls.length
      · have hlt2 : k0 < b.ls.length := by rw [← HLl.out]; exact hlt
        obtain ⟨b1', x, rfl, _, h3, hin1⟩ := HL.out k0 hlt
        obtain ⟨kk, nm', A3, n', cap', rfl, c0, c1, c2⟩ := h3
        obtain ⟨b2', y, rfl, _, h4, hin2⟩ := HL2.out k0 hlt2
        obtain ⟨k2, nm2, A4, n2, cap2', rfl, c3, c4, c5⟩ := h4
        have ho := hwr.old
        have d0 := cell_later ho c0
        have d1 := cell_later ho c1
        have d2 := cell_later ho c2
        have d3 := cell_later ho c3
        have d4 := cell_later ho c4
        have d5 := cell_later ho c5
        have HI : Hid (∀ W, Below wr.heap.size wr W → Calls Tryz.prog 76 #[.agg #[.int .i64 kk, .string nm', .slice A3 n' cap'], .agg #[.int .i64 k2, .string nm2, .slice A4 n2 cap2']] W fun e w' => e = .returned (.bool (eqB a.ls[k0] b.ls[k0])) ∧ Below W.heap.size W w') := fun W (hW : Below wr.heap.size wr W) => by
          have hb := ho.trans (hW.mono ho.size)
          exact rsameLv_calls (a.ls[k0]).nodes a.ls[k0] b.ls[k0] _ _ w.heap.size W (Nat.le_refl _) hb.size (hin1.inLv.below hb) (hin2.inLv.below hb)
        have HS : Hid (∀ W, Below wr.heap.size wr W → Calls Tryz.prog 77 #[.agg #[.int .i64 kk, .string nm', .slice A3 n' cap'], .agg #[.int .i64 k2, .string nm2, .slice A4 n2 cap2']] W fun e w' => e = .returned (.bool (sameB a.ls[k0] b.ls[k0])) ∧ Below W.heap.size W w') := fun W (hW : Below wr.heap.size wr W) => by
          have hb := ho.trans (hW.mono ho.size)
          exact rsame_calls a.ls[k0] b.ls[k0] _ _ w.heap.size W hb.size (hin1.inLv.below hb) (hin2.inLv.below hb) (H9a.out _ (List.getElem_mem hlt)).1 (H9b.out _ (List.getElem_mem hlt2)).1 (par_len hL (HPa.out.1 _ (List.getElem_mem hlt)) (HPb.out.1 _ (List.getElem_mem hlt2)))
        have HAt : Hid (sameB (lvAt a.ls k0) (lvAt b.ls k0) = sameB a.ls[k0] b.ls[k0]) := by show _ = _; rw [lvAt_eq hlt, lvAt_eq hlt2]
        have HW := hide hwr
        clear hwr c0 c1 c2 c3 c4 c5 hin1 hin2 ho
        go_wp2_with fail
        have q0 : ∀ x : Later wr.heap.size wr, x.W.cell? ⟨w.heap.size, 3, none⟩ = some _ := fun x => cell_later x.h g0
        have q1 : ∀ x : Later wr.heap.size wr, x.W.cell? ⟨w.heap.size + 1, 3, none⟩ = some _ := fun x => cell_later x.h g2
        have q2 : ∀ x : Later wr.heap.size wr, x.W.cell? ⟨b1', k0 * 3, none⟩ = some _ := fun x => cell_later x.h d0
        have q3 : ∀ x : Later wr.heap.size wr, x.W.cell? ⟨b1', k0 * 3 + 1, none⟩ = some _ := fun x => cell_later x.h d1
        have q4 : ∀ x : Later wr.heap.size wr, x.W.cell? ⟨b1', k0 * 3 + 2, none⟩ = some _ := fun x => cell_later x.h d2
        have q5 : ∀ x : Later wr.heap.size wr, x.W.cell? ⟨b2', k0 * 3, none⟩ = some _ := fun x => cell_later x.h d3
        have q6 : ∀ x : Later wr.heap.size wr, x.W.cell? ⟨b2', k0 * 3 + 1, none⟩ = some _ := fun x => cell_later x.h d4
        have q7 : ∀ x : Later wr.heap.size wr, x.W.cell? ⟨b2', k0 * 3 + 2, none⟩ = some _ := fun x => cell_later x.h d5
        refine wp_region_later (by kernel_rfl) (by kernel_rfl) (Below.refl wr.heap.size wr) ?_
        have hst := Later.some wr.heap.size wr
        iterate 10 quiet_step (fail)
        quiet_step (exact Later.calls HI.out (Nat.le_refl _) _)
        quiet_step (fail)
        refine wpQuiet_nil ?_
        intro _ hw'
        obtain ⟨x, rfl⟩ := hw'
        have HW1 := hide (HW.out.then x.h)
        clear HI
        by_cases heq : a.ls[k0] = b.ls[k0]
        · rw [eqB_true heq]
          have HE : Hid (sameB (lvAt a.ls k0) (lvAt b.ls k0) = true) := by show _ = true; rw [HAt.out, heq]; exact sameB_refl _
          clear heq HAt HS
          go_wp2_with fail
          go_roundg (a.ls.length - (k0 + 1))
          case measure => omega
          case rel => exact ⟨k0 + 1, by omega, by go_num, fun j hj => if e : j = k0 then by subst e; exact HE.out else HAll.out j (by omega), HW1.out⟩
        · rw [eqB_false heq]
          clear heq
          have hx := x.h
          have HX := hide hx
          have g0' := cell_later hx g0
          have g2' := cell_later hx g2
          have d0' := cell_later hx d0
          have d1' := cell_later hx d1
          have d2' := cell_later hx d2
          have d3' := cell_later hx d3
          have d4' := cell_later hx d4
          have d5' := cell_later hx d5
          have hxz := hx.size
          have HS1 := hide (fun W (hW : Below x.W.heap.size x.W W) => HS.out W (HX.out.trans (hW.mono hxz)))
          clear g0 g2 d0 d1 d2 d3 d4 d5 hx q0 q1 q2 q3 q4 q5 q6 q7 hst HS
          generalize x.W = W1 at *
          have p0 : ∀ x : Later W1.heap.size W1, x.W.cell? ⟨w.heap.size, 3, none⟩ = some _ := fun x => cell_later x.h g0'
          have p1 : ∀ x : Later W1.heap.size W1, x.W.cell? ⟨w.heap.size + 1, 3, none⟩ = some _ := fun x => cell_later x.h g2'
          have p2 : ∀ x : Later W1.heap.size W1, x.W.cell? ⟨b1', k0 * 3, none⟩ = some _ := fun x => cell_later x.h d0'
          have p3 : ∀ x : Later W1.heap.size W1, x.W.cell? ⟨b1', k0 * 3 + 1, none⟩ = some _ := fun x => cell_later x.h d1'
          have p4 : ∀ x : Later W1.heap.size W1, x.W.cell? ⟨b1', k0 * 3 + 2, none⟩ = some _ := fun x => cell_later x.h d2'
          have p5 : ∀ x : Later W1.heap.size W1, x.W.cell? ⟨b2', k0 * 3, none⟩ = some _ := fun x => cell_later x.h d3'
          have p6 : ∀ x : Later W1.heap.size W1, x.W.cell? ⟨b2', k0 * 3 + 1, none⟩ = some _ := fun x => cell_later x.h d4'
          have p7 : ∀ x : Later W1.heap.size W1, x.W.cell? ⟨b2', k0 * 3 + 2, none⟩ = some _ := fun x => cell_later x.h d5'
          go_wp2_with fail
          refine wp_region_later (by kernel_rfl) (by kernel_rfl) (Below.refl W1.heap.size W1) ?_
          have hst := Later.some W1.heap.size W1
          iterate 10 quiet_step (fail)
          quiet_step (exact Later.calls HS1.out (Nat.le_refl _) _)
          quiet_step (fail)
          refine wpQuiet_nil ?_
          intro _ hw2
          obtain ⟨x2, rfl⟩ := hw2
          have HW2 := hide (HW1.out.then x2.h)
          clear HS1 p0 p1 p2 p3 p4 p5 p6 p7 g0' g2' d0' d1' d2' d3' d4' d5' hst
          cases hsm : sameB a.ls[k0] b.ls[k0] with
          | true =>
            have HE : Hid (sameB (lvAt a.ls k0) (lvAt b.ls k0) = true) := by show _ = true; rw [HAt.out, hsm]
            clear hsm HAt
            go_wp2_with fail
            go_roundg (a.ls.length - (k0 + 1))
            case measure => omega
            case rel => exact ⟨k0 + 1, by omega, by go_num, fun j hj => if e : j = k0 then by subst e; exact HE.out else HAll.out j (by omega), HW2.out⟩
          | false =>
            have HE := hide (allB_false (p := fun i => sameB (lvAt a.ls i) (lvAt b.ls i)) hlt (by rw [HAt.out, hsm]))
            clear hsm HAt
            go_wp2_with fail
            go_ret
            refine ⟨ret_bool ?_, HW2.out.old⟩
            rw [HE.out]; rfl
      · have hk0 : k0 = a.ls.length := by omega
        subst hk0
        clear g0 g1 g2 g3
        have HA := hide (allB_true (p := fun i => sameB (lvAt a.ls i) (lvAt b.ls i)) (n := a.ls.length) fun j hj => HAll.out j hj)
        have HW0 := hide hwr
        clear hwr HAll
        obtain ⟨g0, g1, g2, g3⟩ := HW0.out.cells
        go_wp2_with fail
        go_loopg [9] (a.ts.length) (fun g i wq => ∃ k0 : Nat, k0 + g = a.ts.length ∧ i = .int .i64 k0 ∧ (∀ j, j < k0 → eqT d (tmAt a.ts j) (tmAt b.ts j) = true) ∧ Boxes5 w (five a.kd a.n a.nm (.slice A a.ls.length c) (.slice A' a.ts.length c')) (five b.kd b.n b.nm (.slice B b.ls.length k) (.slice B' b.ts.length k')) wq)
        case atStart => exact ⟨0, by omega, rfl, fun j h => absurd h (by omega), HW0.out⟩
        case round =>
          clear g0 g1 g2 g3
          obtain ⟨k0, hkg2, rfl, hall, hwr⟩ := hrel
          have hz := hwr.size
          obtain ⟨g0, g1, g2, g3⟩ := hwr.cells
          have HAll := hide hall
          clear hall
          by_cases hlt : k0 < a.ts.length
          · have hlt2 : k0 < b.ts.length := by rw [← HTl.out]; exact hlt
            obtain ⟨b1', x, rfl, _, h3, hin1⟩ := HT.out k0 hlt
            obtain ⟨kk, nn, nm', A3, n', cap', A5, n5, cap5, rfl, c0, c1, c2, c3, c4⟩ := h3
            obtain ⟨b2', y, rfl, _, h4, hin2⟩ := HT2.out k0 hlt2
            obtain ⟨k2, nn2, nm2, A4, n2, cap2', A6, n6, cap6, rfl, c5, c6, c7, c8, c9⟩ := h4
            have ho := hwr.old
            have d0 := cell_later ho c0
            have d1 := cell_later ho c1
            have d2 := cell_later ho c2
            have d3 := cell_later ho c3
            have d4 := cell_later ho c4
            have d5 := cell_later ho c5
            have d6 := cell_later ho c6
            have d7 := cell_later ho c7
            have d8 := cell_later ho c8
            have d9 := cell_later ho c9
            have HI : Hid (∀ W, Below wr.heap.size wr W → Calls Tryz.prog 44 #[.agg #[.int .i64 kk, .int .i64 nn, .string nm', .slice A3 n' cap', .slice A5 n5 cap5], .agg #[.int .i64 k2, .int .i64 nn2, .string nm2, .slice A4 n2 cap2', .slice A6 n6 cap6], .bool true] W fun e w' => e = .returned (.bool (eqT d a.ts[k0] b.ts[k0])) ∧ Below W.heap.size W w') := fun W (hW : Below wr.heap.size wr W) => by
              have hb := ho.trans (hW.mono ho.size)
              exact IH.out a.ts[k0] b.ts[k0] _ _ W (HWa.out k0 hlt) (HWb.out k0 hlt2) (HPa.out.2 k0 hlt) (HPb.out.2 k0 hlt2) (hin1.keep fun b hb' _ => ⟨trivial, hb.block b hb'⟩) (hin2.keep fun b hb' _ => ⟨trivial, hb.block b hb'⟩)
            have HAt : Hid (eqT d (tmAt a.ts k0) (tmAt b.ts k0) = eqT d a.ts[k0] b.ts[k0]) := by show _ = _; rw [tmAt_eq hlt, tmAt_eq hlt2]
            have HW := hide hwr
            clear hwr c0 c1 c2 c3 c4 c5 c6 c7 c8 c9 hin1 hin2 ho
            go_wp2_with fail
            have q0 : ∀ x : Later wr.heap.size wr, x.W.cell? ⟨w.heap.size, 4, none⟩ = some _ := fun x => cell_later x.h g1
            have q1 : ∀ x : Later wr.heap.size wr, x.W.cell? ⟨w.heap.size + 1, 4, none⟩ = some _ := fun x => cell_later x.h g3
            have p0 : ∀ x : Later wr.heap.size wr, x.W.cell? ⟨b1', k0 * 5, none⟩ = some _ := fun x => cell_later x.h d0
            have p1 : ∀ x : Later wr.heap.size wr, x.W.cell? ⟨b1', k0 * 5 + 1, none⟩ = some _ := fun x => cell_later x.h d1
            have p2 : ∀ x : Later wr.heap.size wr, x.W.cell? ⟨b1', k0 * 5 + 2, none⟩ = some _ := fun x => cell_later x.h d2
            have p3 : ∀ x : Later wr.heap.size wr, x.W.cell? ⟨b1', k0 * 5 + 3, none⟩ = some _ := fun x => cell_later x.h d3
            have p4 : ∀ x : Later wr.heap.size wr, x.W.cell? ⟨b1', k0 * 5 + 4, none⟩ = some _ := fun x => cell_later x.h d4
            have p5 : ∀ x : Later wr.heap.size wr, x.W.cell? ⟨b2', k0 * 5, none⟩ = some _ := fun x => cell_later x.h d5
            have p6 : ∀ x : Later wr.heap.size wr, x.W.cell? ⟨b2', k0 * 5 + 1, none⟩ = some _ := fun x => cell_later x.h d6
            have p7 : ∀ x : Later wr.heap.size wr, x.W.cell? ⟨b2', k0 * 5 + 2, none⟩ = some _ := fun x => cell_later x.h d7
            have p8 : ∀ x : Later wr.heap.size wr, x.W.cell? ⟨b2', k0 * 5 + 3, none⟩ = some _ := fun x => cell_later x.h d8
            have p9 : ∀ x : Later wr.heap.size wr, x.W.cell? ⟨b2', k0 * 5 + 4, none⟩ = some _ := fun x => cell_later x.h d9
            refine wp_region_later (by kernel_rfl) (by kernel_rfl) (Below.refl wr.heap.size wr) ?_
            have hst := Later.some wr.heap.size wr
            iterate 11 quiet_step (fail)
            quiet_step (exact Later.calls HI.out (Nat.le_refl _) _)
            quiet_step (fail)
            refine wpQuiet_nil ?_
            intro _ hw'
            obtain ⟨x, rfl⟩ := hw'
            have HW2 := hide (HW.out.then x.h)
            clear HI p0 p1 p2 p3 p4 p5 p6 p7 p8 p9 q0 q1 g0 g1 g2 g3 d0 d1 d2 d3 d4 d5 d6 d7 d8 d9 hst
            cases hsm : eqT d a.ts[k0] b.ts[k0] with
            | true =>
              have HE : Hid (eqT d (tmAt a.ts k0) (tmAt b.ts k0) = true) := by show _ = true; rw [HAt.out, hsm]
              clear hsm HAt
              go_wp2_with fail
              go_roundg (a.ts.length - (k0 + 1))
              case measure => omega
              case rel => exact ⟨k0 + 1, by omega, by go_num, fun j hj => if e : j = k0 then by subst e; exact HE.out else HAll.out j (by omega), HW2.out⟩
            | false =>
              have HE := hide (allB_false (p := fun i => eqT d (tmAt a.ts i) (tmAt b.ts i)) hlt (by rw [HAt.out, hsm]))
              clear hsm HAt
              go_wp2_with fail
              go_ret
              refine ⟨ret_bool ?_, HW2.out.old⟩
              rw [HE.out, Bool.and_false]
          · have HE := hide (allB_true (p := fun i => eqT d (tmAt a.ts i) (tmAt b.ts i)) (n := a.ts.length) fun j hj => HAll.out j (by omega))
            have HW := hide hwr
            clear hwr HAll
            go_wp2_with fail
            go_ret
            refine ⟨ret_bool ?_, HW.out.old⟩
            rw [HE.out, HA.out]; rfl

set_option maxRecDepth 100000 in
set_option maxHeartbeats 2000000 in
theorem requalT_calls (L : List ByteArray) (hL : L.length ≤ 6) (d : Nat) (a b : Tm) (va vb : Value) (w : World) (hwa : WfT d a) (hwb : WfT d b) (hpa : ParT L d a) (hpb : ParT L d b) (ha : InTm w (fun _ => True) d a va) (hb : InTm w (fun _ => True) d b vb) :
    Calls Tryz.prog 19 #[va, vb] w fun e w' => e = .returned (.bool (eqT d a b)) ∧ Below w.heap.size w w' := by
  obtain ⟨k, n, nm, A, la, lc, A', ta, tc, rfl⟩ := ha.form
  obtain ⟨ku, nu, nmu, Au, mu, cu, Au', mu', cu', rfl⟩ := hb.form
  have hold : Below w.heap.size w ((w.alloc (five k n nm (.slice A la lc) (.slice A' ta tc))).alloc (five ku nu nmu (.slice Au mu cu) (.slice Au' mu' cu'))) := ((Below.refl _ _).alloc (Nat.le_refl _) _).alloc (by simp) _
  have K := hide (ralike_calls L hL d a b _ _ _ hwa hwb hpa hpb (ha.keep fun b hb' _ => ⟨trivial, hold.block b hb'⟩) (hb.keep fun b hb' _ => ⟨trivial, hold.block b hb'⟩))
  have HO := hide hold
  clear ha hb hold hwa hwb hpa hpb
  go_enter Tryz.func19, Tryz.ntmps19
  go_wp2_with (go_at_call 44; refine K.out.mono ?_)
  rintro e w1 ⟨rfl, hb1⟩
  have HB := hide (HO.out.trans (hb1.mono HO.out.size))
  clear hb1
  go_wp2_with fail
  go_ret
  exact ⟨rfl, HB.out⟩

end Go.Proofs.YteepmfhpjanbhaaGreatDoor
