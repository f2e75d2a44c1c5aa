/- The document's tactic: have. Written by mktg.py. -/
import Derived.Test.YtekfledccpeblaaGreatDoorTgc
import Derived.Deep.DeepCutAuto

namespace Go.Proofs.YtekfledccpeblaaGreatDoor
open Go.RowKit

section
variable {fb tb tof tc : Nat} {s : ByteArray} {w : World} {st : FS}
set_option maxRecDepth 100000 in
set_option maxHeartbeats 8000000 in
theorem dtac_have (n : Nat) (hnn : n ≤ 900000) (h : DR w fb s st) (hw : TWs w fb tb tof tc) (hl : st.left s < n) (hk : tacNo st = 9) :
    Calls Tryz.prog 32 #[.pointer (some ⟨fb, 0, none⟩)] w fun e w' => DQ w fb s (tacticF s n st).2 (TcR w (tacticF s n st).1) e w' := by
  obtain ⟨fin, hfin⟩ : ∃ fin, fin = tacticF s n st := ⟨_, rfl⟩
  rw [← hfin]
  rw [tac_have hk] at hfin
  have hlt := h.lt
  have hk14 := tacNo_lt st
  obtain ⟨k, hkk⟩ : ∃ k, k = tacNo st := ⟨_, rfl⟩
  rw [← hkk] at hk hk14 hfin
  have HFin := hide hfin
  clear hfin
  have hk0 : k ≠ 0 := by omega
  obtain ⟨hp, HLa⟩ := tac_kin hkk hk0
  have hlef := FS.step_left h.ok hp.1 (by omega) (by omega)
  have q1 : ((st.code : Int) == 0) = true := by rw [hp.1]; rfl
  have q2 : ((st.t.kd : Int) == 1) = true := by rw [hp.2]; rfl
  have HLe : Hid ((st.step s).left s < n) := hide (by omega)
  have HOk := hide h.ok.step
  have HSt := hide (TD.start h st.t.at_)
  have HW := hide hw
  obtain ⟨d0, d1, d2, d3, d4, d5, d6, df⟩ := (h.alloc (.cells (tcs 0 0 nilV 0 nilV) 66)).cells
  clear d0 d1 d2 d4 d5 d6 df
  clear h hw hkk hp hlef hl
  have HLx : Hid ((((st.step s).name s).2.must s sColon).left s < n) := hide (by have := ((Dn.refl HOk.out).name.must (q := sColon)).left; have := HLe.out; omega)
  go_enter Tryz.func32, Tryz.ntmps32
  go_upto_region 2 with fail
  clear d3
  generalize World.alloc _ (.cells (tcs 0 (st.t.at_ : Nat) nilV 0 nilV) 66) = W1 at *
  go_wp2_with fail
  go_loopg [4] 13 (fun g v wr => ∃ j : Nat, 1 ≤ j ∧ j + g = 14 ∧ v = .int .i64 (j : Nat) ∧ Hid (TD w fb s (lastOf tacList st.t.t (j - 1) : Nat) (st.t.at_ : Nat) nilV 0 nilV st wr))
  case atStart => exact ⟨1, by omega, by omega, rfl, HSt.out⟩
  case round =>
    clear HSt
    obtain ⟨j, hj1, hjg, rfl, HS⟩ := hrel
    have HW2 := hide (HW.out.touched HS.out.old)
    have g0 := HW2.out.s
    obtain ⟨c0, c1, c2, c3, c4, c5, c6, cf⟩ := HS.out.rd.cells
    clear c0 c3 c4 c6
    by_cases hj : j < 14
    · have e1 : decide ((j : Int) < 14) = true := by simp; omega
      have e2 : (j : Int) < 14 := by omega
      have gj := HW2.out.c j hj
      have HL : Hid (lastOf tacList st.t.t (j + 1 - 1) = if tacList.getD j ⟨#[]⟩ = st.t.t then j else lastOf tacList st.t.t (j - 1)) := hide (by
        obtain ⟨i, rfl⟩ : ∃ i, j = i + 1 := ⟨j - 1, by omega⟩
        rfl)
      by_cases hq : tacList.getD j ⟨#[]⟩ = st.t.t
      · have q3 := sameStr_pos hq
        rw [if_pos hq] at HL
        generalize tacList.getD j ⟨#[]⟩ = x at *
        clear hq HW2
        go_wp2_with fail
        go_quiet (fail)
        have HS2 := hide (HS.out.later hlt (below_drewN (Below.refl _ _) nq))
        obtain ⟨v0, v1, v2, v3, v4, vf⟩ := cells5 HS2.out.var
        clear v1 v2 v3 v4
        go_wp2_with fail
        go_roundg (14 - (j + 1))
        case measure => omega
        case rel => exact ⟨j + 1, by omega, by omega, by go_num, by rw [HL.out]; exact HS2.out.set hlt 0 (.int .i64 (j : Nat)) rfl⟩
      · have q3 := sameStr_neg hq
        rw [if_neg hq] at HL
        generalize tacList.getD j ⟨#[]⟩ = x at *
        clear hq HW2
        go_wp2_with fail
        go_quiet (fail)
        have HS2 := hide (HS.out.later hlt (below_drewN (Below.refl _ _) nq))
        go_wp2_with fail
        go_roundg (14 - (j + 1))
        case measure => omega
        case rel => exact ⟨j + 1, by omega, by omega, by go_num, by rw [HL.out]; exact HS2.out⟩
    · have e1 : decide ((j : Int) < 14) = false := by simp; omega
      have hj14 : j = 14 := by omega
      have HV : Hid (TD w fb s (k : Nat) (st.t.at_ : Nat) nilV 0 nilV st wr) := hide (by have := HS.out; rw [hj14, HLa.out] at this; exact this)
      obtain ⟨v0, v1, v2, v3, v4, vf⟩ := cells5 HV.out.var
      have e0 : ((k : Int) == 0) = false := by simp; omega
      have KS := hide (HV.out.step hlt)
      clear hj hjg hj1 hj14 HS HW2 HV v1 v2 v3 v4
      generalize st.t.at_ = ta at *
      generalize st.step s = st1 at *
      go_upto_region 11 with (go_at_call 14; refine KS.out.mono ?_; rintro e W2 ⟨rfl, hV2⟩; have HV2 := hide hV2; clear hV2)
      obtain ⟨v0, v1, v2, v3, v4, vf⟩ := cells5 HV2.out.var
      clear KS g0 c1 c2 c5 cf q1 q2 e0 e1 v1 v2 v3 v4
      have KN := hide (fun W (hW : DR W fb s st1) => dname_calls hW)
      have KE := hide (fun W (hW : DR W fb s ((st1.name s).2.must s sColon)) => dexpr_all (fb := fb) n hnn _ W hW HLx.out)
      generalize (st1.name s).1 = nm at *
      generalize (exprN s n ((st1.name s).2.must s sColon)).1 = ex at *
      generalize (exprN s n ((st1.name s).2.must s sColon)).2 = st4 at *
      have KM := hide (fun W (hW : DR W fb s (st1.name s).2) => dmust_calls hW sColon)
      generalize (st1.name s).2.must s sColon = st3 at *
      generalize (st1.name s).2 = st2 at *
      have e1 : ((k : Int) == 1) = false := by simp; omega
      have e6 : ((k : Int) == 6) = false := by simp; omega
      have e7 : ((k : Int) == 7) = false := by simp; omega
      have e9 : ((k : Int) == 9) = true := by simp; omega
      clear hk hk0 hk14
      obtain ⟨i0, hi, hz0, hz1, hz2⟩ := infoParts Tryz.info9'
      have hl2 := HV2.out.lt
      have HG : Hid (Gw StP 9 1 W2 fb s st1 (w.heap.size + 1) 66 2 (tcs (k : Nat) (ta : Nat) nilV 0 nilV) [] none 0 [] W2) := Gw.start HV2.out.rd HV2.out.var (by omega) rfl
      have hlt2 := HG.out.flt
      have x0 := HG.out.cell
      have xl := HG.out.lt
      have KV := hide (KN.out _ (HG.out.drew keep_StP).rd)
      clear KN
      go_upto_region 20 with fail
      clear v0 vf e1 e6 e7 e9
      go_cut [] (fun wx => ∃ A6 c6, Hid (TD w fb s (k : Nat) (ta : Nat) (.slice A6 1 c6) 0 nilV st2 wx) ∧ Hid (SsIn wx (fun b => w.heap.size + 2 ≤ b) A6 [nm]))
      case first =>
        go_region_law (first
          | (refine step_val (f := 27) rfl ?_ KV.out ?_
             · simp [go_sem]
             intro e w5 h5
             obtain ⟨rfl, hR5, hT5⟩ := h5
             refine ⟨_, rfl, ?_⟩
             have HT5 : Hid (Touched W2 fb w5) := ((Touched.refl W2 fb).drew').trans hT5
             have HR5 := hide hR5
             have x5 : w5.cell? ⟨(w.heap.size + 1), 2, none⟩ = some (.slice none 0 0) := (HG.out.touched keep_StP hR5 HT5.out).cell
             have hel5 := (HG.out.touched keep_StP hR5 HT5.out).lt
             have hz5 := HT5.out.size
             have HO : Hid ((w5.alloc (.cells #[.string nm] 9)).ownsRow W2.heap.size 9 1 (.slice none 0 0) 0 []) := (HG.out.row.touched (KL.keeps keep_StP _) HT5.out hlt2).own.alloc (.cells #[.string nm] 9)
             clear hR5 hT5)
          | (refine step_append_own rfl (.tmp 98) (.tmp 101) 38 rfl W2.heap.size 9 i0 _ 1 16 Tryz.underlying38 hi hz0 hz1 hz2 rfl (by decide) (.slice none 0 0) 0 [] ?_ ?_ ⟨w5.heap.size, 0, none⟩ 1 1 [.string nm] ?_ rfl ?_ ?_ (by decide) ?_ ?_ ?_ ?_
             · rfl
             · exact HO.out
             · rfl
             · exact cells_new _ _ _
             · intro u hu; simp at hu; subst hu; rfl
             · unfold maxLen; omega
             · omega
             · simp; omega
             intro v' w6 hown6 hgr6 hpl6
             obtain ⟨A6, c6, hv6, he6, hG6⟩ := Gw.push keep_StP HG.out HR5.out HT5.out rfl rfl hown6 hgr6 hpl6
             have hv7 : v' = .slice A6 1 c6 := by rw [hv6]; simp
             subst hv7
             have x6 := cell_of he6 2 (v := .slice none 0 0) rfl
             have f6 := frozen_of he6 2
             have HG6 := hide hG6
             clear hown6 hgr6 hpl6 hG6 he6 hv6))
        all_goals
          have HV3 := hide (HG6.out.td HV2.out hlt (k' := (k : Nat)) (a' := (ta : Nat)) (m' := 0) (ns' := .slice A6 1 c6) (es' := nilV) rfl)
          have HN3 := hide (HG6.out.names.keep (S' := fun b => w.heap.size + 2 ≤ b) fun b _ hs => ⟨Nat.le_trans hl2 hs, rfl⟩)
          clear HG6 HO HT5 HR5 hz5 KV HG x0 xl
          go_wp2_with fail
          go_meet
          exact ⟨A6, c6, HV3, HN3⟩
      case rest =>
        obtain ⟨A6, c6, HV3, HN3⟩ := hcut
        clear HV2 HG x0 xl KV hi hz0 hz1 hz2 hl2 hlt2
        clear i0
        have K3 := hide (KM.out _ HV3.out.rd)
        clear KM
        have HZ3 := hide HV3.out.lt
        go_upto_region 22 with (go_at_call 29; refine K3.out.mono ?_; rintro e W4 ⟨rfl, hd, hT⟩; have HV4 := hide (HV3.out.touched hlt hd hT); have HN4 := hide (HN3.out.keep (S' := fun b => w.heap.size + 2 ≤ b) fun b hb hs => ⟨hs, hT.at hb (by have : w.heap.size + 2 ≤ b := hs; omega)⟩); clear hd hT)
        clear K3 HV3 HN3 HZ3
        obtain ⟨i0, hi, hz0, hz1, hz2⟩ := infoParts Tryz.info43'
        have hl4 := HV4.out.lt
        have HG : Hid (Gw XqP 43 9 W4 fb s st3 (w.heap.size + 1) 66 4 (tcs (k : Nat) (ta : Nat) (.slice A6 1 c6) 0 nilV) [] none 0 [] W4) := Gw.start HV4.out.rd HV4.out.var (by omega) rfl
        have hlt2 := HG.out.flt
        have x0 := HG.out.cell
        have xl := HG.out.lt
        have KV := hide (KE.out _ (HG.out.drew keep_XqP).rd)
        clear KE
        go_region_law (first
          | (refine step_val (f := 31) rfl ?_ KV.out ?_
             · simp [go_sem]
             intro e w5 h5
             obtain ⟨⟨xv, rfl, hx5⟩, hR5, hT5⟩ := h5
             have HX5 := hide hx5
             obtain ⟨k9, a9, n9, b9, g9, i9, m9, A9, l9, c9, B9, r9, d9, rfl⟩ := hx5.cells
             refine ⟨_, rfl, ?_⟩
             have HT5 : Hid (Touched W4 fb w5) := ((Touched.refl W4 fb).drew').trans hT5
             have HR5 := hide hR5
             have x5 : w5.cell? ⟨(w.heap.size + 1), 4, none⟩ = some (.slice none 0 0) := (HG.out.touched keep_XqP hR5 HT5.out).cell
             have hel5 := (HG.out.touched keep_XqP hR5 HT5.out).lt
             have hz5 := HT5.out.size
             have HO : Hid ((w5.alloc (.cells #[.int .i64 k9, .int .i64 a9, .string n9, .bool b9, .bool g9, .bool i9, .bool m9, .slice A9 l9 c9, .slice B9 r9 d9] 43)).ownsRow W4.heap.size 43 9 (.slice none 0 0) 0 []) := (HG.out.row.touched (KL.keeps keep_XqP _) HT5.out hlt2).own.alloc (.cells #[.int .i64 k9, .int .i64 a9, .string n9, .bool b9, .bool g9, .bool i9, .bool m9, .slice A9 l9 c9, .slice B9 r9 d9] 43)
             clear hx5 hR5 hT5)
          | (refine step_append_own rfl (.tmp 107) (.tmp 110) 41 rfl W4.heap.size 43 i0 _ 9 88 Tryz.underlying41 hi hz0 hz1 hz2 rfl (by decide) (.slice none 0 0) 0 [] ?_ ?_ ⟨w5.heap.size, 0, none⟩ 1 1 [.int .i64 k9, .int .i64 a9, .string n9, .bool b9, .bool g9, .bool i9, .bool m9, .slice A9 l9 c9, .slice B9 r9 d9] ?_ rfl ?_ ?_ (by decide) ?_ ?_ ?_ ?_
             · rfl
             · exact HO.out
             · rfl
             · exact cells_new _ _ _
             · intro u hu; simp at hu; rcases hu with rfl | rfl | rfl | rfl | rfl | rfl | rfl | rfl | rfl <;> rfl
             · unfold maxLen; omega
             · omega
             · simp; omega
             intro v' w6 hown6 hgr6 hpl6
             obtain ⟨Ax, cx, hv6, he6, hG6⟩ := Gw.push keep_XqP HG.out HR5.out HT5.out ⟨_, HX5.out, rfl⟩ rfl hown6 hgr6 hpl6
             have hv7 : v' = .slice Ax 1 cx := by rw [hv6]; simp
             subst hv7
             have x6 := cell_of he6 4 (v := .slice none 0 0) rfl
             have f6 := frozen_of he6 4
             have HG6 := hide hG6
             clear hown6 hgr6 hpl6 hG6 he6 hv6))
        all_goals
          have HV3 := hide (HG6.out.td HV4.out hlt (k' := (k : Nat)) (a' := (ta : Nat)) (m' := 0) (ns' := .slice A6 1 c6) (es' := .slice Ax 1 cx) rfl)
          have HX3 := hide (HG6.out.exprs.keep (S' := fun b => w.heap.size + 2 ≤ b) fun b _ hs => ⟨Nat.le_trans hl4 hs, rfl⟩)
          have HN3 := hide (HN4.out.keep (S' := fun b => w.heap.size + 2 ≤ b) fun b hb hs => ⟨hs, HG6.out.keep b hb (by have : w.heap.size + 2 ≤ b := hs; omega) (by have : w.heap.size + 2 ≤ b := hs; omega)⟩)
          clear HG6 HO HT5 HR5 HX5 x5 x6 f6 hz5 hel5 KV HG x0 xl HN4 HV4
          generalize w6.setCell ⟨w.heap.size + 1, 4, none⟩ _ = W8 at *
          obtain ⟨v0, v1, v2, v3, v4, vf⟩ := cells5 HV3.out.var
          obtain ⟨r0, r1, r2, r3, r4, rf⟩ := cells5 HV3.out.res
          go_wp2_with fail
          rw [HFin.out]
          exact dtac_ret (x := ⟨k, ta, [nm], 0, [ex]⟩) hlt HV3.out HN3.out HX3.out rfl
end
end Go.Proofs.YtekfledccpeblaaGreatDoor
