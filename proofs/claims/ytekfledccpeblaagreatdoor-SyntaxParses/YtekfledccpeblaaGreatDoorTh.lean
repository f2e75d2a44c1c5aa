/- The document's tactic: intro. Written by mktg.py. -/
import Derived.Test.YtekfledccpeblaaGreatDoorTgc
import Derived.Deep.DeepCutAuto
import Derived.Test.YtekfledccpeblaaGreatDoorTgd

namespace Go.Proofs.YtekfledccpeblaaGreatDoor
open Go.RowKit

section
variable {fb tb tof tc : Nat} {s : ByteArray} {w : World} {st : FS}
theorem more_stop {st : FS} (h : ¬ st.kin 1 = true) (m : Nat) (l : List ByteArray) : moreN s m l st = (l, st) := by
  cases m with
  | zero => rfl
  | succ m => simp only [moreN]; rw [if_neg h]
set_option maxRecDepth 100000 in
set_option maxHeartbeats 8000000 in
theorem dtac_intro (n : Nat) (_hnn : n ≤ 900000) (h : DR w fb s st) (hw : TWs w fb tb tof tc) (hl : st.left s < n) (hk : tacNo st = 1) :
    Calls Tryz.prog 32 #[.pointer (some ⟨fb, 0, none⟩)] w fun e w' => DQ w fb s (tacticF s n st).2 (TcR w (tacticF s n st).1) e w' := by
  obtain ⟨fin, hfin⟩ : ∃ fin, fin = tacticF s n st := ⟨_, rfl⟩
  rw [← hfin]
  rw [tac_names hk] at hfin
  have hlt := h.lt
  have hk14 := tacNo_lt st
  obtain ⟨k, hkk⟩ : ∃ k, k = tacNo st := ⟨_, rfl⟩
  rw [← hkk] at hk hk14 hfin
  have HFin := hide hfin
  clear hfin
  have hk0 : k ≠ 0 := by omega
  obtain ⟨hp, HLa⟩ := tac_kin hkk hk0
  have hlef := FS.step_left h.ok hp.1 (by omega) (by omega)
  have q1 : ((st.code : Int) == 0) = true := by rw [hp.1]; rfl
  have q2 : ((st.t.kd : Int) == 1) = true := by rw [hp.2]; rfl
  have HLe : Hid ((st.step s).left s < n) := hide (by omega)
  have HOk := hide h.ok.step
  have HSt := hide (TD.start h st.t.at_)
  have HW := hide hw
  obtain ⟨d0, d1, d2, d3, d4, d5, d6, df⟩ := (h.alloc (.cells (tcs 0 0 nilV 0 nilV) 66)).cells
  clear d0 d1 d2 d4 d5 d6 df
  clear h hw hkk hp hlef hl
  have HLn : Hid (((st.step s).name s).2.left s < n) := hide (by have := (Dn.refl HOk.out).name.left; have := HLe.out; omega)
  go_enter Tryz.func32, Tryz.ntmps32
  go_upto_region 2 with fail
  clear d3
  generalize World.alloc _ (.cells (tcs 0 (st.t.at_ : Nat) nilV 0 nilV) 66) = W1 at *
  go_wp2_with fail
  go_loopg [4] 13 (fun g v wr => ∃ j : Nat, 1 ≤ j ∧ j + g = 14 ∧ v = .int .i64 (j : Nat) ∧ Hid (TD w fb s (lastOf tacList st.t.t (j - 1) : Nat) (st.t.at_ : Nat) nilV 0 nilV st wr))
  case atStart => exact ⟨1, by omega, by omega, rfl, HSt.out⟩
  case round =>
    clear HSt
    obtain ⟨j, hj1, hjg, rfl, HS⟩ := hrel
    have HW2 := hide (HW.out.touched HS.out.old)
    have g0 := HW2.out.s
    obtain ⟨c0, c1, c2, c3, c4, c5, c6, cf⟩ := HS.out.rd.cells
    clear c0 c3 c4 c6
    by_cases hj : j < 14
    · have e1 : decide ((j : Int) < 14) = true := by simp; omega
      have e2 : (j : Int) < 14 := by omega
      have gj := HW2.out.c j hj
      have HL : Hid (lastOf tacList st.t.t (j + 1 - 1) = if tacList.getD j ⟨#[]⟩ = st.t.t then j else lastOf tacList st.t.t (j - 1)) := hide (by
        obtain ⟨i, rfl⟩ : ∃ i, j = i + 1 := ⟨j - 1, by omega⟩
        rfl)
      by_cases hq : tacList.getD j ⟨#[]⟩ = st.t.t
      · have q3 := sameStr_pos hq
        rw [if_pos hq] at HL
        generalize tacList.getD j ⟨#[]⟩ = x at *
        clear hq HW2
        go_wp2_with fail
        go_quiet (fail)
        have HS2 := hide (HS.out.later hlt (below_drewN (Below.refl _ _) nq))
        obtain ⟨v0, v1, v2, v3, v4, vf⟩ := cells5 HS2.out.var
        clear v1 v2 v3 v4
        go_wp2_with fail
        go_roundg (14 - (j + 1))
        case measure => omega
        case rel => exact ⟨j + 1, by omega, by omega, by go_num, by rw [HL.out]; exact HS2.out.set hlt 0 (.int .i64 (j : Nat)) rfl⟩
      · have q3 := sameStr_neg hq
        rw [if_neg hq] at HL
        generalize tacList.getD j ⟨#[]⟩ = x at *
        clear hq HW2
        go_wp2_with fail
        go_quiet (fail)
        have HS2 := hide (HS.out.later hlt (below_drewN (Below.refl _ _) nq))
        go_wp2_with fail
        go_roundg (14 - (j + 1))
        case measure => omega
        case rel => exact ⟨j + 1, by omega, by omega, by go_num, by rw [HL.out]; exact HS2.out⟩
    · have e1 : decide ((j : Int) < 14) = false := by simp; omega
      have hj14 : j = 14 := by omega
      have HV : Hid (TD w fb s (k : Nat) (st.t.at_ : Nat) nilV 0 nilV st wr) := hide (by have := HS.out; rw [hj14, HLa.out] at this; exact this)
      obtain ⟨v0, v1, v2, v3, v4, vf⟩ := cells5 HV.out.var
      have e0 : ((k : Int) == 0) = false := by simp; omega
      have KS := hide (HV.out.step hlt)
      clear hj hjg hj1 hj14 HS HW2 HV v1 v2 v3 v4
      generalize st.t.at_ = ta at *
      generalize st.step s = st1 at *
      go_upto_region 11 with (go_at_call 14; refine KS.out.mono ?_; rintro e W2 ⟨rfl, hV2⟩; have HV2 := hide hV2; clear hV2)
      obtain ⟨v0, v1, v2, v3, v4, vf⟩ := cells5 HV2.out.var
      clear KS g0 c1 c2 c5 cf q1 q2 e0 e1 v1 v2 v3 v4
      have KN := hide (fun W (hW : DR W fb s st1) => dname_calls hW)
      generalize (st1.name s).1 = nm at *
      generalize (st1.name s).2 = st2 at *
      obtain ⟨fm, hfm⟩ : ∃ fm, fm = moreN s n [nm] st2 := ⟨_, rfl⟩
      rw [← hfm] at HFin
      have HFi := hide hfm
      clear hfm
      have e1 : ((k : Int) == 1) = true := by simp; omega
      clear hk hk0 hk14
      obtain ⟨i0, hi, hz0, hz1, hz2⟩ := infoParts Tryz.info9'
      have hl2 := HV2.out.lt
      have HG : Hid (Gw StP 9 1 W2 fb s st1 (w.heap.size + 1) 66 2 (tcs (k : Nat) (ta : Nat) nilV 0 nilV) [] none 0 [] W2) := Gw.start HV2.out.rd HV2.out.var (by omega) rfl
      have hlt2 := HG.out.flt
      have x0 := HG.out.cell
      have xl := HG.out.lt
      have KV := hide (KN.out _ (HG.out.drew keep_StP).rd)
      clear KN
      go_upto_region 13 with fail
      clear v0 vf e1
      go_cut [] (fun wx => ∃ A6 c6 ys6, Hid (Gw StP 9 1 W2 fb s st2 (w.heap.size + 1) 66 2 (tcs (k : Nat) (ta : Nat) (.slice A6 1 c6) 0 nilV) [nm] A6 c6 ys6 wx))
      case first =>
        go_region_law (first
          | (refine step_val (f := 27) rfl ?_ KV.out ?_
             · simp [go_sem]
             intro e w5 h5
             obtain ⟨rfl, hR5, hT5⟩ := h5
             refine ⟨_, rfl, ?_⟩
             have HT5 : Hid (Touched W2 fb w5) := ((Touched.refl W2 fb).drew').trans hT5
             have HR5 := hide hR5
             have x5 : w5.cell? ⟨(w.heap.size + 1), 2, none⟩ = some (.slice none 0 0) := (HG.out.touched keep_StP hR5 HT5.out).cell
             have hel5 := (HG.out.touched keep_StP hR5 HT5.out).lt
             have hz5 := HT5.out.size
             have HO : Hid ((w5.alloc (.cells #[.string nm] 9)).ownsRow W2.heap.size 9 1 (.slice none 0 0) 0 []) := (HG.out.row.touched (KL.keeps keep_StP _) HT5.out hlt2).own.alloc (.cells #[.string nm] 9)
             clear hR5 hT5)
          | (refine step_append_own rfl (.tmp 58) (.tmp 61) 38 rfl W2.heap.size 9 i0 _ 1 16 Tryz.underlying38 hi hz0 hz1 hz2 rfl (by decide) (.slice none 0 0) 0 [] ?_ ?_ ⟨w5.heap.size, 0, none⟩ 1 1 [.string nm] ?_ rfl ?_ ?_ (by decide) ?_ ?_ ?_ ?_
             · rfl
             · exact HO.out
             · rfl
             · exact cells_new _ _ _
             · intro u hu; simp at hu; subst hu; rfl
             · unfold maxLen; omega
             · omega
             · simp; omega
             intro v' w6 hown6 hgr6 hpl6
             obtain ⟨A6, c6, hv6, he6, hG6⟩ := Gw.push keep_StP HG.out HR5.out HT5.out rfl rfl hown6 hgr6 hpl6
             have hv7 : v' = .slice A6 1 c6 := by rw [hv6]; simp
             subst hv7
             have x6 := cell_of he6 2 (v := .slice none 0 0) rfl
             have f6 := frozen_of he6 2
             have HG6 := hide hG6
             clear hown6 hgr6 hpl6 hG6 he6 hv6))
        all_goals
          have HG7 : Hid (Gw StP 9 1 W2 fb s st2 (w.heap.size + 1) 66 2 (tcs (k : Nat) (ta : Nat) (.slice A6 1 c6) 0 nilV) [nm] A6 c6 _ (w6.setCell ⟨w.heap.size + 1, 2, none⟩ (.slice A6 1 c6))) := HG6.out
          clear HG6 HO HT5 HR5 hz5 KV HG x0 xl
          go_wp2_with fail
          go_meet
          exact ⟨A6, c6, _, HG7⟩
      case rest =>
        obtain ⟨A6, c6, ys6, HG6⟩ := hcut
        clear HG x0 xl KV
        go_wp2_with fail
        go_loopg [] n (fun g wr => ∃ (l : List ByteArray) (st' : FS) (A : Option Addr) (c : Nat) (ys : List Value), Hid (moreN s g l st' = fm) ∧ Hid (st'.left s < g) ∧ l.length + g = n + 1 ∧ Hid (Gw StP 9 1 W2 fb s st' (w.heap.size + 1) 66 2 (tcs (k : Nat) (ta : Nat) (.slice A l.length c) 0 nilV) l A c ys wr))
        case atStart => exact ⟨[nm], st2, A6, c6, _, HFi.out.symm, HLn.out, by simp; omega, HG6.out⟩
        case round =>
          clear HG6 HLn HFi
          obtain ⟨l, st', A, c, ys, HE, HLt, hlen, HS⟩ := hrel
          obtain ⟨g', rfl⟩ : ∃ g', gk = g' + 1 := ⟨gk - 1, by have := HLt.out; omega⟩
          have hok := HS.out.rd.ok
          obtain ⟨c0, c1, c2, c3, c4, c5, c6', cf⟩ := HS.out.rd.cells
          clear c0 c2 c3 c4 c6'
          by_cases hp : st'.kin 1 = true
          · have hpp : st'.code = 0 ∧ st'.t.kd = 1 := by unfold FS.kin at hp; simpa using hp
            have q1 : ((st'.code : Int) == 0) = true := by rw [hpp.1]; rfl
            have q2 : ((st'.t.kd : Int) == 1) = true := by rw [hpp.2]; rfl
            have hlef := FS.step_left hok hpp.1 (by omega) (by omega)
            have HE2 : Hid (moreN s g' (l ++ [(st'.name s).1]) (st'.name s).2 = fm) := hide (by have := HE.out; simp only [moreN] at this; rw [if_pos hp] at this; exact this)
            have HL2 : Hid ((st'.name s).2.left s < g') := hide (by rw [name_kin hp]; have := HLt.out; show (st'.step s).left s < g'; omega)
            have KN := hide (dname_calls (HS.out.drew keep_StP).rd)
            clear hpp hp hok HE HLt hlef
            generalize (st'.name s).1 = nm at *
            generalize (st'.name s).2 = st3 at *
            have x0 := HS.out.cell
            have xl := HS.out.lt
            have hlt2 := HS.out.flt
            have hz3 := HS.out.size
            go_upto_region 15 with fail
            clear c1 c5 cf q1 q2
            go_region_law (first
              | (refine step_val (f := 27) rfl ?_ KN.out ?_
                 · simp [go_sem]
                 intro e w5 h5
                 obtain ⟨rfl, hR5, hT5⟩ := h5
                 refine ⟨_, rfl, ?_⟩
                 have HT5 : Hid (Touched wr fb w5) := ((Touched.refl wr fb).drew').trans hT5
                 have HR5 := hide hR5
                 have x5 : w5.cell? ⟨(w.heap.size + 1), 2, none⟩ = some (.slice A l.length c) := (HS.out.touched keep_StP hR5 HT5.out).cell
                 have hel5 := (HS.out.touched keep_StP hR5 HT5.out).lt
                 have hz5 := HT5.out.size
                 have HO : Hid ((w5.alloc (.cells #[.string nm] 9)).ownsRow W2.heap.size 9 1 (.slice A l.length c) l.length (flat ys)) := (HS.out.row.touched (KL.keeps keep_StP _) HT5.out hlt2).own.alloc (.cells #[.string nm] 9)
                 clear hR5 hT5)
              | (refine step_append_own rfl (.tmp 79) (.tmp 82) 38 rfl W2.heap.size 9 i0 _ 1 16 Tryz.underlying38 hi hz0 hz1 hz2 rfl (by decide) (.slice A l.length c) l.length (flat ys) ?_ ?_ ⟨w5.heap.size, 0, none⟩ 1 1 [.string nm] ?_ rfl ?_ ?_ (by decide) ?_ ?_ ?_ ?_
                 · rfl
                 · exact HO.out
                 · rfl
                 · exact cells_new _ _ _
                 · intro u hu; simp at hu; subst hu; rfl
                 · unfold maxLen; omega
                 · omega
                 · simp; omega
                 intro v' w6 hown6 hgr6 hpl6
                 obtain ⟨A6, c6, hv6, he6, hG6⟩ := Gw.push keep_StP HS.out HR5.out HT5.out rfl rfl hown6 hgr6 hpl6
                 have hv7 : v' = .slice A6 (l.length + 1) c6 := by rw [hv6]; simp
                 subst hv7
                 have x6 := cell_of he6 2 (v := .slice A l.length c) rfl
                 have f6 := frozen_of he6 2
                 have HG6 := hide hG6
                 clear hown6 hgr6 hpl6 hG6 he6 hv6))
            all_goals
              have HG9 : Hid (Gw StP 9 1 W2 fb s st3 (w.heap.size + 1) 66 2 (tcs (k : Nat) (ta : Nat) (.slice A6 (l ++ [nm]).length c6) 0 nilV) (l ++ [nm]) A6 c6 (ys ++ [.agg #[.string nm]]) (w6.setCell ⟨w.heap.size + 1, 2, none⟩ (.slice A6 (l.length + 1) c6))) := hide (by
                have hle : (l ++ [nm]).length = l.length + 1 := by simp
                have := HG6.out
                rw [hle]
                exact this)
              clear HG6 HO HT5 HR5 hz5 KN HS x0 xl
              generalize w6.setCell ⟨w.heap.size + 1, 2, none⟩ _ = W9 at *
              go_wp2_with fail
              go_roundg g'
              case measure => omega
              case rel => exact ⟨l ++ [nm], st3, A6, c6, _, HE2.out, HL2.out, by simp; omega, HG9.out⟩
          · have hfi : fm = (l, st') := by rw [← HE.out, more_stop hp]
            have HV3 := hide (HS.out.td HV2.out hlt (k' := (k : Nat)) (a' := (ta : Nat)) (m' := 0) (ns' := .slice A l.length c) (es' := nilV) rfl)
            have HN3 := hide (HS.out.names.keep (S' := fun b => w.heap.size + 2 ≤ b) fun b _ hs => ⟨Nat.le_trans hl2 hs, rfl⟩)
            have hpp : ((st'.code : Int) == 0) = false ∨ (((st'.code : Int) == 0) = true ∧ ((st'.t.kd : Int) == 1) = false) := by
              unfold FS.kin at hp
              simp at hp ⊢
              omega
            subst hfi
            clear HE HLt hp hok HS
            obtain ⟨v0, v1, v2, v3, v4, vf⟩ := cells5 HV3.out.var
            obtain ⟨r0, r1, r2, r3, r4, rf⟩ := cells5 HV3.out.res
            rcases hpp with q1 | ⟨q1, q2⟩
            all_goals
              go_wp2_with fail
              rw [HFin.out]
              exact dtac_ret (x := ⟨k, ta, l, 0, []⟩) (A' := none) (c' := 0) hlt HV3.out HN3.out (XsIn.nil _ _ _) rfl
end
end Go.Proofs.YtekfledccpeblaaGreatDoor

/- The document's tactic: constructor. Written by mktg.py. -/
namespace Go.Proofs.YtekfledccpeblaaGreatDoor
open Go.RowKit

section
variable {fb tb tof tc : Nat} {s : ByteArray} {w : World} {st : FS}
theorem tac_ten {n : Nat} {st : FS} (h : tacNo st = 10) : tacticF s n st = if (st.step s).kin 2 = true then (⟨tacNo st, st.t.at_, [], decV (st.step s).t.t, []⟩, (st.step s).step s) else (⟨tacNo st, st.t.at_, [], 0, []⟩, (st.step s).fail) := by
  unfold tacticF
  simp only
  rw [show (if st.kin 1 = true then wordNo st.t.t tacWords 1 else 0) = tacNo st from rfl, if_neg (by omega), if_neg (by omega), if_neg (by omega), if_neg (by omega), if_neg (by omega), if_pos h]
set_option maxRecDepth 100000 in
set_option maxHeartbeats 8000000 in
theorem dtac_ten (n : Nat) (_hnn : n ≤ 900000) (h : DR w fb s st) (hw : TWs w fb tb tof tc) (hl : st.left s < n) (hk : tacNo st = 10) :
    Calls Tryz.prog 32 #[.pointer (some ⟨fb, 0, none⟩)] w fun e w' => DQ w fb s (tacticF s n st).2 (TcR w (tacticF s n st).1) e w' := by
  obtain ⟨fin, hfin⟩ : ∃ fin, fin = tacticF s n st := ⟨_, rfl⟩
  rw [← hfin]
  rw [tac_ten hk] at hfin
  have hlt := h.lt
  have hk14 := tacNo_lt st
  obtain ⟨k, hkk⟩ : ∃ k, k = tacNo st := ⟨_, rfl⟩
  rw [← hkk] at hk hk14 hfin
  have HFin := hide hfin
  clear hfin
  have hk0 : k ≠ 0 := by omega
  obtain ⟨hp, HLa⟩ := tac_kin hkk hk0
  have hlef := FS.step_left h.ok hp.1 (by omega) (by omega)
  have q1 : ((st.code : Int) == 0) = true := by rw [hp.1]; rfl
  have q2 : ((st.t.kd : Int) == 1) = true := by rw [hp.2]; rfl
  have HLe : Hid ((st.step s).left s < n) := hide (by omega)
  have HOk := hide h.ok.step
  have HSt := hide (TD.start h st.t.at_)
  have HW := hide hw
  obtain ⟨d0, d1, d2, d3, d4, d5, d6, df⟩ := (h.alloc (.cells (tcs 0 0 nilV 0 nilV) 66)).cells
  clear d0 d1 d2 d4 d5 d6 df
  clear h hw hkk hp hlef hl
  go_enter Tryz.func32, Tryz.ntmps32
  go_upto_region 2 with fail
  clear d3
  generalize World.alloc _ (.cells (tcs 0 (st.t.at_ : Nat) nilV 0 nilV) 66) = W1 at *
  go_wp2_with fail
  go_loopg [4] 13 (fun g v wr => ∃ j : Nat, 1 ≤ j ∧ j + g = 14 ∧ v = .int .i64 (j : Nat) ∧ Hid (TD w fb s (lastOf tacList st.t.t (j - 1) : Nat) (st.t.at_ : Nat) nilV 0 nilV st wr))
  case atStart => exact ⟨1, by omega, by omega, rfl, HSt.out⟩
  case round =>
    clear HSt
    obtain ⟨j, hj1, hjg, rfl, HS⟩ := hrel
    have HW2 := hide (HW.out.touched HS.out.old)
    have g0 := HW2.out.s
    obtain ⟨c0, c1, c2, c3, c4, c5, c6, cf⟩ := HS.out.rd.cells
    clear c0 c3 c4 c6
    by_cases hj : j < 14
    · have e1 : decide ((j : Int) < 14) = true := by simp; omega
      have e2 : (j : Int) < 14 := by omega
      have gj := HW2.out.c j hj
      have HL : Hid (lastOf tacList st.t.t (j + 1 - 1) = if tacList.getD j ⟨#[]⟩ = st.t.t then j else lastOf tacList st.t.t (j - 1)) := hide (by
        obtain ⟨i, rfl⟩ : ∃ i, j = i + 1 := ⟨j - 1, by omega⟩
        rfl)
      by_cases hq : tacList.getD j ⟨#[]⟩ = st.t.t
      · have q3 := sameStr_pos hq
        rw [if_pos hq] at HL
        generalize tacList.getD j ⟨#[]⟩ = x at *
        clear hq HW2
        go_wp2_with fail
        go_quiet (fail)
        have HS2 := hide (HS.out.later hlt (below_drewN (Below.refl _ _) nq))
        obtain ⟨v0, v1, v2, v3, v4, vf⟩ := cells5 HS2.out.var
        clear v1 v2 v3 v4
        go_wp2_with fail
        go_roundg (14 - (j + 1))
        case measure => omega
        case rel => exact ⟨j + 1, by omega, by omega, by go_num, by rw [HL.out]; exact HS2.out.set hlt 0 (.int .i64 (j : Nat)) rfl⟩
      · have q3 := sameStr_neg hq
        rw [if_neg hq] at HL
        generalize tacList.getD j ⟨#[]⟩ = x at *
        clear hq HW2
        go_wp2_with fail
        go_quiet (fail)
        have HS2 := hide (HS.out.later hlt (below_drewN (Below.refl _ _) nq))
        go_wp2_with fail
        go_roundg (14 - (j + 1))
        case measure => omega
        case rel => exact ⟨j + 1, by omega, by omega, by go_num, by rw [HL.out]; exact HS2.out⟩
    · have e1 : decide ((j : Int) < 14) = false := by simp; omega
      have hj14 : j = 14 := by omega
      have HV : Hid (TD w fb s (k : Nat) (st.t.at_ : Nat) nilV 0 nilV st wr) := hide (by have := HS.out; rw [hj14, HLa.out] at this; exact this)
      obtain ⟨v0, v1, v2, v3, v4, vf⟩ := cells5 HV.out.var
      have e0 : ((k : Int) == 0) = false := by simp; omega
      have KS := hide (HV.out.step hlt)
      clear hj hjg hj1 hj14 HS HW2 HV v1 v2 v3 v4
      generalize st.t.at_ = ta at *
      generalize st.step s = st1 at *
      go_upto_region 11 with (go_at_call 14; refine KS.out.mono ?_; rintro e W2 ⟨rfl, hV2⟩; have HV2 := hide hV2; clear hV2)
      obtain ⟨v0, v1, v2, v3, v4, vf⟩ := cells5 HV2.out.var
      clear KS g0 c1 c2 c5 cf q1 q2 e0 e1 v1 v2 v3 v4
      have e1 : ((k : Int) == 1) = false := by simp; omega
      have e6 : ((k : Int) == 6) = false := by simp; omega
      have e7 : ((k : Int) == 7) = false := by simp; omega
      have e9 : ((k : Int) == 9) = false := by simp; omega
      have e2 : ((k : Int) == 2) = false := by simp; omega
      have e3 : ((k : Int) == 3) = false := by simp; omega
      have e8 : ((k : Int) == 8) = false := by simp; omega
      have e11 : ((k : Int) == 11) = false := by simp; omega
      have e10 : ((k : Int) == 10) = true := by simp; omega
      clear hk hk0 hk14
      obtain ⟨c0, c1, c2, c3, c4, c5, c6, cf⟩ := HV2.out.rd.cells
      clear c0 c3 c4 c6
      have hl2 := HV2.out.lt
      by_cases hq : st1.kin 2 = true
      · have hqq : st1.code = 0 ∧ st1.t.kd = 2 := by unfold FS.kin at hq; simpa using hq
        have q1 : ((st1.code : Int) != 0) = false := by rw [hqq.1]; rfl
        have q2 : ((st1.t.kd : Int) != 2) = false := by rw [hqq.2]; rfl
        have hnum := HV2.out.rd.num hqq.2
        have KU := hide (rnumber_calls st1.t.t W2 hnum.1 (by omega))
        have HV3 := hide (HV2.out.set hlt 3 (.int .i64 (decV st1.t.t : Nat)) (k' := (k : Nat)) (a' := (ta : Nat)) (ns' := nilV) (m' := (decV st1.t.t : Nat)) (es' := nilV) rfl)
        have KS := hide (HV3.out.step hlt)
        rw [if_pos hq] at HFin
        obtain ⟨u0, u1, u2, u3, u4, uf⟩ := cells5 HV2.out.var
        clear u0 u1 u2 u4 hq hqq hnum
        generalize decV st1.t.t = dv at *
        go_upto_region 33 with (go_at_call 51; refine KU.out.mono ?_; rintro e w' ⟨rfl, rfl⟩)
        clear v0 vf c1 c2 c5 cf u3 uf KU HV2
        generalize World.setCell _ ⟨w.heap.size + 1, 3, none⟩ _ = W3 at *
        go_upto_region 34 with (go_at_call 14; refine KS.out.mono ?_; rintro e W4 ⟨rfl, hV4⟩; have HV4 := hide hV4; clear hV4)
        clear KS HV3 q1 q2
        have HV3 := HV4
        obtain ⟨v0, v1, v2, v3, v4, vf⟩ := cells5 HV3.out.var
        obtain ⟨r0, r1, r2, r3, r4, rf⟩ := cells5 HV3.out.res
        go_wp2_with fail
        rw [HFin.out]
        exact dtac_ret (x := ⟨k, ta, [], dv, []⟩) (A := none) (A' := none) (c := 0) (c' := 0) hlt HV3.out (SsIn.nil _ _ _) (XsIn.nil _ _ _) rfl
      · have hqq : ((st1.code : Int) != 0) = true ∨ (((st1.code : Int) != 0) = false ∧ ((st1.t.kd : Int) != 2) = true) := by
          unfold FS.kin at hq
          simp at hq ⊢
          omega
        have KX := hide (HV2.out.fail hlt)
        rw [if_neg hq] at HFin
        clear hq
        rcases hqq with q1 | ⟨q1, q2⟩
        all_goals
          go_upto_region 31 with (go_at_call 26; refine KX.out.mono ?_; rintro e W4 ⟨rfl, hV4⟩; have HV4 := hide hV4; clear hV4)
          clear KX HV2 v0 vf c1 c2 c5 cf
          have HV3 := HV4
          obtain ⟨v0, v1, v2, v3, v4, vf⟩ := cells5 HV3.out.var
          obtain ⟨r0, r1, r2, r3, r4, rf⟩ := cells5 HV3.out.res
          go_wp2_with fail
          rw [HFin.out]
          exact dtac_ret (x := ⟨k, ta, [], 0, []⟩) (A := none) (A' := none) (c := 0) (c' := 0) hlt HV3.out (SsIn.nil _ _ _) (XsIn.nil _ _ _) rfl
end
end Go.Proofs.YtekfledccpeblaaGreatDoor

/- The document's tactic: no word. Written by mktg.py. -/
namespace Go.Proofs.YtekfledccpeblaaGreatDoor
open Go.RowKit

section
variable {fb tb tof tc : Nat} {s : ByteArray} {w : World} {st : FS}
theorem tac_kin0 {st : FS} {k : Nat} (hk : k = tacNo st) (h1 : st.kin 1 = true) : (st.code = 0 ∧ st.t.kd = 1) ∧ Hid (lastOf tacList st.t.t 13 = k) := by
  refine ⟨by unfold FS.kin at h1; simpa using h1, hide ?_⟩
  rw [lastOf_tac, hk]
  unfold tacNo
  rw [if_pos h1]
set_option maxRecDepth 100000 in
set_option maxHeartbeats 8000000 in
theorem dtac_zero1 (n : Nat) (_hnn : n ≤ 900000) (h : DR w fb s st) (hw : TWs w fb tb tof tc) (_hl : st.left s < n) (hk : tacNo st = 0) (hk1 : st.kin 1 = true) :
    Calls Tryz.prog 32 #[.pointer (some ⟨fb, 0, none⟩)] w fun e w' => DQ w fb s (tacticF s n st).2 (TcR w (tacticF s n st).1) e w' := by
  obtain ⟨fin, hfin⟩ : ∃ fin, fin = tacticF s n st := ⟨_, rfl⟩
  rw [← hfin]
  rw [tac_zero hk] at hfin
  have hlt := h.lt
  have hk14 := tacNo_lt st
  obtain ⟨k, hkk⟩ : ∃ k, k = tacNo st := ⟨_, rfl⟩
  rw [← hkk] at hk hk14
  have HFin := hide hfin
  clear hfin
  obtain ⟨hp, HLa⟩ := tac_kin0 hkk hk1
  have q1 : ((st.code : Int) == 0) = true := by rw [hp.1]; rfl
  have q2 : ((st.t.kd : Int) == 1) = true := by rw [hp.2]; rfl
  have HSt := hide (TD.start h st.t.at_)
  have HW := hide hw
  obtain ⟨d0, d1, d2, d3, d4, d5, d6, df⟩ := (h.alloc (.cells (tcs 0 0 nilV 0 nilV) 66)).cells
  clear d0 d1 d2 d4 d5 d6 df
  clear h hw hkk hp
  go_enter Tryz.func32, Tryz.ntmps32
  go_upto_region 2 with fail
  clear d3
  generalize World.alloc _ (.cells (tcs 0 (st.t.at_ : Nat) nilV 0 nilV) 66) = W1 at *
  go_wp2_with fail
  go_loopg [4] 13 (fun g v wr => ∃ j : Nat, 1 ≤ j ∧ j + g = 14 ∧ v = .int .i64 (j : Nat) ∧ Hid (TD w fb s (lastOf tacList st.t.t (j - 1) : Nat) (st.t.at_ : Nat) nilV 0 nilV st wr))
  case atStart => exact ⟨1, by omega, by omega, rfl, HSt.out⟩
  case round =>
    clear HSt
    obtain ⟨j, hj1, hjg, rfl, HS⟩ := hrel
    have HW2 := hide (HW.out.touched HS.out.old)
    have g0 := HW2.out.s
    obtain ⟨c0, c1, c2, c3, c4, c5, c6, cf⟩ := HS.out.rd.cells
    clear c0 c3 c4 c6
    by_cases hj : j < 14
    · have e1 : decide ((j : Int) < 14) = true := by simp; omega
      have e2 : (j : Int) < 14 := by omega
      have gj := HW2.out.c j hj
      have HL : Hid (lastOf tacList st.t.t (j + 1 - 1) = if tacList.getD j ⟨#[]⟩ = st.t.t then j else lastOf tacList st.t.t (j - 1)) := hide (by
        obtain ⟨i, rfl⟩ : ∃ i, j = i + 1 := ⟨j - 1, by omega⟩
        rfl)
      by_cases hq : tacList.getD j ⟨#[]⟩ = st.t.t
      · have q3 := sameStr_pos hq
        rw [if_pos hq] at HL
        generalize tacList.getD j ⟨#[]⟩ = x at *
        clear hq HW2
        go_wp2_with fail
        go_quiet (fail)
        have HS2 := hide (HS.out.later hlt (below_drewN (Below.refl _ _) nq))
        obtain ⟨v0, v1, v2, v3, v4, vf⟩ := cells5 HS2.out.var
        clear v1 v2 v3 v4
        go_wp2_with fail
        go_roundg (14 - (j + 1))
        case measure => omega
        case rel => exact ⟨j + 1, by omega, by omega, by go_num, by rw [HL.out]; exact HS2.out.set hlt 0 (.int .i64 (j : Nat)) rfl⟩
      · have q3 := sameStr_neg hq
        rw [if_neg hq] at HL
        generalize tacList.getD j ⟨#[]⟩ = x at *
        clear hq HW2
        go_wp2_with fail
        go_quiet (fail)
        have HS2 := hide (HS.out.later hlt (below_drewN (Below.refl _ _) nq))
        go_wp2_with fail
        go_roundg (14 - (j + 1))
        case measure => omega
        case rel => exact ⟨j + 1, by omega, by omega, by go_num, by rw [HL.out]; exact HS2.out⟩
    · have e1 : decide ((j : Int) < 14) = false := by simp; omega
      have hj14 : j = 14 := by omega
      have HV : Hid (TD w fb s (k : Nat) (st.t.at_ : Nat) nilV 0 nilV st wr) := hide (by have := HS.out; rw [hj14, HLa.out] at this; exact this)
      obtain ⟨v0, v1, v2, v3, v4, vf⟩ := cells5 HV.out.var
      have e0 : ((k : Int) == 0) = true := by simp; omega
      have KS := hide (HV.out.fail hlt)
      clear hj hjg hj1 hj14 HS HW2 HV v1 v2 v3 v4
      generalize st.t.at_ = ta at *
      go_upto_region 9 with (go_at_call 26; refine KS.out.mono ?_; rintro e W2 ⟨rfl, hV2⟩; have HV3 := hide hV2; clear hV2)
      clear v0 vf KS
      obtain ⟨v0, v1, v2, v3, v4, vf⟩ := cells5 HV3.out.var
      obtain ⟨r0, r1, r2, r3, r4, rf⟩ := cells5 HV3.out.res
      go_wp2_with fail
      subst hk
      rw [HFin.out]
      exact dtac_ret (x := ⟨0, ta, [], 0, []⟩) (A := none) (A' := none) (c := 0) (c' := 0) hlt HV3.out (SsIn.nil _ _ _) (XsIn.nil _ _ _) rfl
set_option maxRecDepth 100000 in
set_option maxHeartbeats 8000000 in
theorem dtac_zero0 (n : Nat) (h : DR w fb s st) (hw : TWs w fb tb tof tc) (hk1 : ¬ st.kin 1 = true) :
    Calls Tryz.prog 32 #[.pointer (some ⟨fb, 0, none⟩)] w fun e w' => DQ w fb s (tacticF s n st).2 (TcR w (tacticF s n st).1) e w' := by
  obtain ⟨fin, hfin⟩ : ∃ fin, fin = tacticF s n st := ⟨_, rfl⟩
  rw [← hfin]
  rw [tac_zero (by unfold tacNo; rw [if_neg hk1])] at hfin
  have HFin := hide hfin
  clear hfin
  have hlt := h.lt
  have hpp : ((st.code : Int) == 0) = false ∨ (((st.code : Int) == 0) = true ∧ ((st.t.kd : Int) == 1) = false) := by
    unfold FS.kin at hk1
    simp at hk1 ⊢
    omega
  have HSt := hide (TD.start h st.t.at_)
  have HW := hide (hw.touched HSt.out.old)
  obtain ⟨d0, d1, d2, d3, d4, d5, d6, df⟩ := (h.alloc (.cells (tcs 0 0 nilV 0 nilV) 66)).cells
  clear d0 d1 d2 d4 d5 d6 df h hw hk1
  go_enter Tryz.func32, Tryz.ntmps32
  go_upto_region 2 with fail
  clear d3
  generalize World.alloc _ (.cells (tcs 0 (st.t.at_ : Nat) nilV 0 nilV) 66) = W1 at *
  have g0 := HW.out.s
  obtain ⟨c0, c1, c2, c3, c4, c5, c6, cf⟩ := HSt.out.rd.cells
  obtain ⟨v0, v1, v2, v3, v4, vf⟩ := cells5 HSt.out.var
  have KS := hide (HSt.out.fail hlt)
  clear c0 c2 c3 c4 c6 v1 v2 v3 v4 HSt HW
  generalize st.t.at_ = ta at *
  go_wp2_with fail
  go_loopg [4] 0 (fun _ v wr => v = .int .i64 1 ∧ wr = W1)
  case atStart => exact ⟨rfl, rfl⟩
  case round =>
    obtain ⟨rfl, rfl⟩ := hrel
    rcases hpp with q1 | ⟨q1, q2⟩
    all_goals
      go_upto_region 9 with (go_at_call 26; refine KS.out.mono ?_; rintro e W2 ⟨rfl, hV2⟩; have HV3 := hide hV2; clear hV2)
      clear v0 vf KS g0 c1 c5 cf
      obtain ⟨v0, v1, v2, v3, v4, vf⟩ := cells5 HV3.out.var
      obtain ⟨r0, r1, r2, r3, r4, rf⟩ := cells5 HV3.out.res
      go_wp2_with fail
      rw [HFin.out]
      exact dtac_ret (x := ⟨0, ta, [], 0, []⟩) (A := none) (A' := none) (c := 0) (c' := 0) hlt HV3.out (SsIn.nil _ _ _) (XsIn.nil _ _ _) rfl
end
end Go.Proofs.YtekfledccpeblaaGreatDoor

/- The contract of the document's tactic. -/
namespace Go.Proofs.YtekfledccpeblaaGreatDoor
open Go.RowKit

theorem dtactic_calls {fb tb tof tc : Nat} {s : ByteArray} (n : Nat) (hnn : n ≤ 900000) (st : FS) (w : World) (h : DR w fb s st) (hw : TWs w fb tb tof tc) (hl : st.left s < n) :
    Calls Tryz.prog 32 #[.pointer (some ⟨fb, 0, none⟩)] w fun e w' => DQ w fb s (tacticF s n st).2 (TcR w (tacticF s n st).1) e w' := by
  by_cases h0 : tacNo st = 0
  · by_cases hk : st.kin 1 = true
    · exact dtac_zero1 n hnn h hw hl h0 hk
    · exact dtac_zero0 n h hw hk
  rcases tac_cases _ h0 (tacNo_lt st) with ⟨hk, -⟩ | ⟨hk, -⟩ | ⟨hk, -⟩ | ⟨hk, -⟩ | ⟨hk, -⟩ | ⟨hk, -⟩
  · exact dtac_intro n hnn h hw hl hk
  · exact dtac_name n hnn h hw hl hk
  · exact dtac_have n hnn h hw hl hk
  · exact dtac_expr n hnn h hw hl hk
  · exact dtac_ten n hnn h hw hl hk
  · exact dtac_bare n hnn h hw hl h0 hk
end Go.Proofs.YtekfledccpeblaaGreatDoor
