/- The contract of the document's command. Written by mkco.py. -/
import Derived.Test.YtekfledccpeblaaGreatDoorCv
import Derived.Deep.DeepCutAuto

namespace Go.Proofs.YtekfledccpeblaaGreatDoor
open Go.RowKit

def ld68 (v : Value) : Sem Value := Instr.loadAt 68 v
theorem ld68_eq (v : Value) : Instr.loadAt 68 v = ld68 v := rfl
def st68 (p v : Value) : Sem Unit := Instr.storeAt 68 p v
theorem st68_eq (p v : Value) : Instr.storeAt 68 p v = st68 p v := rfl
theorem Tryz.size68 : (Tryz.prog.info? 68).map (·.size) = some 11 := by kernel_rfl
theorem ld68_run {W : World} {b o : Nat} {v : Array Value} (h : W.rangeAt b o v.toList) (hz : v.size = 11) : (ld68 (.pointer (some ⟨b, o, none⟩))).run Tryz.prog W = .ok (.agg v) W := by
  exact run_loadAt_mid (P := Tryz.prog) W b o 68 v.toList _ h Tryz.underlying68 rfl (by rw [Tryz.size68]; simp [hz])
theorem st68_run {W : World} {b o : Nat} {v : Array Value} (h : W.there b o v.size) (hz : v.size = 11) (h1 : v.all (·.oneCell') = true) : (st68 (.pointer (some ⟨b, o, none⟩)) (.agg v)).run Tryz.prog W = .ok () (W.setCells b o v.toList) :=
  run_storeAt_mid (P := Tryz.prog) W b o 68 v h (by rw [Tryz.size68, hz]) h1
/-- The words, as cells. -/
abbrev kcells : Array Value := #[.string ⟨#[]⟩, .string ⟨#[97, 120, 105, 111, 109]⟩, .string ⟨#[100, 101, 102]⟩, .string ⟨#[116, 104, 101, 111, 114, 101, 109]⟩, .string ⟨#[105, 110, 100, 117, 99, 116, 105, 118, 101]⟩]
theorem dcommas_stop {s : ByteArray} {st : FS} (h : st.is sComma = false) (m : Nat) (l : List ByteArray) : commasN s m l st = (l, st) := by
  cases m with
  | zero => rfl
  | succ m => simp only [commasN]; rw [if_neg (by rw [h]; simp)]
theorem dtactics_stop {s : ByteArray} {n : Nat} {st : FS} (h : st.is sSemi = false) (m : Nat) (l : List Tc) : tacticsN s n m l st = (l, st) := by
  cases m with
  | zero => rfl
  | succ m => simp only [tacticsN]; rw [if_neg (by rw [h]; simp)]
section
variable {fb tb tof tc : Nat} {s : ByteArray}
attribute [local go_sem ↓] ld47_eq st47_eq ld43_eq st43_eq ld64_eq ld68_eq st68_eq
set_option maxRecDepth 100000 in
set_option maxHeartbeats 16000000 in
theorem dcommand_calls (n : Nat) (hnn : n ≤ 900000) (st : FS) (w : World) (h : DR w fb s st) (hw : TWs w fb tb tof tc) (hl : st.left s < n) :
    Calls Tryz.prog 15 #[.pointer (some ⟨fb, 0, none⟩)] w fun e w' => DQ w fb s (commandF s n st).2 (CmR w (commandF s n st).1) e w' := by
  have hlt := h.lt
  obtain ⟨fin, hfin⟩ : ∃ fin, fin = commandF s n st := ⟨_, rfl⟩
  rw [← hfin]
  have HF := hide hfin
  obtain ⟨ta, hta⟩ : ∃ a, a = st.t.at_ := ⟨_, rfl⟩
  have HQ0 := hide (DCs.start h st.t.at_)
  rw [← hta] at HQ0
  have HA := hide hta
  have HW := hide hw
  have HLe := hide hl
  have HOk := hide h.ok
  obtain ⟨d0, d1, d2, d3, d4, d5, d6, df⟩ := (h.alloc (.cells (zccs 0) 47)).cells
  rw [← hta] at d3
  clear d0 d1 d2 d4 d5 d6 df
  have hth : ((w.alloc (.cells (zccs 0) 47)).alloc (.cells (zccs 0) 47)).there (w.heap.size + 1) 0 26 := there_of (heap_alloc2_new w _ _)
  have ST := st47_run (v := zccs (ta : Nat)) hth rfl (by simp [Value.oneCell'])
  clear h hfin hw hl hta
  go_enter Tryz.func15, Tryz.ntmps15
  go_upto_region 2 with fail
  generalize ((w.alloc (.cells (zccs 0) 47)).alloc (.cells (zccs 0) 47)).setCells (w.heap.size + 1) 0 (zccs (ta : Nat)).toList = W0 at *
  clear ST hth d3
  have hl0 := HQ0.out.lt
  have HQ1 := hide (HQ0.out.touched hlt (HQ0.out.rd.alloc (.cells kcells 9)) (Touched.alloc W0 fb (.cells kcells 9)))
  have HS1 : Hid (StrsAt (W0.alloc (.cells kcells 9)) W0.heap.size kindList) := StrsAt.new W0 kindList 9
  go_upto_region 3 with fail
  generalize W0.alloc (.cells kcells 9) = W1 at *
  generalize W0.heap.size = kb at *
  clear HQ0
  go_wp2_with fail
  go_loopg [5] 4 (fun g v wr => ∃ j : Nat, 1 ≤ j ∧ j + g = 5 ∧ v = .int .i64 (j : Nat) ∧ Hid (DCs w fb s { zeroC ta with kd := lastI st (j - 1) } [3, 4, 24, 25] st wr) ∧ Hid (StrsAt wr kb kindList))
  case atStart => exact ⟨1, by omega, by omega, rfl, HQ1.out, HS1.out⟩
  case round =>
    clear HQ1 HS1
    obtain ⟨j, hj1, hjg, rfl, HS, HK⟩ := hrel
    by_cases hj : j < 5
    · have e1 : decide ((j : Int) < 5) = true := by simp; omega
      have e2 : (j : Int) < 5 := by omega
      have hj' : j < kindList.length := hj
      have hk := HK.out j hj'
      have HL : Hid (lastI st (j + 1 - 1) = if st.is kindList[j] = true then j else lastI st (j - 1)) := hide (by
        obtain ⟨i, rfl⟩ : ∃ i, j = i + 1 := ⟨j - 1, by omega⟩
        show (if st.is (kindList.getD (i + 1) ⟨#[]⟩) = true then i + 1 else lastI st i) = _
        rw [List.getD_eq_getElem?_getD, List.getElem?_eq_getElem hj']
        rfl)
      have KI := hide (dis_calls HS.out.rd kindList[j])
      have hc0 := HS.out.at_.kind
      have hf0 := HS.out.at_.frozen 0
      have hcl := HS.out.lt
      generalize kindList[j] = qq at *
      by_cases hq : st.is qq = true
      · rw [hq] at KI
        rw [if_pos hq] at HL
        clear hq hj'
        have HS2 : Hid (DCs w fb s { zeroC ta with kd := j } [3, 4, 24, 25] st (wr.setCell ⟨w.heap.size + 1, 0, none⟩ (.int .i64 (j : Nat)))) := hide (HS.out.set hlt 0 (.int .i64 (j : Nat)) (by intro i hi; simp at hi; simp; omega) fun v hv => hv.setKd j)
        have HK2 : Hid (StrsAt (wr.setCell ⟨w.heap.size + 1, 0, none⟩ (.int .i64 (j : Nat))) kb kindList) := hide (fun i hi => (World.cell?_of_block (Below.heap_setCell _ _ _ _ (by show kb ≠ w.heap.size + 1; omega))).trans (HK.out i hi))
        go_wp2_with (go_at_call 25; refine KI.out.mono ?_; rintro e W3 ⟨rfl, hw⟩; rw [hw]; clear hw)
        go_roundg (5 - (j + 1))
        case measure => omega
        case rel => exact ⟨j + 1, by omega, by omega, by go_num, by rw [HL.out]; exact HS2.out, HK2.out⟩
      · rw [show st.is qq = false by simpa using hq] at KI
        rw [if_neg hq] at HL
        clear hq hj' hc0 hf0 hcl
        go_wp2_with (go_at_call 25; refine KI.out.mono ?_; rintro e W3 ⟨rfl, hw⟩; rw [hw]; clear hw)
        go_roundg (5 - (j + 1))
        case measure => omega
        case rel => exact ⟨j + 1, by omega, by omega, by go_num, by rw [HL.out]; exact HS.out, HK.out⟩
    · have e1 : decide ((j : Int) < 5) = false := by simp; omega
      have hj5 : j = 5 := by omega
      obtain ⟨k, hkk⟩ : ∃ k, k = kindNo st := ⟨_, rfl⟩
      have HQ : Hid (DCs w fb s { zeroC ta with kd := k } [3, 4, 24, 25] st wr) := hide (by have := HS.out; rw [hj5] at this; rw [hkk, ← lastI_kind]; exact this)
      have HKk := hide hkk
      clear HS HK hj hj5 hj1 hjg hkk hl0
      have hc0 := HQ.out.at_.kind
      by_cases hk0 : k = 0
      · have e0 : ((k : Int) == 0) = true := by rw [hk0]; rfl
        have KX := hide (HQ.out.fail hlt)
        have HFin : Hid (fin = ({ zeroC ta with kd := k }, st.fail)) := hide (by rw [HF.out, commandF_zero (by rw [← HKk.out]; exact hk0), hk0, HA.out]; rfl)
        clear hk0 HQ
        go_upto_region 11 with (go_at_call 26; refine KX.out.mono ?_; rintro e W2 ⟨rfl, hQ2⟩; have HQ2 := hide hQ2; clear hQ2)
        obtain ⟨v, hv, LD, ST⟩ := HQ2.out.load
        have HV := hide hv
        clear hv KX hc0 e0 e1
        go_wp2_with fail
        rw [HFin.out]
        exact HQ2.out.ret hlt HV.out rfl
      have e0 : ((k : Int) == 0) = false := by simp; omega
      have hkin : st.code = 0 ∧ st.t.kd = 3 := by
        have := HKk.out
        unfold kindNo at this
        by_cases hq : st.kin 3 = true
        · unfold FS.kin at hq; simpa using hq
        · rw [if_neg hq] at this; exact absurd this hk0
      have hlef := FS.step_left HOk.out hkin.1 (by omega) (by omega)
      have hk14 : k ≤ 4 := by
        have h1 := wordNo_le (t := st.t.t) kindWords 1
        have h2 : kindWords.length = 4 := rfl
        have := HKk.out
        unfold kindNo at this
        split at this <;> omega
      obtain ⟨st1, hst1⟩ : ∃ x, x = st.step s := ⟨_, rfl⟩
      have hok1 : st1.Ok s := by rw [hst1]; exact HOk.out.step
      obtain ⟨q, hq⟩ : ∃ x, x = st1.name s := ⟨_, rfl⟩
      obtain ⟨p, hp⟩ : ∃ x, x = paramsF s n q.2 := ⟨_, rfl⟩
      obtain ⟨b, hb⟩ : ∃ x, x = groupsN s n (exprN s n) n [] p.2 := ⟨_, rfl⟩
      obtain ⟨m, hm⟩ : ∃ x, x = b.2.must s sColon := ⟨_, rfl⟩
      obtain ⟨t, ht⟩ : ∃ x, x = exprN s n m := ⟨_, rfl⟩
      obtain ⟨r, hr⟩ : ∃ x, x = restF s n ⟨k, ta, q.1, p.1, b.1, t.1, zeroX, false, [], []⟩ t.2 := ⟨_, rfl⟩
      have HFin : Hid (fin = (r.1, r.2.must s sDot)) := hide (by
        have e := HF.out.trans (commandF_eq (s := s) (n := n) (by rw [← HKk.out]; exact hk0))
        rw [e]
        simp only
        rw [← hst1, ← hq, ← hp, ← hb, ← hm, ← ht, ← HKk.out, ← HA.out, ← hr])
      have hdq : Dn s st1 q.2 := by rw [hq]; exact (Dn.refl hok1).name
      have hdp : Dn s st1 p.2 := by rw [hp]; exact (paramsF_fwd n).dn hdq
      have hdb : Dn s st1 b.2 := by rw [hb]; exact (groupsN_fwd (exprN_fwd n) n []).dn hdp
      have hdm : Dn s st1 m := by rw [hm]; exact hdb.must
      have hdt : Dn s st1 t.2 := by rw [ht]; exact (exprN_fwd n).dn hdm
      have hl1 : st1.left s < n := by have := HLe.out; rw [hst1]; omega
      have HNm : Hid (∀ W, DR W fb s st1 → Calls Tryz.prog 27 #[.pointer (some ⟨fb, 0, none⟩)] W fun e w' => DQ W fb s q.2 (fun e _ => e = .returned (.string q.1)) e w') := hide fun W hW => by rw [hq]; exact dname_calls hW
      have HGr : Hid (∀ W, DR W fb s p.2 → Calls Tryz.prog 30 #[.pointer (some ⟨fb, 0, none⟩)] W fun e w' => DQ W fb s b.2 (BsR W b.1) e w') := hide fun W hW => by rw [hb]; exact dgroups_calls n hnn (dexpr_all n hnn) hW (by have := hdp.left; omega)
      have HBl : Hid (b.1.length ≤ 900000 * 900001) := hide (by
        have h1 := groupsN_few s n (exprN s n) n [] p.2
        have h2 : n * (n + 1) ≤ 900000 * 900001 := Nat.mul_le_mul hnn (by omega)
        rw [← hb] at h1
        simp at h1
        omega)
      have HMc : Hid (∀ W, DR W fb s b.2 → Calls Tryz.prog 29 #[.pointer (some ⟨fb, 0, none⟩), .string sColon] W fun e w' => DQ W fb s m (fun e _ => e = .returned (.tuple #[])) e w') := hide fun W hW => by rw [hm]; exact dmust_calls hW sColon
      have HEx : Hid (∀ W, DR W fb s m → Calls Tryz.prog 31 #[.pointer (some ⟨fb, 0, none⟩)] W fun e w' => DQ W fb s t.2 (DX W t.1) e w') := hide fun W hW => by rw [ht]; exact dexpr_all n hnn m W hW (by have := hdm.left; omega)
      have HLq : Hid (q.2.left s < n) := hide (by have := hdq.left; omega)
      have HLt : Hid (t.2.left s < n) := hide (by have := hdt.left; omega)
      have HOq := hide hdq.ok
      have HOt := hide hdt.ok
      have HPa := hide hp
      have HRe := hide hr
      have KS := hide (HQ.out.step hlt)
      rw [← hst1] at KS
      have HK0 := hide hk0
      have HK14 := hide hk14
      clear hq hp hb hm ht hr hst1 hdq hdp hdb hdm hdt hl1 hok1 hlef hkin hk0 hk14 HOk HLe HF HKk HA HQ
      obtain ⟨qn, sq⟩ := q
      obtain ⟨pl, sp⟩ := p
      obtain ⟨bl, sb⟩ := b
      obtain ⟨tx, stt⟩ := t
      simp only at *
      go_upto_region 13 with (go_at_call 14; refine KS.out.mono ?_; rintro e W2 ⟨rfl, hQ2⟩; have HQ2 := hide hQ2; clear hQ2)
      have KN := hide (HNm.out _ HQ2.out.rd)
      clear KS hc0 e0 e1 HNm
      go_upto_region 14 with (go_at_call 27; refine KN.out.mono ?_; rintro e W3 ⟨rfl, hd, hT⟩; have HQ3 := hide (HQ2.out.touched hlt hd hT); obtain ⟨u, hu⟩ := HQ3.out.at_.cell (i := 2) (by omega); have hf := HQ3.out.at_.frozen 2; have hl3 := HQ3.out.lt; clear hd hT)
      have HQ4 := hide (HQ3.out.set (N' := [3, 4, 24, 25]) hlt 2 (.string qn) (by intro i hi; simp at hi; simp; omega) fun v hv => hv.setNm qn)
      clear KN HQ2 HQ3 hu hf hl3
      generalize W3.setCell ⟨w.heap.size + 1, 2, none⟩ (.string qn) = W4 at *
      have KA := hide (HQ4.out.accept hlt sLevels)
      clear HQ4
      go_upto_if 46 with (go_at_call 28; refine KA.out.mono ?_; rintro e W5 ⟨rfl, hQ5⟩; have HQ5 := hide hQ5; clear hQ5)
      clear KA
      go_cut [7] (fun _ wx => Hid (DCs w fb s ⟨k, ta, qn, pl, [], zeroX, zeroX, false, [], []⟩ [4, 24, 25] sp wx))
      case first =>
        clear HGr HBl HMc HEx HLt HOt HRe HFin HK0 HK14
        by_cases hp : sq.is sLevels = true
        · have hkd := FS.is_kd hp
          have hlef := FS.step_left HOq.out hkd.1 (by omega) (by omega)
          rw [if_pos hp] at HQ5
          rw [hp]
          have HPb : Hid ((pl, sp) = ((commasN s n [((sq.step s).name s).1] ((sq.step s).name s).2).1, (commasN s n [((sq.step s).name s).1] ((sq.step s).name s).2).2.must s sUnbrace)) := hide (by have := HPa.out; unfold paramsF at this; rw [if_pos hp] at this; exact this)
          have HLn : Hid (((sq.step s).name s).2.left s < n) := hide (by have := (Dn.refl HOq.out.step).name.left; have := HLq.out; omega)
          clear hp hkd hlef HPa HLq HOq
          generalize sq.step s = sa at *
          obtain ⟨i0, hi, hz0, hz1, hz2⟩ := infoParts Tryz.info9'
          obtain ⟨v, hv, hn, hG⟩ := HQ5.out.grow (α := ByteArray) (P := StP) (T := 9) (z := 1) (i := 3) hlt (by simp)
          have HVc := hide hv
          have HNc := hide hn
          have HG := hide hG
          clear hv hn hG
          have hl2 := HQ5.out.lt
          have hlt2 := HG.out.flt
          have x0 := HG.out.cell
          have xl := HG.out.lt
          have KN := hide (dname_calls (HG.out.drew keep_StP).rd)
          generalize (sa.name s).1 = nm at *
          generalize (sa.name s).2 = st2 at *
          go_upto_region 16 with fail
          go_cut [] (fun wx => ∃ A6 c6 ys6, Hid (Gw StP 9 1 W5 fb s st2 (w.heap.size + 1) 47 3 (v.setIfInBounds 3 (.slice A6 1 c6)) [nm] A6 c6 ys6 wx))
          case first =>
            go_region_law (first
              | (refine step_val (f := 27) rfl ?_ KN.out ?_
                 · simp [go_sem]
                 intro e w5 h5
                 obtain ⟨rfl, hR5, hT5⟩ := h5
                 refine ⟨_, rfl, ?_⟩
                 have HT5 : Hid (Touched W5 fb w5) := ((Touched.refl W5 fb).drew').trans hT5
                 have HR5 := hide hR5
                 have x5 : w5.cell? ⟨(w.heap.size + 1), 3, none⟩ = some (.slice none 0 0) := (HG.out.touched keep_StP hR5 HT5.out).cell
                 have hel5 := (HG.out.touched keep_StP hR5 HT5.out).lt
                 have hz5 := HT5.out.size
                 have HO : Hid ((w5.alloc (.cells #[.string nm] 9)).ownsRow W5.heap.size 9 1 (.slice none 0 0) 0 []) := (HG.out.row.touched (KL.keeps keep_StP _) HT5.out hlt2).own.alloc (.cells #[.string nm] 9)
                 clear hR5 hT5)
              | (refine step_append_own rfl (.tmp 48) (.tmp 51) 38 rfl W5.heap.size 9 i0 _ 1 16 Tryz.underlying38 hi hz0 hz1 hz2 rfl (by decide) (.slice none 0 0) 0 [] ?_ ?_ ⟨w5.heap.size, 0, none⟩ 1 1 [.string nm] ?_ rfl ?_ ?_ (by decide) ?_ ?_ ?_ ?_
                 · rfl
                 · exact HO.out
                 · rfl
                 · exact cells_new _ _ _
                 · intro u hu; simp at hu; subst hu; rfl
                 · unfold maxLen; omega
                 · omega
                 · simp; omega
                 intro v' w6 hown6 hgr6 hpl6
                 obtain ⟨A6, c6, hv6, x6, f6, hG6⟩ := Gw.pushV (l := ([] : List ByteArray)) (A := none) (cc := 0) (v := v) (i := 3) keep_StP HG.out HR5.out HT5.out rfl rfl hown6 hgr6 hpl6
                 have hv7 : v' = .slice A6 1 c6 := hv6
                 subst hv7
                 have HG6 := hide hG6
                 clear hown6 hgr6 hpl6 hG6 hv6))
            all_goals
              have HG7 : Hid (Gw StP 9 1 W5 fb s st2 (w.heap.size + 1) 47 3 (v.setIfInBounds 3 (.slice A6 1 c6)) [nm] A6 c6 _ (w6.setCell ⟨w.heap.size + 1, 3, none⟩ (.slice A6 1 c6))) := HG6.out
              clear HG6 HO HT5 HR5 hz5 KN HG x0 xl
              go_wp2_with fail
              go_meet
              exact ⟨A6, c6, _, HG7⟩
          case rest =>
            obtain ⟨A6, c6, ys6, HG6⟩ := hcut
            clear HG x0 xl KN
            obtain ⟨fm, hfm⟩ : ∃ fm, fm = commasN s n [nm] st2 := ⟨_, rfl⟩
            rw [← hfm] at HPb
            have HFi := hide hfm
            clear hfm
            go_wp2_with fail
            go_loopg [] n (fun g wr => ∃ (l : List ByteArray) (st' : FS) (A : Option Addr) (c : Nat) (ys : List Value), Hid (commasN s g l st' = fm) ∧ Hid (st'.left s < g) ∧ l.length + g = n + 1 ∧ Hid (Gw StP 9 1 W5 fb s st' (w.heap.size + 1) 47 3 (v.setIfInBounds 3 (.slice A l.length c)) l A c ys wr))
            case atStart => exact ⟨[nm], st2, A6, c6, _, HFi.out.symm, HLn.out, by simp; omega, HG6.out⟩
            case round =>
              clear HG6 HLn HFi
              obtain ⟨l, st', A, c, ys, HE, HLt, hlen, HS⟩ := hrel
              obtain ⟨g', rfl⟩ : ∃ g', gk = g' + 1 := ⟨gk - 1, by have := HLt.out; omega⟩
              have hok := HS.out.rd.ok
              by_cases hp : st'.is sComma = true
              · have hkd := FS.is_kd hp
                have hlef := FS.step_left hok hkd.1 (by omega) (by omega)
                have hdn := (Dn.refl hok.step).name.left
                have HE2 : Hid (commasN s g' (l ++ [((st'.step s).name s).1]) ((st'.step s).name s).2 = fm) := hide (by have := HE.out; simp only [commasN] at this; rw [if_pos hp] at this; exact this)
                have HL2 : Hid (((st'.step s).name s).2.left s < g') := hide (by have := HLt.out; omega)
                have KT := hide (HS.out.yes keep_StP hp)
                clear hp hok HE HLt hlef hkd hdn HS
                generalize st'.step s = sb' at *
                go_upto_region 18 with (go_at_call 28; refine KT.out.mono ?_; rintro e W3 ⟨rfl, hG3⟩; have HG3 := hide hG3; clear hG3)
                clear KT
                have KN := hide (dname_calls (HG3.out.drew keep_StP).rd)
                generalize (sb'.name s).1 = nm at *
                generalize (sb'.name s).2 = st3 at *
                have x0 := HG3.out.cell
                have xl := HG3.out.lt
                have hlt2 := HG3.out.flt
                have hz3 := HG3.out.size
                go_region_law (first
                  | (refine step_val (f := 27) rfl ?_ KN.out ?_
                     · simp [go_sem]
                     intro e w5 h5
                     obtain ⟨rfl, hR5, hT5⟩ := h5
                     refine ⟨_, rfl, ?_⟩
                     have HT5 : Hid (Touched W3 fb w5) := ((Touched.refl W3 fb).drew').trans hT5
                     have HR5 := hide hR5
                     have x5 : w5.cell? ⟨(w.heap.size + 1), 3, none⟩ = some (.slice A l.length c) := (HG3.out.touched keep_StP hR5 HT5.out).cell
                     have hel5 := (HG3.out.touched keep_StP hR5 HT5.out).lt
                     have hz5 := HT5.out.size
                     have HO : Hid ((w5.alloc (.cells #[.string nm] 9)).ownsRow W5.heap.size 9 1 (.slice A l.length c) l.length (flat ys)) := (HG3.out.row.touched (KL.keeps keep_StP _) HT5.out hlt2).own.alloc (.cells #[.string nm] 9)
                     clear hR5 hT5)
                  | (refine step_append_own rfl (.tmp 57) (.tmp 60) 38 rfl W5.heap.size 9 i0 _ 1 16 Tryz.underlying38 hi hz0 hz1 hz2 rfl (by decide) (.slice A l.length c) l.length (flat ys) ?_ ?_ ⟨w5.heap.size, 0, none⟩ 1 1 [.string nm] ?_ rfl ?_ ?_ (by decide) ?_ ?_ ?_ ?_
                     · rfl
                     · exact HO.out
                     · rfl
                     · exact cells_new _ _ _
                     · intro u hu; simp at hu; subst hu; rfl
                     · unfold maxLen; omega
                     · omega
                     · simp; omega
                     intro v' w6 hown6 hgr6 hpl6
                     obtain ⟨A6, c6, hv6, x6, f6, hG6⟩ := Gw.pushV (l := l) (A := A) (cc := c) (v := v) (i := 3) keep_StP HG3.out HR5.out HT5.out rfl rfl hown6 hgr6 hpl6
                     have hv7 : v' = .slice A6 (l.length + 1) c6 := hv6
                     subst hv7
                     have HG6 := hide hG6
                     clear hown6 hgr6 hpl6 hG6 hv6))
                all_goals
                  have HG9 : Hid (Gw StP 9 1 W5 fb s st3 (w.heap.size + 1) 47 3 (v.setIfInBounds 3 (.slice A6 (l ++ [nm]).length c6)) (l ++ [nm]) A6 c6 (ys ++ [.agg #[.string nm]]) (w6.setCell ⟨w.heap.size + 1, 3, none⟩ (.slice A6 (l.length + 1) c6))) := HG6.out
                  clear HG6 HO HT5 HR5 hz5 KN HG3 x0 xl
                  generalize w6.setCell ⟨w.heap.size + 1, 3, none⟩ _ = W9 at *
                  go_wp2_with fail
                  go_roundg g'
                  case measure => omega
                  case rel => exact ⟨l ++ [nm], st3, A6, c6, _, HE2.out, HL2.out, by simp; omega, HG9.out⟩
              · have hp' : st'.is sComma = false := by simpa using hp
                have hfi : fm = (l, st') := by rw [← HE.out, dcommas_stop hp']
                have KT := hide (HS.out.not keep_StP hp')
                subst hfi
                clear HE HLt hp hp' hok HS
                go_upto_region 19 with (go_at_call 28; refine KT.out.mono ?_; rintro e W3 ⟨rfl, hG3⟩; have KM := hide (hG3.must keep_StP sUnbrace); clear hG3)
                clear KT
                go_wp2_with (go_at_call 29; refine KM.out.mono ?_; rintro e W4 ⟨rfl, hG4⟩; have HG4 := hide hG4; clear hG4)
                go_meet
                have hpp := HPb.out
                simp only [Prod.mk.injEq] at hpp
                obtain ⟨rfl, rfl⟩ := hpp
                exact HG4.out.dcs HQ5.out hlt HVc.out HNc.out (by intro i hi; simp at hi; simp; omega) fun h => h.setPs (HG4.out.names.keep fun b _ hs => ⟨by have : W5.heap.size ≤ b := hs; show w.heap.size + 1 < b; omega, rfl⟩)
        · have hp' : sq.is sLevels = false := by simpa using hp
          rw [if_neg hp] at HQ5
          have HPb : Hid ((pl, sp) = (([] : List ByteArray), sq)) := hide (by have := HPa.out; unfold paramsF at this; rw [if_neg hp] at this; exact this)
          rw [hp']
          clear hp hp'
          go_wp2_with fail
          go_meet
          have hpp := HPb.out
          simp only [Prod.mk.injEq] at hpp
          obtain ⟨h1, h2⟩ := hpp
          subst h1
          subst h2
          exact HQ5.out.less (by intro i hi; simp at hi ⊢; omega)
      case rest =>
        clear HQ5 HPa HLq HOq
        have HQ6 := hcut
        clear hcut
        have KG := hide (HGr.out _ HQ6.out.rd)
        have hl6 := HQ6.out.lt
        go_upto_region 21 with (go_at_call 30; refine KG.out.mono ?_; rintro e W8 ⟨⟨Ab, cb, rfl, hB⟩, hd, hT⟩; have HQ8 := hide (HQ6.out.touched hlt hd hT); have HB8 := hide (hB.keep (S' := fun b => w.heap.size + 1 < b ∧ b < W8.heap.size) fun b hb hs => ⟨⟨by have : wc.heap.size ≤ b := hs; omega, hb⟩, rfl⟩); clear hB hd hT)
        clear KG HQ6 HGr hl6
        obtain ⟨i0, hi, hz0, hz1, hz2⟩ := infoParts Tryz.info64'
        obtain ⟨v, hv, hn, hG⟩ := HQ8.out.grow (α := Bd × Array Value) (P := PrP) (T := 64) (z := 11) (i := 4) hlt (by simp)
        have HVc := hide hv
        have HNc := hide hn
        have HG := hide hG
        clear hv hn hG
        obtain ⟨ln, hln⟩ : ∃ ln, ln = bl.length := ⟨_, rfl⟩
        have HLn := hide hln
        rw [← hln] at HBl
        rw [← hln]
        clear hln
        go_wp2_with fail
        go_loopg [9] ln (fun g i wr => ∃ (l : List (Bd × Array Value)) (A : Option Addr) (c : Nat) (ys : List Value), l.length + g = ln ∧ i = .int .i64 (l.length : Nat) ∧ Hid (l.map Prod.fst = bl.take l.length) ∧ Hid (∀ j (hj : j < l.length), InX W8 (fun b => w.heap.size + 1 < b ∧ b < W8.heap.size) l[j].1.ty l[j].2) ∧ Hid (Gw PrP 64 11 W8 fb s sb (w.heap.size + 1) 47 4 (v.setIfInBounds 4 (.slice A l.length c)) l A c ys wr))
        case atStart => exact ⟨[], none, 0, [], by simp, rfl, rfl, fun j hj => absurd hj (by simp), HG.out⟩
        case round =>
          clear HG
          obtain ⟨l, A, c, ys, hlg, rfl, HLl, HXl, HS⟩ := hrel
          by_cases hj : l.length < ln
          · have hjj : decide (((l.length : Nat) : Int) < (ln : Int)) = true := by simp; omega
            have hjn : ((l.length : Nat) : Int) < ((ln : Nat) : Int) := by omega
            have hjl : l.length < bl.length := by rw [← HLn.out]; exact hj
            obtain ⟨nb, xv, rfl, hs3, hxi, hcs⟩ := HB8.out l.length hjl
            obtain ⟨bx, hbx⟩ : ∃ x, x = bl[l.length] := ⟨_, rfl⟩
            rw [← hbx] at hxi hcs
            have hLn : Hid ((l ++ [(bx, xv)]).map Prod.fst = bl.take (l ++ [(bx, xv)]).length) := hide (by
              rw [List.map_append, HLl.out, List.length_append, List.length_singleton, List.take_succ_eq_append_getElem hjl, ← hbx]
              rfl)
            have hXn : Hid (∀ j (hj : j < (l ++ [(bx, xv)]).length), InX W8 (fun b => w.heap.size + 1 < b ∧ b < W8.heap.size) (l ++ [(bx, xv)])[j].1.ty (l ++ [(bx, xv)])[j].2) := hide fun j hj => by
              rcases Nat.lt_or_ge j l.length with h | h
              · rw [List.getElem_append_left h]; exact HXl.out j h
              · have : j = l.length := by simp at hj; omega
                subst this
                rw [List.getElem_append_right (Nat.le_refl _)]
                simpa using hxi
            have hnk : wr.heap[nb]? = W8.heap[nb]? := HS.out.keep nb hs3.2 (by have := hs3.1; omega) (by have := hs3.1; omega)
            obtain ⟨kd, a, nm', ex, gi, inf, im, A1, m1, c1, A2, m2, c2, rfl⟩ := hxi.cells
            rw [bcs_lit] at hcs
            have L64 : (ld64 (.pointer (some ⟨nb, l.length * 12, none⟩))).run Tryz.prog wr.drew = .ok (.agg #[.string bx.nm, .bool bx.im, .int .i64 kd, .int .i64 a, .string nm', .bool ex, .bool gi, .bool inf, .bool im, .slice A1 m1 c1, .slice A2 m2 c2]) wr.drew :=
              ld64_run (range_block (W := wr.drew) hnk (range_of_cells (W := W8) (b := nb) (o := l.length * 12) (m := 11) (v := #[.string bx.nm, .bool bx.im, .int .i64 kd, .int .i64 a, .string nm', .bool ex, .bool gi, .bool inf, .bool im, .slice A1 m1 c1, .slice A2 m2 c2]) rfl fun q hq => by
                rw [hcs q (by omega)]
                match q, hq with
                | 0, _ => rfl
                | 1, _ => rfl
                | 2, _ => rfl
                | 3, _ => rfl
                | 4, _ => rfl
                | 5, _ => rfl
                | 6, _ => rfl
                | 7, _ => rfl
                | 8, _ => rfl
                | 9, _ => rfl
                | 10, _ => rfl)) rfl
            have HPx : Hid (PrP wr.drew (fun b => wr.heap.size ≤ b) (bx, xcs kd a nm' ex gi inf im (.slice A1 m1 c1) (.slice A2 m2 c2)) (.agg #[.string bx.nm, .bool bx.im, .int .i64 kd, .int .i64 a, .string nm', .bool ex, .bool gi, .bool inf, .bool im, .slice A1 m1 c1, .slice A2 m2 c2])) := hide (by unfold PrP; simp)
            have hbl := HBl.out
            have hnl := World.block_lt_of_cell? _ _ (hcs 0 (by omega))
            clear hxi hcs hbx HLl HXl hnk hs3
            have x0 := HS.out.cell
            have xl := HS.out.lt
            have x0d := (HS.out.drew keep_PrP).cell
            have hz8 := HS.out.size
            have HO : Hid (((wr.alloc (.cells #[.string bx.nm, .bool bx.im, .int .i64 kd, .int .i64 a, .string nm', .bool ex, .bool gi, .bool inf, .bool im, .slice A1 m1 c1, .slice A2 m2 c2] 64)).drew).ownsRow W8.heap.size 64 11 (.slice A l.length c) l.length (flat ys)) := (HS.out.drew keep_PrP).row.own.alloc (.cells #[.string bx.nm, .bool bx.im, .int .i64 kd, .int .i64 a, .string nm', .bool ex, .bool gi, .bool inf, .bool im, .slice A1 m1 c1, .slice A2 m2 c2] 64)
            go_upto_region 24 with fail
            go_region_law (first
              | (refine step_append_own rfl (.tmp 74) (.tmp 80) 39 rfl W8.heap.size 64 i0 _ 11 112 Tryz.underlying39 hi hz0 hz1 hz2 rfl (by decide) (.slice A l.length c) l.length (flat ys) ?_ ?_ ⟨wr.heap.size, 0, none⟩ 1 1 [.string bx.nm, .bool bx.im, .int .i64 kd, .int .i64 a, .string nm', .bool ex, .bool gi, .bool inf, .bool im, .slice A1 m1 c1, .slice A2 m2 c2] ?_ rfl ?_ ?_ (by decide) ?_ ?_ ?_ ?_
                 · rfl
                 · exact HO.out
                 · rfl
                 · exact cells_new wr.drew _ _
                 · intro u hu; simp at hu; rcases hu with rfl | rfl | rfl | rfl | rfl | rfl | rfl | rfl | rfl | rfl | rfl <;> rfl
                 · unfold maxLen; omega
                 · omega
                 · simp; omega
                 intro v' w6 hown6 hgr6 hpl6
                 obtain ⟨A6, c6, hv6, x6, f6, hG6⟩ := Gw.pushV (l := l) (A := A) (cc := c) (v := v) (i := 4) (w5 := wr.drew) keep_PrP HS.out (HS.out.drew keep_PrP).rd (Touched.refl wr fb).drew' HPx.out rfl hown6 hgr6 hpl6
                 have hv7 : v' = .slice A6 (l.length + 1) c6 := hv6
                 subst hv7
                 have HG6 := hide hG6
                 clear hown6 hgr6 hpl6 hG6 hv6))
            all_goals
              have HG9 : Hid (Gw PrP 64 11 W8 fb s sb (w.heap.size + 1) 47 4 (v.setIfInBounds 4 (.slice A6 (l ++ [(bx, xcs kd a nm' ex gi inf im (.slice A1 m1 c1) (.slice A2 m2 c2))]).length c6)) (l ++ [(bx, xcs kd a nm' ex gi inf im (.slice A1 m1 c1) (.slice A2 m2 c2))]) A6 c6 _ (w6.setCell ⟨w.heap.size + 1, 4, none⟩ (.slice A6 (l.length + 1) c6))) := HG6.out
              clear HG6 HO HPx L64 x0 xl x0d HS x6 f6
              generalize w6.setCell ⟨w.heap.size + 1, 4, none⟩ _ = W9 at *
              go_wp2_with fail
              go_roundg (ln - (l.length + 1))
              case measure => omega
              case rel => exact ⟨l ++ [(bx, xcs kd a nm' ex gi inf im (.slice A1 m1 c1) (.slice A2 m2 c2))], A6, c6, _, by simp only [List.length_append, List.length_singleton]; omega, by simp, hLn, hXn, HG9.out⟩
          · have hjj : decide (((l.length : Nat) : Int) < (ln : Int)) = false := by simp; omega
            have hlb : Hid (l.map Prod.fst = bl ∧ l.length = bl.length) := hide (by
              have h1 : l.length = bl.length := by rw [← HLn.out]; omega
              exact ⟨by rw [HLl.out, h1, List.take_length], h1⟩)
            have HQ9 : Hid (DCs w fb s ⟨k, ta, qn, pl, bl, zeroX, zeroX, false, [], []⟩ [24, 25] sb wr) := hide (by
              have hb : BrsIn wr (fun b => w.heap.size + 1 < b) A (l.map Prod.fst) := HS.out.pairs (fun j hj => (HXl.out j hj).keep fun b hb hs => ⟨hs.1, HS.out.keep b hs.2 (by have := hs.1; omega) (by have := hs.1; omega)⟩) (fun b hb => by have := HQ8.out.lt; show w.heap.size + 1 < b; omega)
              rw [hlb.out.1] at hb
              refine HS.out.dcs HQ8.out hlt HVc.out HNc.out (by intro i hi; simp at hi; simp; omega) fun h => ?_
              rw [hlb.out.2]
              exact h.setBs hb)
            clear HS HLl HXl hlb HB8 HQ8 HVc HNc
            have KM := hide (HMc.out _ HQ9.out.rd)
            clear HMc
            go_upto_region 26 with (go_at_call 29; refine KM.out.mono ?_; rintro e W10 ⟨rfl, hd, hT⟩; have HQ10 := hide (HQ9.out.touched hlt hd hT); clear hd hT)
            have KE := hide (HEx.out _ HQ10.out.rd)
            have hl10 := HQ10.out.lt
            clear KM HQ9 HEx hjj hj
            go_upto_region 27 with (go_at_call 31; refine KE.out.mono ?_; rintro e W11 ⟨⟨xv, rfl, hx⟩, hd, hT⟩; have HQ11 := hide (HQ10.out.touched hlt hd hT); have HX11 := hide (hx.mono (S' := fun b => w.heap.size + 1 < b) fun b hb => by have : W10.heap.size ≤ b := hb; omega); have ST := st43_run (HQ11.out.at_.there (o := 5) (m := xv.size) (by rw [hx.size]; omega)) hx.size hx.one; clear hx hd hT)
            have HQ12 : Hid (DCs w fb s ⟨k, ta, qn, pl, bl, tx, zeroX, false, [], []⟩ [24, 25] stt (W11.setCells (w.heap.size + 1) 5 xv.toList)) := hide (HQ11.out.sets hlt 5 xv.toList (by intro i hi; simp at hi; have := HX11.out.size; simp; omega) fun v hv => hv.setTy HX11.out)
            clear KE HQ10 hl10 ST HQ11 HX11
            generalize W11.setCells (w.heap.size + 1) 5 xv.toList = W12 at *
            have c0 := HQ12.out.at_.kind
            have hk0 := HK0.out
            have hk14 := HK14.out
            simp only at c0
            have hcase : k = 4 ∨ (k = 3 ∧ stt.is wBy = true) ∨ (k = 3 ∧ stt.is wBy = false) ∨ k = 2 ∨ k = 1 := by
              rcases (show k = 4 ∨ k = 3 ∨ k = 2 ∨ k = 1 by omega) with h | h | h | h
              · exact .inl h
              · cases hb : stt.is wBy
                · exact .inr (.inr (.inl ⟨h, rfl⟩))
                · exact .inr (.inl ⟨h, rfl⟩)
              · exact .inr (.inr (.inr (.inl h)))
              · exact .inr (.inr (.inr (.inr h)))
            clear HK0 HK14
            rcases hcase with h4 | ⟨h3, hb⟩ | ⟨h3, hb⟩ | h2 | h1
            · -- constructors
              have e2 : ((k : Int) == 2) = false := by simp; omega
              have e3 : ((k : Int) == 3) = false := by simp; omega
              have e4 : ((k : Int) == 4) = true := by simp; omega
              have HR : Hid (r = (⟨k, ta, qn, pl, bl, tx, zeroX, false, [], (ctorsN s n n [] stt).1⟩, (ctorsN s n n [] stt).2)) := hide (by rw [HRe.out]; unfold restF; rw [if_neg (by show ¬ (k = 2 ∨ (k = 3 ∧ _)); omega), if_neg (by show ¬ k = 3; omega), if_pos (by show k = 4; omega)])
              clear HRe h4 hk0 hk14 HOt
              obtain ⟨i1, hi1, hy0, hy1, hy2⟩ := infoParts Tryz.info68'
              obtain ⟨v, hv, hn, hG⟩ := HQ12.out.grow (α := Ct) (P := CtP) (T := 68) (z := 11) (i := 25) hlt (by simp)
              have HVc := hide hv
              have HNc := hide hn
              have HG := hide hG
              clear hv hn hG
              have hl2 := HQ12.out.lt
              obtain ⟨fm, hfm⟩ : ∃ fm, fm = ctorsN s n n [] stt := ⟨_, rfl⟩
              rw [← hfm] at HR
              have HFi := hide hfm
              clear hfm
              go_wp2_with fail
              clear c0
              go_loopg [] n (fun g wr => ∃ (l : List Ct) (st' : FS) (A : Option Addr) (c : Nat) (ys : List Value), Hid (ctorsN s n g l st' = fm) ∧ Hid (st'.left s < g) ∧ l.length + g = n ∧ Hid (Gw CtP 68 11 W12 fb s st' (w.heap.size + 1) 47 25 (v.setIfInBounds 25 (.slice A l.length c)) l A c ys wr))
              case atStart => exact ⟨[], stt, none, 0, [], HFi.out.symm, HLt.out, by simp, HG.out⟩
              case round =>
                clear HG HLt HFi
                obtain ⟨l, st', A, c, ys, HE, HLt, hlen, HS⟩ := hrel
                obtain ⟨g', rfl⟩ : ∃ g', gk = g' + 1 := ⟨gk - 1, by have := HLt.out; omega⟩
                have hok := HS.out.rd.ok
                by_cases hp : st'.is sBar = true
                · have hkd := FS.is_kd hp
                  have hlef := FS.step_left hok hkd.1 (by omega) (by omega)
                  obtain ⟨q1, hq1⟩ : ∃ q, q = (st'.step s).name s := ⟨_, rfl⟩
                  obtain ⟨q2, hq2⟩ : ∃ q, q = q1.2.must s sColon := ⟨_, rfl⟩
                  obtain ⟨q3, hq3⟩ : ∃ q, q = exprN s n q2 := ⟨_, rfl⟩
                  obtain ⟨ka, hta⟩ : ∃ ta, ta = (st'.step s).t.at_ := ⟨_, rfl⟩
                  have hct : ctorF s n (st'.step s) = (⟨q1.1, ka, q3.1⟩, q3.2) := by unfold ctorF; simp only; rw [← hq1, ← hq2, ← hq3, ← hta]
                  have HE2 : Hid (ctorsN s n g' (l ++ [⟨q1.1, ka, q3.1⟩]) q3.2 = fm) := hide (by have := HE.out; simp only [ctorsN] at this; rw [if_pos hp, hct] at this; exact this)
                  have hd1 : Dn s (st'.step s) q1.2 := by rw [hq1]; exact (Dn.refl hok.step).name
                  have hd2 : Dn s (st'.step s) q2 := by rw [hq2]; exact hd1.must
                  have hd3 : Dn s (st'.step s) q3.2 := by rw [hq3]; exact (exprN_fwd n).dn hd2
                  have HL2 : Hid (q3.2.left s < g') := hide (by have := hd3.left; have := HLt.out; omega)
                  have HNm : Hid (∀ W, DR W fb s (st'.step s) → Calls Tryz.prog 27 #[.pointer (some ⟨fb, 0, none⟩)] W fun e w' => DQ W fb s q1.2 (fun e _ => e = .returned (.string q1.1)) e w') := hide fun W hW => by rw [hq1]; exact dname_calls hW
                  have HMu : Hid (∀ W, DR W fb s q1.2 → Calls Tryz.prog 29 #[.pointer (some ⟨fb, 0, none⟩), .string sColon] W fun e w' => DQ W fb s q2 (fun e _ => e = .returned (.tuple #[])) e w') := hide fun W hW => by rw [hq2]; exact dmust_calls hW sColon
                  have HEx : Hid (∀ W, DR W fb s q2 → Calls Tryz.prog 31 #[.pointer (some ⟨fb, 0, none⟩)] W fun e w' => DQ W fb s q3.2 (DX W q3.1) e w') := hide fun W hW => by rw [hq3]; exact dexpr_all n hnn q2 W hW (by have := hd2.left; have := HLt.out; omega)
                  have KT := hide (HS.out.yes keep_CtP hp)
                  have HKa := hide hta
                  clear hp hok HE HLt hlef hkd hq1 hq2 hq3 hta hct hd1 hd2 hd3 HS
                  generalize st'.step s = sb' at *
                  obtain ⟨nm, s1⟩ := q1
                  obtain ⟨ex, s3⟩ := q3
                  simp only at *
                  go_upto_region 41 with (go_at_call 28; refine KT.out.mono ?_; rintro e W3 ⟨rfl, hG3⟩; have HG3 := hide hG3; clear hG3)
                  clear KT
                  obtain ⟨d0, d1, d2, d3, d4, d5, d6, df⟩ := HG3.out.rd.cells
                  rw [← HKa.out] at d3
                  have hC0 := CtV.start (xv := zx) HG3.out.rd ka
                  rw [ctcs_lit, ctcs_lit] at hC0
                  have hth : (W3.alloc (.cells #[.string ⟨#[]⟩, .int .i64 0, .int .i64 0, .int .i64 0, .string ⟨#[]⟩, .bool false, .bool false, .bool false, .bool false, nilV, nilV] 68)).there W3.heap.size 0 11 := there_of (heap_alloc_new W3 (.cells #[.string ⟨#[]⟩, .int .i64 0, .int .i64 0, .int .i64 0, .string ⟨#[]⟩, .bool false, .bool false, .bool false, .bool false, nilV, nilV] 68))
                  have ST := st68_run (v := #[.string ⟨#[]⟩, .int .i64 (ka : Nat), .int .i64 0, .int .i64 0, .string ⟨#[]⟩, .bool false, .bool false, .bool false, .bool false, nilV, nilV]) hth rfl (by simp [Value.oneCell'])
                  have HC0 := hide hC0
                  clear hC0 d0 d1 d2 d4 d5 d6 df
                  have hlt3 := HG3.out.rd.lt
                  have hfw3 := HG3.out.flt
                  go_upto_region 42 with fail
                  clear ST d3 hth
                  generalize World.setCells _ W3.heap.size 0 _ = W4 at *
                  generalize hkb : W3.heap.size = kb at *
                  have HKb := hide hkb
                  clear hkb
                  have KN := hide (HNm.out _ HC0.out.rd)
                  clear HNm
                  go_upto_region 43 with (go_at_call 27; refine KN.out.mono ?_; rintro e W5 ⟨rfl, hd, hT⟩; have HC1 := hide (HC0.out.touched (by have := HKb.out; omega) hd hT); have k0 := HC1.out.cell; have kf := frozen_of HC1.out.at_ 0; have kl := HC1.out.lt; clear hd hT)
                  have HC2 := hide (HC1.out.name (by have := HKb.out; omega) nm)
                  clear HC0 HC1 KN k0 kf kl
                  generalize W5.setCell ⟨kb, 0, none⟩ _ = W6 at *
                  have KM := hide (HMu.out _ HC2.out.rd)
                  clear HMu
                  go_upto_region 44 with (go_at_call 29; refine KM.out.mono ?_; rintro e W7 ⟨rfl, hd, hT⟩; have HC3 := hide (HC2.out.touched (by have := HKb.out; omega) hd hT); clear hd hT)
                  clear HC2 KM
                  have KE := hide (HEx.out _ HC3.out.rd)
                  have hz7 := HC3.out.old.size
                  have hk7 := HC3.out.lt
                  clear HEx
                  go_upto_region 45 with (go_at_call 31; refine KE.out.mono ?_; rintro e W8 ⟨⟨xv, rfl, hx⟩, hd, hT⟩; have HC4 := hide (HC3.out.touched (by have := HKb.out; omega) hd hT); have HX4 := hide hx; have ST := st43_run (W := W8) (b := kb) (o := 2) (v := xv) (by rw [hx.size]; exact HC4.out.there rfl) hx.size hx.one; have hkl := HC4.out.lt; clear hx hd hT)
                  have HC5 := hide (HC4.out.type (by have := HKb.out; omega) rfl HX4.out.size)
                  have HX5 : Hid (InX (W8.setCells kb 2 xv.toList) (fun b => kb ≤ b) ex xv) := hide (HX4.out.keep fun b hb hs => ⟨by have : W7.heap.size ≤ b := hs; show kb ≤ b; omega, heap_setCells_ne (by have : W7.heap.size ≤ b := hs; omega) _ _ _⟩)
                  clear HC3 HC4 KE ST HX4 hkl hz7 hk7
                  generalize W8.setCells kb 2 xv.toList = W9 at *
                  obtain ⟨k9, a9, n9, b9, g9, i9, m9, A9, l9, c9, B9, r9, d9, rfl⟩ := HX5.out.cells
                  have hC5 := HC5.out
                  have LD := ld68_run (block_range hC5.at_) (by simp)
                  rw [ctcs_lit] at LD
                  have HT9 : Hid (Touched W3 fb W9) := hC5.old
                  have HR9 := hide hC5.rd
                  have hkl := hC5.lt
                  have HP9 : Hid (CtP W9 (fun b => W3.heap.size ≤ b) ⟨nm, ka, ex⟩ (.agg #[.string nm, .int .i64 (ka : Nat), .int .i64 k9, .int .i64 a9, .string n9, .bool b9, .bool g9, .bool i9, .bool m9, .slice A9 l9 c9, .slice B9 r9 d9])) := hide ⟨_, HX5.out.mono fun b hb => by have : kb ≤ b := hb; have := HKb.out; omega, by rw [ctcs_lit]⟩
                  clear hC5 HC5 HX5
                  have HG9 := hide (HG3.out.touched keep_CtP HR9.out HT9.out)
                  have x0 := HG9.out.cell
                  have xl := HG9.out.lt
                  have hz3 := HG3.out.size
                  have hz9 := HT9.out.size
                  have HO : Hid ((W9.alloc (.cells #[.string nm, .int .i64 (ka : Nat), .int .i64 k9, .int .i64 a9, .string n9, .bool b9, .bool g9, .bool i9, .bool m9, .slice A9 l9 c9, .slice B9 r9 d9] 68)).ownsRow W12.heap.size 68 11 (.slice A l.length c) l.length (flat ys)) := HG9.out.row.own.alloc _
                  go_wp2_with (at_builtin; refine wpList_append_placed _ rfl _ _ 45 rfl W12.heap.size 68 i1 _ 11 112 Tryz.underlying45 hi1 hy0 hy1 hy2 rfl (by decide) (.slice A l.length c) l.length (flat ys) rfl HO.out ⟨W9.heap.size, 0, none⟩ 1 1 [.string nm, .int .i64 (ka : Nat), .int .i64 k9, .int .i64 a9, .string n9, .bool b9, .bool g9, .bool i9, .bool m9, .slice A9 l9 c9, .slice B9 r9 d9] rfl rfl (cells_new _ [.string nm, .int .i64 (ka : Nat), .int .i64 k9, .int .i64 a9, .string n9, .bool b9, .bool g9, .bool i9, .bool m9, .slice A9 l9 c9, .slice B9 r9 d9] _) (by intro u hu; simp at hu; rcases hu with rfl | rfl | rfl | rfl | rfl | rfl | rfl | rfl | rfl | rfl | rfl <;> rfl) (by decide) (by unfold maxLen; omega) (by omega) (by simp; omega) ?_)
                  intro v' w6 hown6 hgr6 hpl6
                  obtain ⟨A6, c6, hv6, x6, f6, hG6⟩ := Gw.pushV (l := l) (A := A) (cc := c) (v := v) (i := 25) (w5 := W9) keep_CtP HG3.out HR9.out HT9.out HP9.out rfl hown6 hgr6 (by simpa using hpl6)
                  subst hv6
                  have HGn : Hid (Gw CtP 68 11 W12 fb s s3 (w.heap.size + 1) 47 25 (v.setIfInBounds 25 (.slice A6 (l ++ [(⟨nm, ka, ex⟩ : Ct)]).length c6)) (l ++ [⟨nm, ka, ex⟩]) A6 c6 _ (w6.setCell ⟨w.heap.size + 1, 25, none⟩ (.slice A6 (l.length + 1) c6))) := hG6
                  have hl6 : w.heap.size + 1 < w6.heap.size := World.block_lt_of_cell? _ _ x6
                  clear hown6 hgr6 hpl6 hG6 HO HP9 LD x0 xl HG9 HG3 HT9 HR9
                  go_wp2_with fail
                  go_roundg g'
                  case measure => omega
                  case rel => exact ⟨l ++ [(⟨nm, ka, ex⟩ : Ct)], s3, A6, c6, _, HE2.out, HL2.out, by simp; omega, HGn.out⟩
                · have hp' : st'.is sBar = false := by simpa using hp
                  have hfi : fm = (l, st') := by rw [← HE.out, ctors_stop hp']
                  have HQ15 : Hid (DCs w fb s ⟨k, ta, qn, pl, bl, tx, zeroX, false, [], l⟩ [] st' wr) := hide (HS.out.dcs HQ12.out hlt HVc.out HNc.out (by intro i hi; simp at hi) fun h => h.setCts (HS.out.ctors.keep fun b _ hs => ⟨by have : W12.heap.size ≤ b := hs; show w.heap.size + 1 < b; omega, rfl⟩))
                  have KT := hide (HQ15.out.not hlt hp')
                  subst hfi
                  rw [HR.out] at HFin
                  clear HE HLt hp hp' hok HS HR HVc HNc HQ15
                  go_upto_region 46 with (go_at_call 28; refine KT.out.mono ?_; rintro e W3 ⟨rfl, hQ⟩; have HQ16 := hide hQ; clear hQ)
                  clear KT
                  have KM := hide (HQ16.out.must hlt sDot)
                  go_upto_region 47 with (go_at_call 29; refine KM.out.mono ?_; rintro e We ⟨rfl, hQ⟩; have HQe := hide hQ; clear hQ)
                  obtain ⟨v, hv, LD, ST⟩ := HQe.out.load
                  have HV := hide hv
                  clear hv KM
                  go_wp2_with fail
                  rw [HFin.out]
                  exact HQe.out.ret hlt HV.out rfl
            · -- tactics
              have e2 : ((k : Int) == 2) = false := by simp; omega
              have e3 : ((k : Int) == 3) = true := by simp; omega
              have HR : Hid (r = (⟨k, ta, qn, pl, bl, tx, zeroX, true, (tacticsN s n n [(tacticF s n (stt.step s)).1] (tacticF s n (stt.step s)).2).1, []⟩, (tacticsN s n n [(tacticF s n (stt.step s)).1] (tacticF s n (stt.step s)).2).2)) := hide (by rw [HRe.out]; unfold restF; rw [if_neg (by show ¬ (k = 2 ∨ (k = 3 ∧ stt.is wBy = false)); rw [hb]; simp; omega), if_pos (by show k = 3; omega)])
              have hkd := FS.is_kd hb
              have hlef := FS.step_left HOt.out hkd.1 (by omega) (by omega)
              have HE := hide (fun W (hW : DR W fb s (stt.step s)) (hw : TWs W fb tb tof tc) => dtactic_calls n hnn _ W hW hw (by have := HLt.out; omega))
              have hdt := tacticF_fwd (s := s) n (stt.step s) HOt.out.step
              have HLs : Hid ((tacticF s n (stt.step s)).2.left s < n) := hide (by have := hdt.left; have := HLt.out; omega)
              have KB := hide (HQ12.out.yes hlt hb)
              clear HRe HLt hkd hlef hdt h3 hb hk0 hk14 HOt
              generalize (tacticF s n (stt.step s)).1 = tx0 at *
              generalize (tacticF s n (stt.step s)).2 = st6 at *
              generalize stt.step s = st5 at *
              go_upto_region 33 with (go_at_call 28; refine KB.out.mono ?_; rintro e Wb ⟨rfl, hQ⟩; have HQb := hide hQ; obtain ⟨u, hu⟩ := hQ.at_.cell (i := 23) (by omega); have hf := hQ.at_.frozen 23; have hlb := hQ.lt; clear hQ)
              have HQv : Hid (DCs w fb s ⟨k, ta, qn, pl, bl, tx, zeroX, true, [], []⟩ [24, 25] st5 (Wb.setCell ⟨w.heap.size + 1, 23, none⟩ (.bool true))) := hide (HQb.out.set hlt 23 (.bool true) (by intro i hi; simp at hi; simp; omega) fun v hv => hv.setTac true)
              have b23 : (Wb.setCell ⟨w.heap.size + 1, 23, none⟩ (.bool true)).cell? ⟨w.heap.size + 1, 23, none⟩ = some (.bool true) := by
                obtain ⟨v, h1, h2, _⟩ := HQb.out.var
                exact cell_of (heap_setCell_same Wb _ 23 _ _ (.bool true) h1) 23 (by have := h2.size; simp [this])
              clear HQb hu hf hlb KB HQ12 c0
              generalize Wb.setCell ⟨w.heap.size + 1, 23, none⟩ (.bool true) = WV at *
              obtain ⟨i1, hi1, hy0, hy1, hy2⟩ := infoParts Tryz.info66'
              obtain ⟨v, hv, hn, hG⟩ := HQv.out.grow (α := Tc) (P := TcP) (T := 66) (z := 5) (i := 24) hlt (by simp)
              have HVc := hide hv
              have HNc := hide hn
              have HG := hide hG
              clear hv hn hG
              have hl2 := HQv.out.lt
              have hlt2 := HG.out.flt
              have x0 := HG.out.cell
              have xl := HG.out.lt
              have KN := hide (HE.out _ (HG.out.drew keep_TcP).rd (HW.out.touched ((HG.out.drew keep_TcP).oldT HQv.out)))
              clear HE
              go_upto_region 36 with fail
              clear b23
              go_cut [] (fun wx => ∃ A6 c6 ys6, Hid (Gw TcP 66 5 WV fb s st6 (w.heap.size + 1) 47 24 (v.setIfInBounds 24 (.slice A6 1 c6)) [tx0] A6 c6 ys6 wx))
              case first =>
                go_region_law (first
                  | (refine step_val (f := 32) rfl ?_ KN.out ?_
                     · simp [go_sem]
                     intro e w5 h5
                     obtain ⟨⟨av, rfl, -, hx5⟩, hR5, hT5⟩ := h5
                     have HX5 := hide hx5
                     obtain ⟨A1, c1, B1, d1, hav, -, -⟩ := hx5
                     injection hav with hav
                     subst hav
                     refine ⟨_, rfl, ?_⟩
                     have HT5 : Hid (Touched WV fb w5) := ((Touched.refl WV fb).drew').trans hT5
                     have HR5 := hide hR5
                     have x5 : w5.cell? ⟨(w.heap.size + 1), 24, none⟩ = some (.slice none 0 0) := (HG.out.touched keep_TcP hR5 HT5.out).cell
                     have hel5 := (HG.out.touched keep_TcP hR5 HT5.out).lt
                     have hz5 := HT5.out.size
                     have HO : Hid ((w5.alloc (.cells #[.int .i64 (tx0.kd : Nat), .int .i64 (tx0.at_ : Nat), .slice A1 tx0.nms.length c1, .int .i64 (tx0.num : Nat), .slice B1 tx0.xs.length d1] 66)).ownsRow WV.heap.size 66 5 (.slice none 0 0) 0 []) := (HG.out.row.touched (KL.keeps keep_TcP _) HT5.out hlt2).own.alloc (.cells #[.int .i64 (tx0.kd : Nat), .int .i64 (tx0.at_ : Nat), .slice A1 tx0.nms.length c1, .int .i64 (tx0.num : Nat), .slice B1 tx0.xs.length d1] 66)
                     clear hR5 hT5)
                  | (refine step_append_own rfl (.tmp 111) (.tmp 114) 44 rfl WV.heap.size 66 i1 _ 5 72 Tryz.underlying44 hi1 hy0 hy1 hy2 rfl (by decide) (.slice none 0 0) 0 [] ?_ ?_ ⟨w5.heap.size, 0, none⟩ 1 1 [.int .i64 (tx0.kd : Nat), .int .i64 (tx0.at_ : Nat), .slice A1 tx0.nms.length c1, .int .i64 (tx0.num : Nat), .slice B1 tx0.xs.length d1] ?_ rfl ?_ ?_ (by decide) ?_ ?_ ?_ ?_
                     · rfl
                     · exact HO.out
                     · rfl
                     · exact cells_new _ _ _
                     · intro u hu; simp at hu; rcases hu with rfl | rfl | rfl | rfl | rfl <;> rfl
                     · unfold maxLen; omega
                     · omega
                     · simp; omega
                     intro v' w6 hown6 hgr6 hpl6
                     obtain ⟨A6, c6, hv6, x6, f6, hG6⟩ := Gw.pushV (l := ([] : List Tc)) (A := none) (cc := 0) (v := v) (i := 24) keep_TcP HG.out HR5.out HT5.out HX5.out rfl hown6 hgr6 hpl6
                     have hv7 : v' = .slice A6 1 c6 := hv6
                     subst hv7
                     have HG6 := hide hG6
                     clear hown6 hgr6 hpl6 hG6 hv6))
                all_goals
                  have HG7 : Hid (Gw TcP 66 5 WV fb s st6 (w.heap.size + 1) 47 24 (v.setIfInBounds 24 (.slice A6 1 c6)) [tx0] A6 c6 _ (w6.setCell ⟨w.heap.size + 1, 24, none⟩ (.slice A6 1 c6))) := HG6.out
                  clear HG6 HO HT5 HR5 HX5 hz5 KN HG x0 xl
                  go_wp2_with fail
                  go_meet
                  exact ⟨A6, c6, _, HG7⟩
              case rest =>
                obtain ⟨A6, c6, ys6, HG6⟩ := hcut
                clear HG x0 xl KN
                obtain ⟨fm, hfm⟩ : ∃ fm, fm = tacticsN s n n [tx0] st6 := ⟨_, rfl⟩
                rw [← hfm] at HR
                have HFi := hide hfm
                clear hfm
                go_wp2_with fail
                go_loopg [] n (fun g wr => ∃ (l : List Tc) (st' : FS) (A : Option Addr) (c : Nat) (ys : List Value), Hid (tacticsN s n g l st' = fm) ∧ Hid (st'.left s < g) ∧ l.length + g = n + 1 ∧ Hid (Gw TcP 66 5 WV fb s st' (w.heap.size + 1) 47 24 (v.setIfInBounds 24 (.slice A l.length c)) l A c ys wr))
                case atStart => exact ⟨[tx0], st6, A6, c6, _, HFi.out.symm, HLs.out, by simp; omega, HG6.out⟩
                case round =>
                  clear HG6 HLs HFi
                  obtain ⟨l, st', A, c, ys, HE, HLt, hlen, HS⟩ := hrel
                  obtain ⟨g', rfl⟩ : ∃ g', gk = g' + 1 := ⟨gk - 1, by have := HLt.out; omega⟩
                  have hok := HS.out.rd.ok
                  by_cases hp : st'.is sSemi = true
                  · have hkd := FS.is_kd hp
                    have hlef := FS.step_left hok hkd.1 (by omega) (by omega)
                    have hdn := (tacticF_fwd (s := s) n (st'.step s) hok.step).left
                    have HE2 : Hid (tacticsN s n g' (l ++ [(tacticF s n (st'.step s)).1]) (tacticF s n (st'.step s)).2 = fm) := hide (by have := HE.out; simp only [tacticsN] at this; rw [if_pos hp] at this; exact this)
                    have HL2 : Hid ((tacticF s n (st'.step s)).2.left s < g') := hide (by have := HLt.out; omega)
                    have HTa := hide (fun W (hW : DR W fb s (st'.step s)) (hw : TWs W fb tb tof tc) => dtactic_calls n hnn _ W hW hw (by have := HLt.out; omega))
                    have KT := hide (HS.out.yes keep_TcP hp)
                    clear hp hok HE HLt hlef hkd hdn HS
                    generalize (tacticF s n (st'.step s)).1 = tx0 at *
                    generalize (tacticF s n (st'.step s)).2 = st3 at *
                    generalize st'.step s = sb' at *
                    go_upto_region 38 with (go_at_call 28; refine KT.out.mono ?_; rintro e W3 ⟨rfl, hG3⟩; have HG3 := hide hG3; clear hG3)
                    clear KT
                    have KN := hide (HTa.out _ (HG3.out.drew keep_TcP).rd (HW.out.touched ((HG3.out.drew keep_TcP).oldT HQv.out)))
                    clear HTa
                    have x0 := HG3.out.cell
                    have xl := HG3.out.lt
                    have hlt2 := HG3.out.flt
                    have hz3 := HG3.out.size
                    go_region_law (first
                      | (refine step_val (f := 32) rfl ?_ KN.out ?_
                         · simp [go_sem]
                         intro e w5 h5
                         obtain ⟨⟨av, rfl, -, hx5⟩, hR5, hT5⟩ := h5
                         have HX5 := hide hx5
                         obtain ⟨A1, c1, B1, d1, hav, -, -⟩ := hx5
                         injection hav with hav
                         subst hav
                         refine ⟨_, rfl, ?_⟩
                         have HT5 : Hid (Touched W3 fb w5) := ((Touched.refl W3 fb).drew').trans hT5
                         have HR5 := hide hR5
                         have x5 : w5.cell? ⟨(w.heap.size + 1), 24, none⟩ = some (.slice A l.length c) := (HG3.out.touched keep_TcP hR5 HT5.out).cell
                         have hel5 := (HG3.out.touched keep_TcP hR5 HT5.out).lt
                         have hz5 := HT5.out.size
                         have HO : Hid ((w5.alloc (.cells #[.int .i64 (tx0.kd : Nat), .int .i64 (tx0.at_ : Nat), .slice A1 tx0.nms.length c1, .int .i64 (tx0.num : Nat), .slice B1 tx0.xs.length d1] 66)).ownsRow WV.heap.size 66 5 (.slice A l.length c) l.length (flat ys)) := (HG3.out.row.touched (KL.keeps keep_TcP _) HT5.out hlt2).own.alloc (.cells #[.int .i64 (tx0.kd : Nat), .int .i64 (tx0.at_ : Nat), .slice A1 tx0.nms.length c1, .int .i64 (tx0.num : Nat), .slice B1 tx0.xs.length d1] 66)
                         clear hR5 hT5)
                      | (refine step_append_own rfl (.tmp 120) (.tmp 123) 44 rfl WV.heap.size 66 i1 _ 5 72 Tryz.underlying44 hi1 hy0 hy1 hy2 rfl (by decide) (.slice A l.length c) l.length (flat ys) ?_ ?_ ⟨w5.heap.size, 0, none⟩ 1 1 [.int .i64 (tx0.kd : Nat), .int .i64 (tx0.at_ : Nat), .slice A1 tx0.nms.length c1, .int .i64 (tx0.num : Nat), .slice B1 tx0.xs.length d1] ?_ rfl ?_ ?_ (by decide) ?_ ?_ ?_ ?_
                         · rfl
                         · exact HO.out
                         · rfl
                         · exact cells_new _ _ _
                         · intro u hu; simp at hu; rcases hu with rfl | rfl | rfl | rfl | rfl <;> rfl
                         · unfold maxLen; omega
                         · omega
                         · simp; omega
                         intro v' w6 hown6 hgr6 hpl6
                         obtain ⟨A6, c6, hv6, x6, f6, hG6⟩ := Gw.pushV (l := l) (A := A) (cc := c) (v := v) (i := 24) keep_TcP HG3.out HR5.out HT5.out HX5.out rfl hown6 hgr6 hpl6
                         have hv7 : v' = .slice A6 (l.length + 1) c6 := hv6
                         subst hv7
                         have HG6 := hide hG6
                         clear hown6 hgr6 hpl6 hG6 hv6))
                    all_goals
                      have HG9 : Hid (Gw TcP 66 5 WV fb s st3 (w.heap.size + 1) 47 24 (v.setIfInBounds 24 (.slice A6 (l ++ [tx0]).length c6)) (l ++ [tx0]) A6 c6 _ (w6.setCell ⟨w.heap.size + 1, 24, none⟩ (.slice A6 (l.length + 1) c6))) := HG6.out
                      clear HG6 HO HT5 HR5 HX5 hz5 KN HG3 x0 xl
                      generalize w6.setCell ⟨w.heap.size + 1, 24, none⟩ _ = W9 at *
                      go_wp2_with fail
                      go_roundg g'
                      case measure => omega
                      case rel => exact ⟨l ++ [tx0], st3, A6, c6, _, HE2.out, HL2.out, by simp; omega, HG9.out⟩
                  · have hp' : st'.is sSemi = false := by simpa using hp
                    have hfi : fm = (l, st') := by rw [← HE.out, dtactics_stop hp']
                    have HQ15 : Hid (DCs w fb s ⟨k, ta, qn, pl, bl, tx, zeroX, true, l, []⟩ [25] st' wr) := hide (HS.out.dcs HQv.out hlt HVc.out HNc.out (by intro i hi; simp at hi; simp; omega) fun h => h.setTcs (HS.out.tacs.keep fun b _ hs => ⟨by have : WV.heap.size ≤ b := hs; show w.heap.size + 1 < b; omega, rfl⟩))
                    have KT := hide (HQ15.out.not hlt hp')
                    subst hfi
                    rw [HR.out] at HFin
                    clear HE HLt hp hp' hok HS HR HVc HNc HQ15
                    go_upto_region 46 with (go_at_call 28; refine KT.out.mono ?_; rintro e W3 ⟨rfl, hQ⟩; have HQ16 := hide hQ; clear hQ)
                    clear KT
                    have KM := hide (HQ16.out.must hlt sDot)
                    go_upto_region 47 with (go_at_call 29; refine KM.out.mono ?_; rintro e We ⟨rfl, hQ⟩; have HQe := hide hQ; clear hQ)
                    obtain ⟨v, hv, LD, ST⟩ := HQe.out.load
                    have HV := hide hv
                    clear hv KM
                    go_wp2_with fail
                    rw [HFin.out]
                    exact HQe.out.ret hlt HV.out rfl
            · -- a theorem's value
              have e2 : ((k : Int) == 2) = false := by simp; omega
              have e3 : ((k : Int) == 3) = true := by simp; omega
              have HR : Hid (r = (⟨k, ta, qn, pl, bl, tx, (exprN s n (stt.must s sBe)).1, false, [], []⟩, (exprN s n (stt.must s sBe)).2)) := hide (by rw [HRe.out]; unfold restF; rw [if_pos (by show k = 2 ∨ (k = 3 ∧ stt.is wBy = false); simp [*])])
              rw [HR.out] at HFin
              have HE := hide (fun W (hW : DR W fb s (stt.must s sBe)) => dexpr_all (fb := fb) n hnn _ W hW (by have := ((Dn.refl HOt.out).must (q := sBe)).left; have := HLt.out; omega))
              clear HRe HR HLt
              generalize (exprN s n (stt.must s sBe)).1 = vx at *
              generalize (exprN s n (stt.must s sBe)).2 = st6 at *
              have KB := hide (HQ12.out.not hlt hb)
              clear h3 hb hk0 hk14
              go_upto_region 33 with (go_at_call 28; refine KB.out.mono ?_; rintro e Wb ⟨rfl, hQ⟩; have HQb := hide hQ; obtain ⟨u, hu⟩ := hQ.at_.cell (i := 23) (by omega); have hf := hQ.at_.frozen 23; have hlb := hQ.lt; clear hQ)
              have HQv : Hid (DCs w fb s ⟨k, ta, qn, pl, bl, tx, zeroX, false, [], []⟩ [24, 25] stt (Wb.setCell ⟨w.heap.size + 1, 23, none⟩ (.bool false))) := hide (HQb.out.set hlt 23 (.bool false) (by intro i hi; simp at hi; simp; omega) fun v hv => hv.setTac false)
              have b23 : (Wb.setCell ⟨w.heap.size + 1, 23, none⟩ (.bool false)).cell? ⟨w.heap.size + 1, 23, none⟩ = some (.bool false) := by
                obtain ⟨v, h1, h2, _⟩ := HQb.out.var
                exact cell_of (heap_setCell_same Wb _ 23 _ _ (.bool false) h1) 23 (by have := h2.size; simp [this])
              clear HQb hu hf hlb KB HQ12 c0
              generalize Wb.setCell ⟨w.heap.size + 1, 23, none⟩ (.bool false) = WV at *
              have c0 := HQv.out.at_.kind
              go_upto_region 34 with fail
              clear b23
              have KM := hide (HQv.out.must hlt sBe)
              generalize stt.must s sBe = st5 at *
              go_upto_region 35 with (go_at_call 29; refine KM.out.mono ?_; rintro e W13 ⟨rfl, hQ⟩; have HQ13 := hide hQ; clear hQ)
              have KE := hide (HE.out _ HQ13.out.rd)
              have hl13 := HQ13.out.lt
              clear KM HQv HE
              go_upto_region 46 with (go_at_call 31; refine KE.out.mono ?_; rintro e W14 ⟨⟨xv, rfl, hx⟩, hd, hT⟩; have HQ14 := hide (HQ13.out.touched hlt hd hT); have HX14 := hide (hx.mono (S' := fun b => w.heap.size + 1 < b) fun b hb => by have : W13.heap.size ≤ b := hb; omega); have ST := st43_run (HQ14.out.at_.there (o := 14) (m := xv.size) (by rw [hx.size]; omega)) hx.size hx.one; clear hx hd hT)
              have HQ15 : Hid (DCs w fb s ⟨k, ta, qn, pl, bl, tx, vx, false, [], []⟩ [24, 25] st6 (W14.setCells (w.heap.size + 1) 14 xv.toList)) := hide (HQ14.out.sets hlt 14 xv.toList (by intro i hi; simp at hi; have := HX14.out.size; simp; omega) fun v hv => hv.setVl HX14.out)
              clear KE HQ13 hl13 ST HQ14 HX14 c0
              generalize W14.setCells (w.heap.size + 1) 14 xv.toList = W15 at *
              have KM := hide (HQ15.out.must hlt sDot)
              go_upto_region 47 with (go_at_call 29; refine KM.out.mono ?_; rintro e We ⟨rfl, hQ⟩; have HQe := hide hQ; clear hQ)
              obtain ⟨v, hv, LD, ST⟩ := HQe.out.load
              have HV := hide hv
              clear hv KM
              go_wp2_with fail
              rw [HFin.out]
              exact HQe.out.ret hlt HV.out rfl
            · -- a definition's value
              have e2 : ((k : Int) == 2) = true := by simp; omega
              have HR : Hid (r = (⟨k, ta, qn, pl, bl, tx, (exprN s n (stt.must s sBe)).1, false, [], []⟩, (exprN s n (stt.must s sBe)).2)) := hide (by rw [HRe.out]; unfold restF; rw [if_pos (by show k = 2 ∨ (k = 3 ∧ stt.is wBy = false); simp [*])])
              rw [HR.out] at HFin
              have HE := hide (fun W (hW : DR W fb s (stt.must s sBe)) => dexpr_all (fb := fb) n hnn _ W hW (by have := ((Dn.refl HOt.out).must (q := sBe)).left; have := HLt.out; omega))
              clear HRe HR HLt
              generalize (exprN s n (stt.must s sBe)).1 = vx at *
              generalize (exprN s n (stt.must s sBe)).2 = st6 at *
              clear h2 hk0 hk14
              have HQv := HQ12
              clear HQ12
              go_upto_region 29 with fail
              have KM := hide (HQv.out.must hlt sBe)
              generalize stt.must s sBe = st5 at *
              go_upto_region 30 with (go_at_call 29; refine KM.out.mono ?_; rintro e W13 ⟨rfl, hQ⟩; have HQ13 := hide hQ; clear hQ)
              have KE := hide (HE.out _ HQ13.out.rd)
              have hl13 := HQ13.out.lt
              clear KM HQv HE
              go_upto_region 46 with (go_at_call 31; refine KE.out.mono ?_; rintro e W14 ⟨⟨xv, rfl, hx⟩, hd, hT⟩; have HQ14 := hide (HQ13.out.touched hlt hd hT); have HX14 := hide (hx.mono (S' := fun b => w.heap.size + 1 < b) fun b hb => by have : W13.heap.size ≤ b := hb; omega); have ST := st43_run (HQ14.out.at_.there (o := 14) (m := xv.size) (by rw [hx.size]; omega)) hx.size hx.one; clear hx hd hT)
              have HQ15 : Hid (DCs w fb s ⟨k, ta, qn, pl, bl, tx, vx, false, [], []⟩ [24, 25] st6 (W14.setCells (w.heap.size + 1) 14 xv.toList)) := hide (HQ14.out.sets hlt 14 xv.toList (by intro i hi; simp at hi; have := HX14.out.size; simp; omega) fun v hv => hv.setVl HX14.out)
              clear KE HQ13 hl13 ST HQ14 HX14 c0
              generalize W14.setCells (w.heap.size + 1) 14 xv.toList = W15 at *
              have KM := hide (HQ15.out.must hlt sDot)
              go_upto_region 47 with (go_at_call 29; refine KM.out.mono ?_; rintro e We ⟨rfl, hQ⟩; have HQe := hide hQ; clear hQ)
              obtain ⟨v, hv, LD, ST⟩ := HQe.out.load
              have HV := hide hv
              clear hv KM
              go_wp2_with fail
              rw [HFin.out]
              exact HQe.out.ret hlt HV.out rfl
            · -- nothing more
              have e2 : ((k : Int) == 2) = false := by simp; omega
              have e3 : ((k : Int) == 3) = false := by simp; omega
              have e4 : ((k : Int) == 4) = false := by simp; omega
              have HR : Hid (r = (⟨k, ta, qn, pl, bl, tx, zeroX, false, [], []⟩, stt)) := hide (by rw [HRe.out]; unfold restF; rw [if_neg (by show ¬ (k = 2 ∨ (k = 3 ∧ _)); omega), if_neg (by show ¬ k = 3; omega), if_neg (by show ¬ k = 4; omega)])
              rw [HR.out] at HFin
              clear h1 hk0 hk14 HRe HR
              go_upto_region 46 with fail
              clear c0 e2 e3 e4
              have KM := hide (HQ12.out.must hlt sDot)
              go_upto_region 47 with (go_at_call 29; refine KM.out.mono ?_; rintro e We ⟨rfl, hQ⟩; have HQe := hide hQ; clear hQ)
              obtain ⟨v, hv, LD, ST⟩ := HQe.out.load
              have HV := hide hv
              clear hv KM
              go_wp2_with fail
              rw [HFin.out]
              exact HQe.out.ret hlt HV.out rfl
end
end Go.Proofs.YtekfledccpeblaaGreatDoor
