/- The contract of command. -/
import Derived.Test.YtockffblncdikaaGreatDoorBi
import Derived.Deep.DeepCutAuto
namespace Go.Proofs.YtockffblncdikaaGreatDoor
open Go.RowKit
set_option maxRecDepth 100000
set_option maxHeartbeats 16000000
def ld47 (v : Value) : Sem Value := Instr.loadAt 63 v
theorem ld47_eq (v : Value) : Instr.loadAt 63 v = ld47 v := rfl
def st47 (p v : Value) : Sem Unit := Instr.storeAt 63 p v
theorem st47_eq (p v : Value) : Instr.storeAt 63 p v = st47 p v := rfl
theorem Tryz.size47 : (Tryz.prog.info? 63).map (·.size) = some 26 := by kernel_rfl
theorem ld47_run {W : World} {b o : Nat} {v : Array Value} (h : W.rangeAt b o v.toList) (hz : v.size = 26) : (ld47 (.pointer (some ⟨b, o, none⟩))).run Tryz.prog W = .ok (.agg v) W := by
 exact run_loadAt_mid (P := Tryz.prog) W b o 63 v.toList _ h Tryz.underlying63 rfl (by rw [Tryz.size47]; simp [hz])
theorem st47_run {W : World} {b o : Nat} {v : Array Value} (h : W.there b o v.size) (hz : v.size = 26) (h1 : v.all (·.oneCell') = true) : (st47 (.pointer (some ⟨b, o, none⟩)) (.agg v)).run Tryz.prog W = .ok () (W.setCells b o v.toList) :=
 run_storeAt_mid (P := Tryz.prog) W b o 63 v h (by rw [Tryz.size47, hz]) h1
def ld103 (v : Value) : Sem Value := Instr.loadAt 86 v
theorem ld103_eq (v : Value) : Instr.loadAt 86 v = ld103 v := rfl
theorem Tryz.size103 : (Tryz.prog.info? 86).map (·.size) = some 12 := by kernel_rfl
theorem ld103_run {W : World} {b o : Nat} {v : Array Value} (h : W.rangeAt b o v.toList) (hz : v.size = 12) : (ld103 (.pointer (some ⟨b, o, none⟩))).run Tryz.prog W = .ok (.agg v) W := by
 exact run_loadAt_mid (P := Tryz.prog) W b o 86 v.toList _ h Tryz.underlying86 rfl (by rw [Tryz.size103]; simp [hz])
theorem Tryz.info84' : (Tryz.prog.info? 84).map (fun i => (i.zero, i.size, i.bytes)) = some (some (.agg #[.string ⟨#[]⟩, .bool false, .int .i64 0, .int .i64 0, .string ⟨#[]⟩, .bool false, .bool false, .bool false, .bool false, .slice none 0 0, .slice none 0 0]), 11, 112) := by kernel_rfl
theorem range_of_cells {W : World} {b o m : Nat} {v : Array Value} (hz : v.size = m) (h : ∀ q, q < m -> W.cell? ⟨b, o + q, none⟩ = v[q]?) : W.rangeAt b o v.toList := fun q u hq => by
 have hl : q < m := by
  rcases Nat.lt_or_ge q m with h' | h'
  . exact h'
  . rw [List.getElem?_eq_none (by simp [hz]; omega)] at hq; cases hq
 rw [h q hl]
 simpa using hq
theorem groupsN_few (s : ByteArray) (n : Nat) (E : FS -> Ex × FS) : ∀ (m : Nat) (l : List Bd) (st : FS), (groupsN s n E m l st).1.length <= l.length + m * (n + 1)
 | 0, l, st => by simp [groupsN]
 | m + 1, l, st => by
   simp only [groupsN]
   split
   . have h1 := groupsN_few s n E m (l ++ (groupF s n E st).1) (groupF s n E st).2
     have h2 : (groupF s n E st).1.length <= n + 1 := by
      unfold groupF
      simp only [List.length_map]
      have := (namesN_len s (n + 1) [] (if st.is sBrace = true then st.step s else st.must s sOpen)).1
      simpa using this
     rw [List.length_append] at h1; have h3 : (m + 1) * (n + 1) = m * (n + 1) + (n + 1) := Nat.succ_mul m (n + 1); omega
   . simp
section
variable {rb : Nat} {mv : Value} {s : ByteArray}
def CmR (w : World) (c : Cm) (e : Ending) (w' : World) : Prop := ∃ v : Array Value, e = .returned (.agg v) /\ CmIn w' (fun b => w.heap.size <= b) c v
attribute [local go_sem ↓] ld47_eq st47_eq ld43_eq st43_eq ld64_eq ld103_eq
theorem command_calls (n : Nat) (hn : n <= 900000) (st : FS) (w : World) (h : Rdy w rb mv s st) (hl : st.left s < n) :
 Calls Tryz.prog 18 #[.pointer (some ⟨rb, 0, none⟩)] w fun e w' => RX w rb mv s (commandF s n st).2 (CmR w (commandF s n st).1) e w' := by
 have H := hide h; have hlt := h.lt; have hco := h.code; have hok := h.ok; obtain ⟨fin, hfin⟩ : ∃ fin, fin = commandF s n st := ⟨_, rfl⟩; rw [<- hfin]; have HF := hide hfin
 obtain ⟨kk, tt, q1, q2, q3, -, -, -, -⟩ := h.kind; have HQ0 := hide (CQt.start h st.t.at_); obtain ⟨ta, hta⟩ : ∃ a, a = st.t.at_ := ⟨_, rfl⟩; rw [<- hta] at q2 HQ0; have HA := hide hta; clear h hfin q1 q3 hta
 have hth : ((w.alloc (.cells (zccs 0) 63)).alloc (.cells (zccs 0) 63)).there (w.heap.size + 1) 0 26 := there_of (heap_alloc2_new w _ _); have ST := st47_run (v := zccs (ta : Nat)) hth rfl (by simp [Value.oneCell'])
 go_enter Tryz.func18, Tryz.ntmps18
 go_upto_region 2 with fail
 generalize ((w.alloc (.cells (zccs 0) 63)).alloc (.cells (zccs 0) 63)).setCells (w.heap.size + 1) 0 (zccs (ta : Nat)).toList = W0 at *; clear ST hth q2; have KK := hide (commandKind_calls st W0 HQ0.out.1.rdy)
 by_cases hk0 : kindNo st = 0
 . have HX : Hid (∀ e W1, RQ W0 rb mv s st.fail (fun e _ => e = .returned (.int .i64 (kindNo st : Nat))) e W1 -> RX w rb mv s fin.2 (CmR w fin.1) e W1 /\ ∃ fb, e = .panicked [{ v := .iface 41 (.pointer (some ⟨fb, 0, none⟩)), recovered := false }]) := hide fun e W1 h1 => by
    have e3 : st.fail.code ≠ 0 := by unfold FS.fail; rw [if_pos hco]; simp
    rcases h1 with ⟨hc, _⟩ | ⟨hc, hth⟩
    . exact absurd hc e3
    . refine ⟨?_, ?_⟩
      . rw [HF.out, commandF_zero hk0]
        exact RX.bad (lost_of hc) (by rw [fp_of hc]; exact hth) HQ0.out.1.old (Bdn.refl _)
      . obtain ⟨fb, he, _⟩ := hth
        exact ⟨fb, he⟩
   rw [if_pos hk0] at KK; clear hk0
   go_wp2_with (go_at_call 25; refine KK.out.mono ?_)
   intro e W1 h1; obtain ⟨hx, fb, rfl⟩ := HX.out e W1 h1; have HY := hide hx; clear hx h1
   go_wp2_with fail
   exact ⟨rfl, HY.out⟩
 rw [if_neg hk0] at KK; have HFq := hide (HF.out.trans (commandF_eq (s := s) (n := n) hk0))
 have hk14 : 1 <= kindNo st /\ kindNo st <= 4 := by
  have : kindNo st <= 4 := by
   unfold kindNo
   split
   . have := wordNo_le (t := st.t.t) kindWords 1
     have : kindWords.length = 4 := rfl; omega
   . omega
  omega
 have hkd : st.t.kd = 3 := by
  unfold kindNo at hk0
  by_cases hq : st.kin 3 = true
  . unfold FS.kin at hq; simp at hq; exact hq.2
  . rw [if_neg hq] at hk0; exact absurd rfl hk0
 have hlef := FS.step_left hok hco (by omega) (by omega); obtain ⟨k, hk⟩ : ∃ k, k = kindNo st := ⟨_, rfl⟩; rw [<- hk] at KK hk14; obtain ⟨st1, hst1⟩ : ∃ x, x = st.step s := ⟨_, rfl⟩; rw [<- hst1] at KK hlef
 have hok1 : st1.Ok s := by rw [hst1]; exact hok.step
 obtain ⟨q, hq⟩ : ∃ x, x = st1.name s := ⟨_, rfl⟩; obtain ⟨p, hp⟩ : ∃ x, x = paramsF s n q.2 := ⟨_, rfl⟩; obtain ⟨b, hb⟩ : ∃ x, x = groupsN s n (exprN s n) n [] p.2 := ⟨_, rfl⟩
 obtain ⟨m, hm⟩ : ∃ x, x = b.2.must s sColon := ⟨_, rfl⟩; obtain ⟨t, ht⟩ : ∃ x, x = exprN s n m := ⟨_, rfl⟩; obtain ⟨r, hr⟩ : ∃ x, x = restF s n ⟨k, ta, q.1, p.1, b.1, t.1, zeroX, false, [], []⟩ t.2 := ⟨_, rfl⟩
 have HFr : Hid (fin = (r.1, r.2.must s sDot)) := hide (by rw [HFq.out]; simp only; rw [<- hst1, <- hq, <- hp, <- hb, <- hm, <- ht, <- hk, <- HA.out, <- hr])
 have hdq : Dn s st1 q.2 := by rw [hq]; exact (Dn.refl hok1).name
 have hdp : Dn s st1 p.2 := by rw [hp]; exact (paramsF_fwd n).dn hdq
 have hdb : Dn s st1 b.2 := by rw [hb]; exact (groupsN_fwd (exprN_fwd n) n []).dn hdp
 have hdm : Dn s st1 m := by rw [hm]; exact hdb.must
 have hdt : Dn s st1 t.2 := by rw [ht]; exact (exprN_fwd n).dn hdm
 have HLq : Hid (q.2.left s < n) := hide (by have := hdq.left; omega); have HLp : Hid (p.2.left s < n) := hide (by have := hdp.left; omega); have HLm : Hid (m.left s < n) := hide (by have := hdm.left; omega)
 have HLt : Hid (t.2.left s < n) := hide (by have := hdt.left; omega); have HBr : Hid (Bdn r.2 fin.2) := hide (by rw [HFr.out]; exact bdn_must _ _)
 have HBt : Hid (Bdn t.2 fin.2) := hide ((show Bdn t.2 r.2 by rw [hr]; exact restF_bfw n _ _).trans HBr.out); have HBm : Hid (Bdn m fin.2) := hide ((show Bdn m t.2 by rw [ht]; exact exprN_bfw n _).trans HBt.out)
 have HBb : Hid (Bdn b.2 fin.2) := hide ((show Bdn b.2 m by rw [hm]; exact bdn_must _ _).trans HBm.out); have HBp : Hid (Bdn p.2 fin.2) := hide ((show Bdn p.2 b.2 by rw [hb]; exact groupsN_bfw _ _ _ _).trans HBb.out)
 have HBq : Hid (Bdn q.2 fin.2) := hide ((show Bdn q.2 p.2 by rw [hp]; exact paramsF_bfw _ _).trans HBp.out)
 have HNm : Hid (∀ W, Rdy W rb mv s st1 -> Calls Tryz.prog 26 #[.pointer (some ⟨rb, 0, none⟩)] W fun e w' => RQ W rb mv s q.2 (fun e _ => e = .returned (.agg #[.int .i64 1, .int .i64 (st1.t.at_ : Nat), .string q.1])) e w') := hide fun W hW => by rw [hq]; exact nameQ hW
 have HPa : Hid (∀ W, Rdy W rb mv s q.2 -> Calls Tryz.prog 27 #[.pointer (some ⟨rb, 0, none⟩)] W fun e w' => RQ W rb mv s p.2 (SsR W p.1) e w') := hide fun W hW => by rw [hp]; exact params_calls n hn _ W hW HLq.out
 have HBo : Hid (∀ W, Rdy W rb mv s p.2 -> Calls Tryz.prog 28 #[.pointer (some ⟨rb, 0, none⟩)] W fun e w' => RX W rb mv s b.2 (BsR W b.1) e w') := hide fun W hW => by rw [hb]; exact bounds_calls n hn (expr_all n hn) _ W hW HLp.out
 have HBl : Hid (b.1.length <= 900000 * 900001) := hide (by
  have h1 := groupsN_few s n (exprN s n) n [] p.2; have h2 : n * (n + 1) <= 900000 * 900001 := Nat.mul_le_mul hn (by omega); rw [<- hb] at h1
  simp at h1
  omega)
 have HMu : Hid (∀ W, Rdy W rb mv s b.2 -> Calls Tryz.prog 29 #[.pointer (some ⟨rb, 0, none⟩), .string sColon] W fun e w' => RQ W rb mv s m (fun e _ => e = .returned (.tuple #[])) e w') := hide fun W hW => by rw [hm]; exact expectQ hW sColon
 have HEx : Hid (∀ W, Rdy W rb mv s m -> Calls Tryz.prog 30 #[.pointer (some ⟨rb, 0, none⟩)] W fun e w' => RX W rb mv s t.2 (ExR W t.1) e w') := hide fun W hW => by rw [ht]; exact expr_all n hn m W hW HLm.out
 have HRe : Hid (∀ W, CSt w rb mv s ⟨k, ta, q.1, p.1, b.1, t.1, zeroX, false, [], []⟩ t.2 W -> Calls Tryz.prog 31 #[.pointer (some ⟨rb, 0, none⟩), .pointer (some ⟨w.heap.size + 1, 0, none⟩)] W fun e w' => RX w rb mv s r.2 (BtR W rb (w.heap.size + 1) r.1) e w') := hide fun W hW => by rw [hr]; exact behindType_calls n hn w st H.out (w.heap.size + 1) (by omega) _ _ W hW.rdy hW.old hW.var hk14 HLt.out
 have HCk : Hid (st1.code = 0) := hide (by rw [hst1]; unfold FS.step; rw [if_pos hco]; exact hco); clear hq hp hb hm ht hr hst1 hdq hdp hdb hdm hdt HLq HLp HLm HLt HFq hk hlef hkd hok1 hk0 hl; obtain ⟨qn, sq⟩ := q
 obtain ⟨pl, sp⟩ := p; obtain ⟨bl, sb⟩ := b; obtain ⟨tx, stt⟩ := t; obtain ⟨rc, sr⟩ := r
 simp only at *
 go_wp2_with (go_at_call 25; refine KK.out.mono ?_)
 intro e W1 h1
 rcases h1 with ⟨hc1, rfl, hR1, hT1⟩ | ⟨hc1, hth⟩
 rotate_left
 . exact absurd HCk.out hc1
 have HQ1 := hide (HQ0.out.touched hlt hR1 hT1); obtain ⟨u, hu⟩ := HQ1.out.1.var.cell (i := 0) (by omega); have hf := HQ1.out.1.var.frozen 0; have hl1 := HQ1.out.1.lt
 have HQ2 := hide (HQ1.out.set H.out 0 (by decide) (.int .i64 (k : Nat)) fun v hv => hv.setKd k); clear hR1 hT1 KK HQ0 HQ1
 go_upto_region 3 with fail
 clear hu hf hl1; generalize W1.setCell ⟨w.heap.size + 1, 0, none⟩ (.int .i64 (k : Nat)) = W2 at *; have KN := hide (HNm.out W2 HQ2.out.1.rdy)
 go_wp2_with (go_at_call 26; refine KN.out.mono ?_)
 intro e W3 h3
 rcases h3 with ⟨hc3, rfl, hR3, hT3⟩ | ⟨hc3, hth⟩
 rotate_left
 . have HX : Hid (RX w rb mv s fin.2 (CmR w fin.1) e W3) := RX.bad (lost_of hc3) (by rw [fp_of hc3]; exact hth) HQ2.out.1.old HBq.out
   obtain ⟨fb, rfl, -⟩ := hth
   go_wp2_with fail
   exact ⟨rfl, HX.out⟩
 have HQ3 := hide (HQ2.out.touched hlt hR3 hT3); obtain ⟨u, hu⟩ := HQ3.out.1.var.cell (i := 2) (by omega); have hf := HQ3.out.1.var.frozen 2; have hl3 := HQ3.out.1.lt
 have HQ4 := hide (HQ3.out.set H.out 2 (by decide) (.string qn) fun v hv => hv.setNm qn)
 have hfd : ∀ (w : World), (Instr.field 46 (.agg #[.int .i64 1, .int .i64 (st1.t.at_ : Nat), .string qn]) 2).run Tryz.prog w = .ok (.string qn) w := fun w => by kernel_rfl
 clear hR3 hT3 KN HQ2 HQ3 HNm
 go_upto_region 4 with fail
 clear hu hf hl3 hfd; generalize W3.setCell ⟨w.heap.size + 1, 2, none⟩ (.string qn) = W4 at *; have KP := hide (HPa.out W4 HQ4.out.1.rdy)
 go_wp2_with (go_at_call 27; refine KP.out.mono ?_)
 intro e W5 h5
 rcases h5 with ⟨hc5, hG5, hR5, hT5⟩ | ⟨hc5, hth⟩
 rotate_left
 . have HX : Hid (RX w rb mv s fin.2 (CmR w fin.1) e W5) := RX.bad (lost_of hc5) (by rw [fp_of hc5]; exact hth) HQ4.out.1.old HBp.out
   obtain ⟨fb, rfl, -⟩ := hth
   go_wp2_with fail
   exact ⟨rfl, HX.out⟩
 obtain ⟨Ap, cp, rfl, hSs⟩ := hG5; have HQ5 := hide (HQ4.out.touched hlt hR5 hT5); obtain ⟨u, hu⟩ := HQ5.out.1.var.cell (i := 3) (by omega); have hf := HQ5.out.1.var.frozen 3; have hl5 := HQ5.out.1.lt
 have hl4 := HQ4.out.1.lt
 have HQ6 := hide (HQ5.out.set H.out 3 (by decide) (.slice Ap pl.length cp) fun v hv => hv.setPs (hSs.keep fun b _ hs => ⟨by have : W4.heap.size <= b := hs; show w.heap.size + 1 < b; omega, rfl⟩))
 clear hR5 hT5 KP HQ4 HQ5 HPa hSs
 go_upto_region 5 with fail
 clear hu hf hl5 hl4; generalize W5.setCell ⟨w.heap.size + 1, 3, none⟩ (.slice Ap pl.length cp) = W6 at *; have KB := hide (HBo.out W6 HQ6.out.1.rdy)
 go_wp2_with (go_at_call 28; refine KB.out.mono ?_)
 intro e W7 h7
 rcases h7 with ⟨hc7, hG7, hR7, hT7⟩ | ⟨hc7, hth⟩
 rotate_left
 . have HX : Hid (RX w rb mv s fin.2 (CmR w fin.1) e W7) := RX.bad hc7 hth HQ6.out.1.old HBb.out
   obtain ⟨fb, rfl, -⟩ := hth
   go_wp2_with fail
   exact ⟨rfl, HX.out⟩
 obtain ⟨Ab, cb, rfl, hBd⟩ := hG7; have hl6 := HQ6.out.1.lt
 have HI0 := hide (BiSt.begin (HQ6.out.touched hlt hR7 hT7) (Ab := Ab) (bl := bl) (hBd.keep fun b _ hs => ⟨by have : W6.heap.size <= b := hs; show w.heap.size + 2 <= b; omega, rfl⟩))
 obtain ⟨i0, hi, hz0, hz1, hz2⟩ := infoParts Tryz.info84'; obtain ⟨ln, hln⟩ : ∃ ln, ln = bl.length := ⟨_, rfl⟩; have HLn := hide hln; rw [<- hln] at HBl; rw [<- hln]; clear hR7 hT7 KB HQ6 HBo hBd hl6 hln
 go_wp2_with fail
 go_loopg [28] ln (fun g i wr => ∃ (l : List Bd) (A : Option Addr) (c : Nat) (ys : List Value), l.length + g = ln /\ i = .int .i64 (l.length : Nat) /\ Hid (l = bl.take l.length) /\ Hid (BiSt w W7.heap.size rb mv s ⟨k, ta, qn, pl, [], zeroX, zeroX, false, [], []⟩ bl Ab l sb A c ys wr))
 case atStart => exact ⟨[], none, 0, [], by simp, rfl, rfl, HI0.out⟩
 case round =>
  clear HI0; obtain ⟨l, A, c, ys, hlg, rfl, HLl, HI⟩ := hrel
  by_cases hj : l.length < ln
  . have hjj : decide (((l.length : Nat) : Int) < (ln : Int)) = true := by simp; omega
    have hjn : ((l.length : Nat) : Int) < ((ln : Nat) : Int) := by omega
    have hjl : l.length < bl.length := by rw [<- HLn.out]; exact hj
    obtain ⟨nb, xv, rfl, hs3, hxi, hcs⟩ := HI.out.bds l.length hjl
    have hLn : Hid (l ++ [bl[l.length]] = bl.take (l ++ [bl[l.length]]).length) := hide (by
     simp only [List.length_append, List.length_cons, List.length_nil, Nat.zero_add]
     rw [List.take_succ_eq_append_getElem hjl, <- HLl.out])
    have HXi := hide hxi; obtain ⟨kd, a, nm', ex, gi, inf, im, A1, m1, c1, A2, m2, c2, rfl⟩ := hxi.cells; rw [bcs_lit] at hcs; have hrg := range_of_cells (W := wr) (b := nb) (o := l.length * 12) (m := 12) rfl hcs
    have L3 := ld103_run hrg rfl; obtain ⟨x, hx⟩ : ∃ x, x = bl[l.length] := ⟨_, rfl⟩; rw [<- hx] at hLn HXi L3; obtain ⟨f4, ff⟩ := HI.out.four; have hle := HI.out.le; have hlv := HI.out.lt
    have hlv' : w.heap.size < wr.heap.size := by omega
    clear HLl hcs hrg hxi hs3 hx
    go_upto_region 8 with fail
    obtain ⟨W8, hW8⟩ : ∃ W8, W8 = wr.alloc (.cells #[.string x.nm, .bool x.im, .int .i64 kd, .int .i64 a, .string nm', .bool ex, .bool gi, .bool inf, .bool im, .slice A1 m1 c1, .slice A2 m2 c2, .int .i64 (x.at_ : Nat)] 86) := ⟨_, rfl⟩
    have hbx : W8.heap[wr.heap.size]? = some (.cells #[.string x.nm, .bool x.im, .int .i64 kd, .int .i64 a, .string nm', .bool ex, .bool gi, .bool inf, .bool im, .slice A1 m1 c1, .slice A2 m2 c2, .int .i64 (x.at_ : Nat)] 86 (0, 0)) := by rw [hW8]; exact heap_alloc_new _ _
    have L64 := ld64_run (W := W8) (b := wr.heap.size) (o := 0) (v := #[.string x.nm, .bool x.im, .int .i64 kd, .int .i64 a, .string nm', .bool ex, .bool gi, .bool inf, .bool im, .slice A1 m1 c1, .slice A2 m2 c2]) (range_of_cells (m := 11) rfl fun q hq => by
     rw [Nat.zero_add, cell_of_row W8 _ q _ _ _ hbx]
     match q, hq with
     | 0, _ => rfl
     | 1, _ => rfl
     | 2, _ => rfl
     | 3, _ => rfl
     | 4, _ => rfl
     | 5, _ => rfl
     | 6, _ => rfl
     | 7, _ => rfl
     | 8, _ => rfl
     | 9, _ => rfl
     | 10, _ => rfl
     | q + 11, hq => omega) rfl
    have d4 : W8.cell? ⟨w.heap.size + 1, 4, none⟩ = some (.slice A l.length c) := by rw [hW8]; exact (World.cell?_of_block (Below.heap_alloc _ _ _ hlv)).trans f4
    have HO := hide ((HI.out.row.own.alloc (.cells #[.string x.nm, .bool x.im, .int .i64 kd, .int .i64 a, .string nm', .bool ex, .bool gi, .bool inf, .bool im, .slice A1 m1 c1, .slice A2 m2 c2, .int .i64 (x.at_ : Nat)] 86)).alloc (.cells #[.string x.nm, .bool x.im, .int .i64 kd, .int .i64 a, .string nm', .bool ex, .bool gi, .bool inf, .bool im, .slice A1 m1 c1, .slice A2 m2 c2] 84))
    rw [<- hW8] at HO ⊢; have hw8l : wr.heap.size < W8.heap.size := by rw [hW8]; simp
    have hw8m : w.heap.size + 1 < W8.heap.size := by omega
    have hw8b : w.heap.size + 2 <= W8.heap.size := by omega
    have HW8 := hide hW8; have hnl := HBl.out; clear hW8 f4 L3 hbx ff
    go_wp2_with (at_builtin; refine wpList_append_placed _ rfl _ _ 55 rfl (w.heap.size + 2) 84 i0 _ 11 112 Tryz.underlying55 hi hz0 hz1 hz2 rfl (by decide) (.slice A l.length c) l.length (flat ys) rfl HO.out ⟨W8.heap.size, 0, none⟩ 1 1 [.string x.nm, .bool x.im, .int .i64 kd, .int .i64 a, .string nm', .bool ex, .bool gi, .bool inf, .bool im, .slice A1 m1 c1, .slice A2 m2 c2] rfl rfl (cells_new _ [.string x.nm, .bool x.im, .int .i64 kd, .int .i64 a, .string nm', .bool ex, .bool gi, .bool inf, .bool im, .slice A1 m1 c1, .slice A2 m2 c2] _) (by intro u hu; simp at hu; rcases hu with rfl | rfl | rfl | rfl | rfl | rfl | rfl | rfl | rfl | rfl | rfl <;> rfl) (by decide) (by unfold maxLen; omega) (by omega) (by simp; omega) ?_)
    intro v' w6 hown6 hgr6 hpl6
    have hN := HI.out.next (o' := .cells #[.string x.nm, .bool x.im, .int .i64 kd, .int .i64 a, .string nm', .bool ex, .bool gi, .bool inf, .bool im, .slice A1 m1 c1, .slice A2 m2 c2, .int .i64 (x.at_ : Nat)] 86) (o := .cells #[.string x.nm, .bool x.im, .int .i64 kd, .int .i64 a, .string nm', .bool ex, .bool gi, .bool inf, .bool im, .slice A1 m1 c1, .slice A2 m2 c2] 84) (x := x) (rv := v') (w6 := w6) H.out HXi.out (by simpa using hown6) (by rw [<- HW8.out]; exact hgr6) (by rw [<- HW8.out]; simpa using hpl6)
    obtain ⟨v0, hv0, -, hv4⟩ := HI.out.var
    have hv6 := ((hgr6.block (w.heap.size + 1) (by simp; omega) (fun e => by have := (HI.out.row.own.lt _ e.symm).1; omega)).trans (Below.heap_alloc _ _ _ (by omega))).trans ((show W8.heap[w.heap.size + 1]? = wr.heap[w.heap.size + 1]? by rw [HW8.out]; exact Below.heap_alloc _ _ _ hlv).trans hv0)
    have y4 : w6.cell? ⟨w.heap.size + 1, 4, none⟩ = some (.slice A l.length c) := cell_of hv6 4 hv4; have yf := frozen_of hv6 4; have yl : w.heap.size + 1 < w6.heap.size := (Array.getElem?_eq_some_iff.1 hv6).1
    obtain ⟨A6, c6, hv', hI6⟩ := hN; subst hv'; have HI6 := hide hI6; clear hown6 hgr6 hpl6 hv6 hv0 hv4 HO HW8 L64 d4 HI hI6 HXi
    go_wp2_with fail
    go_roundg (ln - (l.length + 1))
    case measure => omega
    case rel => exact ⟨l ++ [x], A6, c6, _, by simp; omega, by simp, hLn, HI6⟩
  . have hjj : decide (((l.length : Nat) : Int) < (ln : Int)) = false := by simp; omega
    have hll : l = bl := by rw [HLl.out, List.take_of_length_le (by rw [<- HLn.out]; omega)]
    have HC0 := hide HI.out.done; rw [hll] at HC0; have hl8 := HC0.out.lt; have KM := hide (HMu.out wr HC0.out.rdy); clear HLl hll HI HMu
    go_wp2_with (go_at_call 29; refine KM.out.mono ?_)
    intro e X1 h1
    rcases h1 with ⟨hc1, rfl, hR1, hT1⟩ | ⟨hc1, hth⟩
    rotate_left
    . have HX : Hid (RX w rb mv s fin.2 (CmR w fin.1) e X1) := RX.bad (lost_of hc1) (by rw [fp_of hc1]; exact hth) HC0.out.old HBm.out
      obtain ⟨fb, rfl, -⟩ := hth
      go_wp2_with fail
      exact ⟨rfl, HX.out⟩
    have HC1 := hide (HC0.out.touched hlt hR1 hT1); have hl9 := HC1.out.lt; have KX := hide (HEx.out X1 HC1.out.rdy); clear hR1 hT1 KM HC0 HEx
    go_wp2_with (go_at_call 30; refine KX.out.mono ?_)
    intro e X2 h2
    rcases h2 with ⟨hc2, hG2, hR2, hT2⟩ | ⟨hc2, hth⟩
    rotate_left
    . have HX : Hid (RX w rb mv s fin.2 (CmR w fin.1) e X2) := RX.bad hc2 hth HC1.out.old HBt.out
      obtain ⟨fb, rfl, -⟩ := hth
      go_wp2_with fail
      exact ⟨rfl, HX.out⟩
    obtain ⟨e2, rfl, hle2, xv, hxb, hxi⟩ := hG2; have HC2 := hide (HC1.out.touched hlt hR2 hT2); have hz2' := hT2.size
    have hxc := hxi.mono (S' := fun b => w.heap.size + 1 < b) fun b hb => by have : X1.heap.size <= b := hb; show w.heap.size + 1 < b; omega
    have ST := st43_run (HC2.out.var.there (o := 5) (m := xv.size) (by rw [hxi.size]; omega)) hxi.size hxi.one; have LX := ld43_run (W := X2) (block_range hxb) hxi.size
    have HC3 := hide (HC2.out.sets H.out 5 xv.toList fun v hv => hv.setTy hxc); have hl10 := HC2.out.lt; clear hR2 hT2 hxi hxb hxc KX HC1 HC2
    go_upto_region 12 with fail
    generalize X2.setCells (w.heap.size + 1) 5 xv.toList = X3 at *; clear ST LX; have KR := hide (HRe.out X3 HC3.out)
    go_wp2_with (go_at_call 31; refine KR.out.mono ?_)
    intro e X4 h4
    rcases h4 with ⟨hc4, ⟨rfl, hC4, hK4⟩, hR4, hT4⟩ | ⟨hc4, hth⟩
    rotate_left
    . have HX : Hid (RX w rb mv s fin.2 (CmR w fin.1) e X4) := RX.bad hc4 hth (Touched.refl _ _) HBr.out
      obtain ⟨fb, rfl, -⟩ := hth
      go_wp2_with fail
      exact ⟨rfl, HX.out⟩
    have hl11 := HC3.out.lt; have hr4 := (hK4 w.heap.size (by omega) (by omega) (by omega)).trans HC3.out.res; have HC4 : Hid (CSt w rb mv s rc sr X4) := ⟨hr4, hC4, hR4, hT4⟩
    have KD := hide (expectQ HC4.out.rdy sDot); clear hC4 hK4 hR4 hT4 KR HC3 hr4 HRe
    go_wp2_with (go_at_call 29; refine KD.out.mono ?_)
    intro e X5 h5
    rcases h5 with ⟨hc5, rfl, hR5, hT5⟩ | ⟨hc5, hth⟩
    rotate_left
    . have HX : Hid (RX w rb mv s fin.2 (CmR w fin.1) e X5) := RX.bad (lost_of hc5) (by rw [fp_of hc5]; exact hth) HC4.out.old (by rw [HFr.out]; exact Bdn.refl _)
      obtain ⟨fb, rfl, -⟩ := hth
      go_wp2_with fail
      exact ⟨rfl, HX.out⟩
    have HC5 := hide (HC4.out.touched hlt hR5 hT5); obtain ⟨v5, hv5, hm5⟩ := HC5.out.var.ex; have LF := ld47_run (W := X5) (block_range hv5) hm5.size
    have SF := st47_run (W := X5) (b := w.heap.size) (o := 0) (v := v5) (by rw [hm5.size]; exact there_of HC5.out.res) hm5.size hm5.one; have hrs := heap_setCells v5.toList 0 _ X5 HC5.out.res
    have hw5 : wrote (zccs 0) 0 v5.toList = v5 := by
     apply Array.ext'
     rw [wrote_toList v5.toList (zccs 0) 0 [] (zccs 0).toList [] (by simp) rfl (by simp [hm5.size])]
     simp
    rw [hw5] at hrs
    have HX : Hid (RX w rb mv s fin.2 (CmR w fin.1) (.returned (.agg v5)) (X5.setCells w.heap.size 0 v5.toList)) := by
     rw [HFr.out]
     exact .inl ⟨hc5, ⟨v5, rfl, hm5.keep fun b _ hs => ⟨by have : w.heap.size + 1 < b := hs; show w.heap.size <= b; omega, heap_setCells_ne (by have : w.heap.size + 1 < b := hs; omega) _ _ _⟩⟩, H.out.puts HC5.out.rdy HC5.out.old (Nat.le_refl _) _ _, HC5.out.old.setsNew (Nat.le_refl _) _ _⟩
    have HRs := hide hrs; have Hz5 := hide hm5.size; have hl12 := HC5.out.lt; clear hR5 hT5 KD HC4 HC5 hv5 hm5 hrs hw5
    go_wp2_with fail
    refine bodyPost_ret (results_cell_row rfl _ _ w.heap.size 63 v5 (0, 0) _ rfl HRs.out Tryz.underlying63 rfl (by rw [Tryz.size47, Hz5.out])) rfl ?_; exact HX.out
end
end Go.Proofs.YtockffblncdikaaGreatDoor
