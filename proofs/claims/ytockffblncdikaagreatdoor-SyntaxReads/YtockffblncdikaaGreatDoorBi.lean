/- While the binders of a command are put into it. No walk. -/
import Derived.Test.YtockffblncdikaaGreatDoorCn
namespace Go.Proofs.YtockffblncdikaaGreatDoor
open Go.RowKit
set_option maxRecDepth 100000
set_option maxHeartbeats 16000000
section
variable {rb : Nat} {mv : Value} {s : ByteArray}
def BtR (w : World) (rb cb : Nat) (c : Cm) (e : Ending) (w' : World) : Prop := e = .returned (.tuple #[]) /\ CmAt w' cb c /\ ∀ b, b < w.heap.size -> b ≠ rb -> b ≠ cb -> w'.heap[b]? = w.heap[b]?
attribute [local go_sem ↓] ld43_eq st43_eq
theorem behindType_calls (n : Nat) (hn : n <= 900000) (w0 : World) (st0 : FS) (h0 : Rdy w0 rb mv s st0) (cb : Nat) (hcb : w0.heap.size <= cb) (c : Cm) (st : FS) (w : World) (h : Rdy w rb mv s st) (hT : Touched w0 rb w) (hC : CmAt w cb c) (hk : 1 <= c.kd /\ c.kd <= 4) (hl : st.left s < n) :
 Calls Tryz.prog 31 #[.pointer (some ⟨rb, 0, none⟩), .pointer (some ⟨cb, 0, none⟩)] w fun e w' => RX w0 rb mv s (restF s n c st).2 (BtR w rb cb (restF s n c st).1) e w' := by
 have H0 := hide h0; have H := hide h; have HT := hide hT; have HC := hide hC; have hlt := h0.lt; have hco := h.code; have hok := h.ok; have hrc : rb < cb := by omega
 have hlc := hC.lt; have hc0 := hC.kind; obtain ⟨fin, hfin⟩ : ∃ fin, fin = restF s n c st := ⟨_, rfl⟩; rw [<- hfin]; obtain ⟨kd, hkd⟩ : ∃ kd, kd = c.kd := ⟨_, rfl⟩; rw [<- hkd] at hc0 hk; clear h0 h hT hC
 have hcase : kd = 4 \/ (kd = 3 /\ st.is wBy = true) \/ (kd = 3 /\ st.is wBy = false) \/ kd = 2 \/ kd = 1 := by
  rcases (show kd = 4 \/ kd = 3 \/ kd = 2 \/ kd = 1 by omega) with h | h | h | h
  . exact .inl h
  . cases hb : st.is wBy
    . exact .inr (.inr (.inl ⟨h, rfl⟩))
    . exact .inr (.inl ⟨h, rfl⟩)
  . exact .inr (.inr (.inr (.inl h)))
  . exact .inr (.inr (.inr (.inr h)))
 rcases hcase with h4 | ⟨h3, hb⟩ | ⟨h3, hb⟩ | h2 | h1
 . -- constructors
   have HF : Hid (fin = ({ c with cts := (ctorsN s n n [] st).1 }, (ctorsN s n n [] st).2)) := hide (by rw [hfin]; unfold restF; rw [if_neg (by omega), if_neg (by omega), if_pos (by omega)])
   have e4 : ((kd : Int) == 4) = true := by simp; omega
   have KC := hide (ctors_calls n hn st w H.out hl); clear hfin h4 hkd hl; generalize (ctorsN s n n [] st).1 = l at *; generalize (ctorsN s n n [] st).2 = st1 at *
   go_enter Tryz.func31, Tryz.ntmps31
   go_wp2_with (go_at_call 47; refine KC.out.mono ?_)
   intro e W1 h1
   rcases h1 with ⟨hc1, hG1, hR1, hT1⟩ | ⟨hc1, hth⟩
   rotate_left
   . have HX : Hid (RX w0 rb mv s fin.2 (BtR w rb cb fin.1) e W1) := RX.bad hc1 hth HT.out (by rw [HF.out]; exact Bdn.refl _)
     obtain ⟨fb, rfl, -⟩ := hth
     go_wp2_with fail
     exact ⟨rfl, HX.out⟩
   obtain ⟨A, cc, rfl, hL⟩ := hG1; have hC1 := HC.out.touched hT1 hrc; obtain ⟨u, hu⟩ := hC1.cell (i := 25) (by omega); have hf := hC1.frozen 25; have hl1 := hC1.lt
   have HX : Hid (RX w0 rb mv s fin.2 (BtR w rb cb fin.1) (.returned (.tuple #[])) (W1.setCell ⟨cb, 25, none⟩ (.slice A l.length cc))) := by
    rw [HF.out]; have hT2 := HT.out.trans hT1
    exact .inl ⟨hc1, ⟨rfl, hC1.set 25 _ fun v hv => hv.setCts (hL.keep fun b _ hs => ⟨by have : w.heap.size <= b := hs; show cb < b; omega, rfl⟩), fun b hb h1 h2 => (Below.heap_setCell _ _ _ _ h2).trans (hT1.at hb h1)⟩, H0.out.put hR1 hT2 hcb _ _, hT2.setNew (a := ⟨cb, 25, none⟩) hcb _⟩
   clear hC1 hR1 hT1 hL KC
   go_wp2_with fail
   refine bodyPost_ret (results_none rfl _ _ _) rfl ?_; exact HX.out
 . -- tactics
   have HF : Hid (fin = ({ c with tac := true, tcs := (tacticsN s n n [(tacticF s n (st.step s)).1] (tacticF s n (st.step s)).2).1 }, (tacticsN s n n [(tacticF s n (st.step s)).1] (tacticF s n (st.step s)).2).2)) := hide (by rw [hfin]; unfold restF; rw [if_neg (by rintro (h | ⟨_, h⟩); omega; rw [hb] at h; simp at h), if_pos (by omega)])
   have e4 : ((kd : Int) == 4) = false := by simp; omega
   have e3 : ((kd : Int) == 3) = true := by simp; omega
   have K1 := hide (tookQ H.out wBy); have hkd2 := (FS.is_kd hb).2.1; have hlef := FS.step_left hok hco (by omega) (by omega)
   have HP : Hid (∀ W, Rdy W rb mv s (st.step s) -> Calls Tryz.prog 48 #[.pointer (some ⟨rb, 0, none⟩)] W fun e w' => RX W rb mv s (tacticsN s n n [(tacticF s n (st.step s)).1] (tacticF s n (st.step s)).2).2 (TcsR W (tacticsN s n n [(tacticF s n (st.step s)).1] (tacticF s n (st.step s)).2).1) e w') := hide fun W hW => proof_calls n hn _ W hW (by omega) (step_tac hok hco)
   rw [hb, if_pos rfl] at K1; clear hfin h3 hkd hl hb hkd2 hlef; generalize (tacticsN s n n [(tacticF s n (st.step s)).1] (tacticF s n (st.step s)).2).1 = l at *
   generalize (tacticsN s n n [(tacticF s n (st.step s)).1] (tacticF s n (st.step s)).2).2 = st1 at *; generalize st.step s = sta at *
   go_enter Tryz.func31, Tryz.ntmps31
   go_wp2_with (go_at_call 38; refine K1.out.mono ?_)
   first | (intro e W1 he hR1 hT1; subst he) | (rintro e W1 ⟨rfl, hR1, hT1⟩)
   have hC1 := HC.out.touched hT1 hrc; obtain ⟨u, hu⟩ := hC1.cell (i := 23) (by omega); have hf := hC1.frozen 23; have hl1 := hC1.lt; have hT1' := HT.out.trans hT1
   have HC2 := hide (hC1.set 23 (.bool true) fun v hv => hv.setTac true); have HR2 := hide (H0.out.put hR1 hT1' hcb 23 (.bool true)); have HT2 := hide (hT1'.setNew (a := ⟨cb, 23, none⟩) hcb (.bool true))
   have KP := hide (HP.out _ HR2.out); have hz2 : (W1.setCell ⟨cb, 23, none⟩ (.bool true)).heap.size = W1.heap.size := by simp [World.setCell]
   have hz1 := hT1.size
   have HKe : Hid (∀ b, b < w.heap.size -> b ≠ rb -> b ≠ cb -> (W1.setCell ⟨cb, 23, none⟩ (.bool true)).heap[b]? = w.heap[b]?) := hide fun b hb h1 h2 => (Below.heap_setCell _ _ _ _ h2).trans (hT1.at hb h1)
   clear hC1 hR1 hT1 hT1' K1 HP
   go_upto_region 4 with fail
   clear hu hf; generalize W1.setCell ⟨cb, 23, none⟩ (.bool true) = W2 at *
   go_wp2_with (go_at_call 48; refine KP.out.mono ?_)
   intro e W3 h3
   rcases h3 with ⟨hc3, hG3, hR3, hT3⟩ | ⟨hc3, hth⟩
   rotate_left
   . have HX : Hid (RX w0 rb mv s fin.2 (BtR w rb cb fin.1) e W3) := RX.bad hc3 hth HT2.out (by rw [HF.out]; exact Bdn.refl _)
     obtain ⟨fb, rfl, -⟩ := hth
     go_wp2_with fail
     exact ⟨rfl, HX.out⟩
   obtain ⟨A, cc, rfl, hL⟩ := hG3; have hC3 := HC2.out.touched hT3 hrc; obtain ⟨u, hu⟩ := hC3.cell (i := 24) (by omega); have hf := hC3.frozen 24; have hl3 := hC3.lt
   have HX : Hid (RX w0 rb mv s fin.2 (BtR w rb cb fin.1) (.returned (.tuple #[])) (W3.setCell ⟨cb, 24, none⟩ (.slice A l.length cc))) := by
    rw [HF.out]; have hT4 := HT2.out.trans hT3
    exact .inl ⟨hc3, ⟨rfl, hC3.set 24 _ fun v hv => hv.setTcs (hL.keep fun b _ hs => ⟨by have : W2.heap.size <= b := hs; show cb < b; omega, rfl⟩), fun b hb h1 h2 => (Below.heap_setCell _ _ _ _ h2).trans ((hT3.at (by omega) h1).trans (HKe.out b hb h1 h2))⟩, H0.out.put hR3 hT4 hcb _ _, hT4.setNew (a := ⟨cb, 24, none⟩) hcb _⟩
   clear hC3 hR3 hT3 hL KP
   go_wp2_with fail
   refine bodyPost_ret (results_none rfl _ _ _) rfl ?_; exact HX.out
 . -- a theorem's value
   have HF : Hid (fin = ({ c with vl := (exprN s n (st.must s sBe)).1 }, (exprN s n (st.must s sBe)).2)) := hide (by rw [hfin]; unfold restF; rw [if_pos (.inr ⟨by omega, hb⟩)])
   have e4 : ((kd : Int) == 4) = false := by simp; omega
   have e3 : ((kd : Int) == 3) = true := by simp; omega
   have e1 : ((kd : Int) != 1) = true := by simp; omega
   have K1 := hide (tookQ H.out wBy); rw [hb, if_neg (by simp)] at K1
   have HM : Hid (∀ W, Rdy W rb mv s st -> Calls Tryz.prog 29 #[.pointer (some ⟨rb, 0, none⟩), .string sBe] W fun e w' => RQ W rb mv s (st.must s sBe) (fun e _ => e = .returned (.tuple #[])) e w') := hide fun W hW => expectQ hW sBe
   have HX : Hid (∀ W, Rdy W rb mv s (st.must s sBe) -> Calls Tryz.prog 30 #[.pointer (some ⟨rb, 0, none⟩)] W fun e w' => RX W rb mv s (exprN s n (st.must s sBe)).2 (ExR W (exprN s n (st.must s sBe)).1) e w') := hide fun W hW => expr_all n hn _ W hW (by have := ((Dn.refl hok).must (q := sBe)).left; omega)
   have HBd : Hid (Bdn (st.must s sBe) fin.2) := hide (by rw [HF.out]; exact exprN_bfw n _); clear hfin h3 hl hb; generalize (exprN s n (st.must s sBe)).1 = x at *; generalize (exprN s n (st.must s sBe)).2 = st2 at *
   generalize st.must s sBe = st1 at *
   go_enter Tryz.func31, Tryz.ntmps31
   go_wp2_with (go_at_call 38; refine K1.out.mono ?_)
   first | (intro e W1 he hR1 hT1; subst he) | (rintro e W1 ⟨rfl, hR1, hT1⟩)
   have HC1 := hide (HC.out.touched hT1 hrc); have HT1 := hide (HT.out.trans hT1); have hzj := hT1.size
   have HK0 : Hid (∀ b, b < w.heap.size -> b ≠ rb -> b ≠ cb -> W1.heap[b]? = w.heap[b]?) := hide fun b hb h1 _ => hT1.at hb h1
   have KM := hide (HM.out _ hR1); have hc1 := HC1.out.kind; rw [<- hkd] at hc1; clear hR1 hT1 K1 HM HC HT hc0
   go_wp2_with (go_at_call 29; refine KM.out.mono ?_)
   intro e W2 h2
   rcases h2 with ⟨hc2, rfl, hR2, hT2⟩ | ⟨hc2, hth⟩
   rotate_left
   . have HY : Hid (RX w0 rb mv s fin.2 (BtR w rb cb fin.1) e W2) := RX.bad (lost_of hc2) (by rw [fp_of hc2]; exact hth) HT1.out HBd.out
     obtain ⟨fb, rfl, -⟩ := hth
     go_wp2_with fail
     exact ⟨rfl, HY.out⟩
   have HC2 := hide (HC1.out.touched hT2 hrc); have HT2 := hide (HT1.out.trans hT2); have hzk := hT2.size
   have HKe : Hid (∀ b, b < w.heap.size -> b ≠ rb -> b ≠ cb -> W2.heap[b]? = w.heap[b]?) := hide fun b hb h1 h2 => (hT2.at (by omega) h1).trans (by first | exact HK0.out b hb h1 h2 | rfl)
   have KX := hide (HX.out _ hR2); have hl2 := HC2.out.lt; clear hR2 hT2 KM HC1 HT1 HX hc1
   go_wp2_with (go_at_call 30; refine KX.out.mono ?_)
   intro e W3 h3
   rcases h3 with ⟨hc3, hG3, hR3, hT3⟩ | ⟨hc3, hth⟩
   rotate_left
   . have HY : Hid (RX w0 rb mv s fin.2 (BtR w rb cb fin.1) e W3) := RX.bad hc3 hth HT2.out (by rw [HF.out]; exact Bdn.refl _)
     obtain ⟨fb, rfl, -⟩ := hth
     go_wp2_with fail
     exact ⟨rfl, HY.out⟩
   obtain ⟨e3', rfl, hl3, xv, hxb, hxi⟩ := hG3; have hC3 := HC2.out.touched hT3 hrc; have hz3 := hT3.size; have hxc := hxi.mono (S' := fun b => cb < b) fun b hb => by have : W2.heap.size <= b := hb; show cb < b; omega
   have HY : Hid (RX w0 rb mv s fin.2 (BtR w rb cb fin.1) (.returned (.tuple #[])) (W3.setCells cb 14 xv.toList)) := by
    rw [HF.out]; have hT4 := HT2.out.trans hT3
    exact .inl ⟨hc3, ⟨rfl, hC3.sets 14 _ fun v hv => hv.setVl hxc, fun b hb h1 h2 => (heap_setCells_ne h2 _ _ _).trans ((hT3.at (by omega) h1).trans (HKe.out b hb h1 h2))⟩, H0.out.puts hR3 hT4 hcb _ _, hT4.setsNew hcb _ _⟩
   have ST := st43_run (hC3.there (o := 14) (m := xv.size) (by rw [hxi.size]; omega)) hxi.size hxi.one; have L3 := ld43_run (W := W3) (block_range hxb) hxi.size; have hl3' := hC3.lt
   clear hC3 hR3 hT3 hxi hxb hxc KX HC2 HT2 H H0
   go_wp2_with fail
   refine bodyPost_ret (results_none rfl _ _ _) rfl ?_; exact HY.out
 . -- a definition's value
   have HF : Hid (fin = ({ c with vl := (exprN s n (st.must s sBe)).1 }, (exprN s n (st.must s sBe)).2)) := hide (by rw [hfin]; unfold restF; rw [if_pos (.inl (by omega))])
   have e4 : ((kd : Int) == 4) = false := by simp; omega
   have e3 : ((kd : Int) == 3) = false := by simp; omega
   have e1 : ((kd : Int) != 1) = true := by simp; omega
   have HX : Hid (∀ W, Rdy W rb mv s (st.must s sBe) -> Calls Tryz.prog 30 #[.pointer (some ⟨rb, 0, none⟩)] W fun e w' => RX W rb mv s (exprN s n (st.must s sBe)).2 (ExR W (exprN s n (st.must s sBe)).1) e w') := hide fun W hW => expr_all n hn _ W hW (by have := ((Dn.refl hok).must (q := sBe)).left; omega)
   have HBd : Hid (Bdn (st.must s sBe) fin.2) := hide (by rw [HF.out]; exact exprN_bfw n _); have KM := hide (expectQ H.out sBe); clear hfin h2 hkd hl; generalize (exprN s n (st.must s sBe)).1 = x at *
   generalize (exprN s n (st.must s sBe)).2 = st2 at *; generalize st.must s sBe = st1 at *
   go_enter Tryz.func31, Tryz.ntmps31
   have HC1 := HC; have HT1 := HT; have hc1 := hc0; have hzj : w.heap.size <= w.heap.size := Nat.le_refl _
   have HK0 : Hid (∀ b, b < w.heap.size -> b ≠ rb -> b ≠ cb -> w.heap[b]? = w.heap[b]?) := hide fun b _ _ _ => rfl
   clear HC HT
   go_wp2_with (go_at_call 29; refine KM.out.mono ?_)
   intro e W2 h2
   rcases h2 with ⟨hc2, rfl, hR2, hT2⟩ | ⟨hc2, hth⟩
   rotate_left
   . have HY : Hid (RX w0 rb mv s fin.2 (BtR w rb cb fin.1) e W2) := RX.bad (lost_of hc2) (by rw [fp_of hc2]; exact hth) HT1.out HBd.out
     obtain ⟨fb, rfl, -⟩ := hth
     go_wp2_with fail
     exact ⟨rfl, HY.out⟩
   have HC2 := hide (HC1.out.touched hT2 hrc); have HT2 := hide (HT1.out.trans hT2); have hzk := hT2.size
   have HKe : Hid (∀ b, b < w.heap.size -> b ≠ rb -> b ≠ cb -> W2.heap[b]? = w.heap[b]?) := hide fun b hb h1 h2 => (hT2.at (by omega) h1).trans (by first | exact HK0.out b hb h1 h2 | rfl)
   have KX := hide (HX.out _ hR2); have hl2 := HC2.out.lt; clear hR2 hT2 KM HC1 HT1 HX hc1
   go_wp2_with (go_at_call 30; refine KX.out.mono ?_)
   intro e W3 h3
   rcases h3 with ⟨hc3, hG3, hR3, hT3⟩ | ⟨hc3, hth⟩
   rotate_left
   . have HY : Hid (RX w0 rb mv s fin.2 (BtR w rb cb fin.1) e W3) := RX.bad hc3 hth HT2.out (by rw [HF.out]; exact Bdn.refl _)
     obtain ⟨fb, rfl, -⟩ := hth
     go_wp2_with fail
     exact ⟨rfl, HY.out⟩
   obtain ⟨e3', rfl, hl3, xv, hxb, hxi⟩ := hG3; have hC3 := HC2.out.touched hT3 hrc; have hz3 := hT3.size; have hxc := hxi.mono (S' := fun b => cb < b) fun b hb => by have : W2.heap.size <= b := hb; show cb < b; omega
   have HY : Hid (RX w0 rb mv s fin.2 (BtR w rb cb fin.1) (.returned (.tuple #[])) (W3.setCells cb 14 xv.toList)) := by
    rw [HF.out]; have hT4 := HT2.out.trans hT3
    exact .inl ⟨hc3, ⟨rfl, hC3.sets 14 _ fun v hv => hv.setVl hxc, fun b hb h1 h2 => (heap_setCells_ne h2 _ _ _).trans ((hT3.at (by omega) h1).trans (HKe.out b hb h1 h2))⟩, H0.out.puts hR3 hT4 hcb _ _, hT4.setsNew hcb _ _⟩
   have ST := st43_run (hC3.there (o := 14) (m := xv.size) (by rw [hxi.size]; omega)) hxi.size hxi.one; have L3 := ld43_run (W := W3) (block_range hxb) hxi.size; have hl3' := hC3.lt
   clear hC3 hR3 hT3 hxi hxb hxc KX HC2 HT2 H H0
   go_wp2_with fail
   refine bodyPost_ret (results_none rfl _ _ _) rfl ?_; exact HY.out
 . -- nothing more
   have HF : Hid (fin = (c, st)) := hide (by rw [hfin]; unfold restF; rw [if_neg (by omega), if_neg (by omega), if_neg (by omega)]); have e4 : ((kd : Int) == 4) = false := by simp; omega
   have e3 : ((kd : Int) == 3) = false := by simp; omega
   have e1 : ((kd : Int) != 1) = false := by simp; omega
   have HX : Hid (RX w0 rb mv s fin.2 (BtR w rb cb fin.1) (.returned (.tuple #[])) w) := by
    rw [HF.out]; exact .inl ⟨hco, ⟨rfl, HC.out, fun b _ _ _ => rfl⟩, H.out, HT.out⟩
   clear hfin h1 hkd hl
   go_enter Tryz.func31, Tryz.ntmps31
   go_wp2_with fail
   go_end0; exact HX.out
end
abbrev zccs (a : Int) : Array Value := #[.int .i64 0, .int .i64 a, .string ⟨#[]⟩, nilV, nilV, .int .i64 0, .int .i64 0, .string ⟨#[]⟩, .bool false, .bool false, .bool false, .bool false, nilV, nilV, .int .i64 0, .int .i64 0, .string ⟨#[]⟩, .bool false, .bool false, .bool false, .bool false, nilV, nilV, .bool false, nilV, nilV]
theorem zccs_in (w : World) (S : Nat -> Prop) (a : Nat) : CmIn w S (zeroC a) (zccs (a : Nat)) := CmIn.start w S a
theorem zccs_wrote (a : Int) : wrote (zccs 0) 0 (zccs a).toList = zccs a := by
 apply Array.ext'
 rw [wrote_toList (zccs a).toList (zccs 0) 0 [] (zccs 0).toList [] (by simp) rfl rfl]
 simp
section
variable {rb : Nat} {mv : Value} {s : ByteArray}
structure CSt (w : World) (rb : Nat) (mv : Value) (s : ByteArray) (c : Cm) (st : FS) (W : World) : Prop where
 res : W.heap[w.heap.size]? = some (.cells (zccs 0) 63 (0, 0))
 var : CmAt W (w.heap.size + 1) c
 rdy : Rdy W rb mv s st
 old : Touched w rb W
section
variable {w W W' : World} {c c' : Cm} {st st' st0 : FS}
theorem CSt.start (h0 : Rdy w rb mv s st0) (a : Nat) : CSt w rb mv s (zeroC a) st0 (((w.alloc (.cells (zccs 0) 63)).alloc (.cells (zccs 0) 63)).setCells (w.heap.size + 1) 0 (zccs (a : Nat)).toList) := by
 have hT : Touched w rb (((w.alloc (.cells (zccs 0) 63)).alloc (.cells (zccs 0) 63)).setCells (w.heap.size + 1) 0 (zccs (a : Nat)).toList) := ((Touched.alloc w rb _).trans (Touched.alloc _ _ _)).setsNew (by omega) _ _
 have hv := heap_setCells (zccs (a : Nat)).toList 0 _ _ (heap_alloc2_new w (.cells (zccs 0) 63) (.cells (zccs 0) 63)); rw [zccs_wrote] at hv
 exact ⟨(heap_setCells_ne (by omega) _ _ _).trans (heap_alloc2_old _ _ _), ⟨_, hv, zccs_in _ _ _⟩, h0.puts ((h0.alloc _).alloc _) ((Touched.alloc w rb _).trans (Touched.alloc _ _ _)) (by omega) _ _, hT⟩
theorem CSt.lt (h : CSt w rb mv s c st W) : w.heap.size + 1 < W.heap.size := h.var.lt
theorem CSt.touched (h : CSt w rb mv s c st W) (hlt : rb < w.heap.size) (hR : Rdy W' rb mv s st') (hT : Touched W rb W') : CSt w rb mv s c st' W' :=
 ⟨(hT.at (by have := h.var.lt; omega) (by omega)).trans h.res, h.var.touched hT (by omega), hR, h.old.trans hT⟩
theorem CSt.set (h0 : Rdy w rb mv s st0) (h : CSt w rb mv s c st W) (i : Nat) (u : Value) (hc : ∀ v, CmIn W (fun b => w.heap.size + 1 < b) c v -> CmIn W (fun b => w.heap.size + 1 < b) c' (v.setIfInBounds i u)) : CSt w rb mv s c' st (W.setCell ⟨w.heap.size + 1, i, none⟩ u) :=
 ⟨(Below.heap_setCell _ _ _ _ (by show w.heap.size ≠ w.heap.size + 1; omega)).trans h.res, h.var.set i u hc, h0.put h.rdy h.old (by omega) _ _, h.old.setNew (a := ⟨w.heap.size + 1, i, none⟩) (by show w.heap.size <= w.heap.size + 1; omega) _⟩
theorem CSt.sets (h0 : Rdy w rb mv s st0) (h : CSt w rb mv s c st W) (o : Nat) (l : List Value) (hc : ∀ v, CmIn W (fun b => w.heap.size + 1 < b) c v -> CmIn W (fun b => w.heap.size + 1 < b) c' (wrote v o l)) : CSt w rb mv s c' st (W.setCells (w.heap.size + 1) o l) :=
 ⟨(heap_setCells_ne (by omega) _ _ _).trans h.res, h.var.sets o l hc, h0.puts h.rdy h.old (by omega) _ _, h.old.setsNew (by omega) _ _⟩
end
def CQt (w : World) (rb : Nat) (mv : Value) (s : ByteArray) (c : Cm) (st : FS) (W : World) : Prop := CSt w rb mv s c st W /\ W.cell? ⟨w.heap.size + 1, 4, none⟩ = some nilV
section
variable {w W W' : World} {c c' : Cm} {st st' st0 : FS}
theorem CQt.start (h0 : Rdy w rb mv s st0) (a : Nat) : CQt w rb mv s (zeroC a) st0 (((w.alloc (.cells (zccs 0) 63)).alloc (.cells (zccs 0) 63)).setCells (w.heap.size + 1) 0 (zccs (a : Nat)).toList) := by
 refine ⟨CSt.start h0 a, ?_⟩; have hv := heap_setCells (zccs (a : Nat)).toList 0 _ _ (heap_alloc2_new w (.cells (zccs 0) 63) (.cells (zccs 0) 63)); rw [zccs_wrote] at hv; exact cell_of hv 4 rfl
theorem CQt.touched (h : CQt w rb mv s c st W) (hlt : rb < w.heap.size) (hR : Rdy W' rb mv s st') (hT : Touched W rb W') : CQt w rb mv s c st' W' :=
 ⟨h.1.touched hlt hR hT, (World.cell?_of_block (hT.at (k := w.heap.size + 1) h.1.lt (by omega))).trans h.2⟩
theorem CQt.set (h0 : Rdy w rb mv s st0) (h : CQt w rb mv s c st W) (i : Nat) (hi : i ≠ 4) (u : Value) (hc : ∀ v, CmIn W (fun b => w.heap.size + 1 < b) c v -> CmIn W (fun b => w.heap.size + 1 < b) c' (v.setIfInBounds i u)) : CQt w rb mv s c' st (W.setCell ⟨w.heap.size + 1, i, none⟩ u) := by
 refine ⟨h.1.set h0 i u hc, ?_⟩; obtain ⟨v, hv, _⟩ := h.1.var.ex; rw [cell_of_row _ _ 4 _ _ _ (heap_setCell_same W _ i _ _ u hv), Array.getElem?_setIfInBounds_ne hi, <- cell_of_row W _ 4 v _ _ hv]; exact h.2
end
structure BiSt (w : World) (n1 : Nat) (rb : Nat) (mv : Value) (s : ByteArray) (c : Cm) (bl : List Bd) (Ab : Option Addr) (l : List Bd) (st : FS) (A : Option Addr) (cc : Nat) (ys : List Value) (W : World) : Prop where
 res : W.heap[w.heap.size]? = some (.cells (zccs 0) 63 (0, 0))
 var : ∃ v, W.heap[w.heap.size + 1]? = some (.cells v 63 (0, 0)) /\ CmIn W (fun b => w.heap.size + 1 < b /\ b < n1) c (v.setIfInBounds 4 nilV) /\ v[4]? = some (.slice A l.length cc)
 row : GRow (KL BrP l) W 84 11 0 (w.heap.size + 2) l.length (.slice A l.length cc) ys
 own : ∀ g, (Value.slice A l.length cc).ownBlock = some g -> n1 <= g
 bds : BdsIn W (fun b => w.heap.size + 2 <= b /\ b < n1) Ab bl
 rdy : Rdy W rb mv s st
 old : Touched w rb W
 le : n1 <= W.heap.size
 big : w.heap.size + 2 <= n1
section
variable {w W w6 : World} {n1 : Nat} {c : Cm} {bl l : List Bd} {Ab A : Option Addr} {st st0 : FS} {cc : Nat} {ys : List Value}
theorem BiSt.lt (h : BiSt w n1 rb mv s c bl Ab l st A cc ys W) : w.heap.size + 1 < W.heap.size := by have := h.le; have := h.big; omega
theorem BiSt.four (h : BiSt w n1 rb mv s c bl Ab l st A cc ys W) : W.cell? ⟨w.heap.size + 1, 4, none⟩ = some (.slice A l.length cc) /\ ∀ i, W.frozen? ⟨w.heap.size + 1, i, none⟩ = false := by
 obtain ⟨v, hv, _, h4⟩ := h.var; exact ⟨cell_of hv 4 h4, frozen_of hv⟩
theorem BiSt.begin (hq : CQt w rb mv s c st W) (hb : BdsIn W (fun b => w.heap.size + 2 <= b) Ab bl) : BiSt w W.heap.size rb mv s c bl Ab [] st none 0 [] W := by
 obtain ⟨h, f4⟩ := hq; obtain ⟨v, hv, hc⟩ := h.var.ex; have h4 : v[4]? = some nilV := by rw [<- cell_of_row W _ 4 v _ _ hv]; exact f4
 have e4 : v.setIfInBounds 4 nilV = v := by
  apply Array.ext'
  rw [Array.toList_setIfInBounds]
  apply List.ext_getElem?
  intro i; rw [List.getElem?_set]
  split
  . rename_i hi
    subst hi
    split
    . rw [<- h4]; simp
    . rename_i hlt
      rw [List.getElem?_eq_none (by omega)]
  . rfl
 refine ⟨h.res, ⟨v, hv, by rw [e4]; exact hc.keep fun b hb hs => ⟨⟨hs, hb⟩, rfl⟩, h4⟩, GRow.start _ _ _ _ _ _, fun g e => by simp [Value.ownBlock] at e, hb.keep fun b hb hs => ⟨⟨hs, hb⟩, rfl⟩, h.rdy, h.old, Nat.le_refl _, h.lt⟩
theorem BiSt.done (h : BiSt w n1 rb mv s c bl Ab l st A cc ys W) : CSt w rb mv s { c with bs := l } st W := by
 obtain ⟨v, hv, hc, h4⟩ := h.var; obtain ⟨A', c', e', hL⟩ := GRow.brs (l := l) h.row; injection e' with e1 e2 e3; subst e1
 have hcs := (hc.keep (w' := W) (S' := fun b => w.heap.size + 1 < b) fun b _ hs => ⟨hs.1, rfl⟩).setBs (n := cc) (hL.keep (w' := W) (S' := fun b => w.heap.size + 1 < b) fun b _ hs => ⟨by have : w.heap.size + 2 <= b := hs; show w.heap.size + 1 < b; omega, rfl⟩)
 have e4 : (v.setIfInBounds 4 nilV).setIfInBounds 4 (.slice A l.length cc) = v := by
  apply Array.ext'
  rw [Array.toList_setIfInBounds, Array.toList_setIfInBounds]
  apply List.ext_getElem?
  intro i; rw [List.getElem?_set]
  split
  . rename_i hi
    subst hi
    split
    . rw [<- h4]; simp
    . rename_i hlt
      rw [List.getElem?_eq_none (by simpa using hlt)]
  . rename_i hi
    rw [List.getElem?_set]
    split
    . contradiction
    . rfl
 rw [e4] at hcs; exact ⟨h.res, ⟨v, hv, hcs⟩, h.rdy, h.old⟩
theorem BiSt.next (h0 : Rdy w rb mv s st0) (h : BiSt w n1 rb mv s c bl Ab l st A cc ys W) {x : Bd} {xv : Array Value} {o o' : Obj} {rv : Value} (hx : InX W (fun b => w.heap.size + 2 <= b /\ b < n1) x.ty xv)
 (hown : w6.ownsRow (w.heap.size + 2) 84 11 rv (l.length + 1) (flat ys ++ (brcs x.nm x.im xv).toList)) (hgr : ((W.alloc o').alloc o).grownBy w6 (Value.slice A l.length cc).ownBlock) (hpl : rv.ownBlock = (Value.slice A l.length cc).ownBlock \/ rv.ownBlock = some ((W.alloc o').alloc o).heap.size) :
 ∃ A6 c6, rv = .slice A6 (l.length + 1) c6 /\ BiSt w n1 rb mv s c bl Ab (l ++ [x]) st A6 c6 (ys ++ [.agg (brcs x.nm x.im xv)]) (w6.setCell ⟨w.heap.size + 1, 4, none⟩ rv) := by
 have hlt := h0.lt; have hle := h.le; have hbig := h.big; have hz : ((W.alloc o').alloc o).heap.size = W.heap.size + 2 := by simp
 have hB : Below W.heap.size W ((W.alloc o').alloc o) := ((Below.refl _ _).alloc (Nat.le_refl _) _).alloc (by simp) _
 have hkeep : ∀ b, b < n1 -> w6.heap[b]? = W.heap[b]? := fun b hb => by
  rw [hgr.block b (by omega) (fun e => by have := h.own b e.symm; omega), hB.block b (by omega)]
 have h1 : GRow (KL BrP (l ++ [x])) ((W.alloc o').alloc o) 84 11 0 (w.heap.size + 2) l.length (.slice A l.length cc) ys := (h.row.later (KL.keeps keep_BrP _) hB).imp fun S j v hj ⟨hj', hv⟩ => ⟨by simp; omega, by rw [List.getElem_append_left hj']; exact hv⟩
 have hG := GRow.more (news := [.agg (brcs x.nm x.im xv)]) (KL.keeps keep_BrP _) h1 (fun i hi => by
  have : i = 0 := by simp at hi; omega
  subst this; exact ⟨_, rfl, by simp [hx.size]⟩) (fun j hj => by
  have : j = 0 := by simp at hj; omega
  subst this; refine ⟨by simp, ?_⟩; have e1 : (l ++ [x])[l.length + 0]'(by simp) = x := by simp
  rw [e1]; refine ⟨xv, hx.keep fun b hb hs => ⟨⟨hs.1, fun e => ?_⟩, hB.block b hb⟩, rfl⟩; have := h.own b e; have := hs.2; omega) (by simpa [flat] using hown) hgr hpl
 obtain ⟨A6, c6, hv6⟩ := own_row_slice hown; subst hv6; refine ⟨A6, c6, rfl, ?_⟩
 have hT6 : Touched w rb w6 := ⟨hgr.os.trans (hB.os.trans h.old.os), hgr.tape.trans (hB.tape.trans h.old.tape), hgr.output.trans (hB.output.trans h.old.output), by have := hgr.size; have := h.old.size; omega, fun b hb hne => (hkeep b (by omega)).trans (h.old.block b hb hne)⟩
 have hR6 : Rdy w6 rb mv s st := h0.next (h.rdy.rd.of_block (hkeep rb (by omega))) h.rdy.ok hT6; have hll : (l ++ [x]).length = l.length + 1 := by simp
 refine ⟨?_, ?_, ?_, ?_, ?_, h0.put hR6 hT6 (by omega) _ _, hT6.setNew (a := ⟨w.heap.size + 1, 4, none⟩) (by show w.heap.size <= w.heap.size + 1; omega) _, ?_, hbig⟩
 . rw [Below.heap_setCell _ _ _ _ (by show w.heap.size ≠ w.heap.size + 1; omega), hkeep _ (by omega)]
   exact h.res
 . obtain ⟨v, hv, hc, h4⟩ := h.var
   have hv6 := (hkeep (w.heap.size + 1) (by omega)).trans hv; refine ⟨v.setIfInBounds 4 (.slice A6 (l.length + 1) c6), heap_setCell_same w6 _ 4 _ _ _ hv6, ?_, ?_⟩
   . have e4 : (v.setIfInBounds 4 (.slice A6 (l.length + 1) c6)).setIfInBounds 4 nilV = v.setIfInBounds 4 nilV := by simp
     rw [e4]; exact hc.keep fun b _ hs => ⟨hs, by rw [Below.heap_setCell _ _ _ _ (by show b ≠ w.heap.size + 1; have := hs.1; omega), hkeep b hs.2]⟩
   . have h26 : (v.setIfInBounds 4 nilV).size = 26 := hc.size
     have h26' : v.size = 26 := by simpa using h26
     rw [hll, Array.getElem?_setIfInBounds_self_of_lt (by omega)]
 . rw [hll]
   have := hG.set (KL.keeps keep_BrP _) (c := w.heap.size + 1) (q := 4) (by omega) (Nat.zero_le _) (.slice A6 (l.length + 1) c6); exact this
 . intro g e
   rw [hll] at e
   rcases hpl with hp | hp
   . exact h.own g (by rw [<- hp]; exact e)
   . rw [hp] at e
     have e' : ((W.alloc o').alloc o).heap.size = g := by injection e
     omega
 . exact h.bds.keep fun b hb hs => ⟨hs, by rw [Below.heap_setCell _ _ _ _ (by show b ≠ w.heap.size + 1; have := hs.1; omega), hkeep b hs.2]⟩
 . have := hgr.size
   have e : (w6.setCell ⟨w.heap.size + 1, 4, none⟩ (.slice A6 (l.length + 1) c6)).heap.size = w6.heap.size := by simp [World.setCell]
   omega
end
end
end Go.Proofs.YtockffblncdikaaGreatDoor
