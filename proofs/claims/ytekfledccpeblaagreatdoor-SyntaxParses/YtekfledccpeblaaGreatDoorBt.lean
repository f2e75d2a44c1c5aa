/- The contract of behindType: what follows a command's type. -/
import Derived.Test.YtekfledccpeblaaGreatDoorCs

namespace Go.Proofs.YtekfledccpeblaaGreatDoor
open Go.RowKit

section
variable {rb : Nat} {mv : Value} {s : ByteArray}
/-- What stands behind a type was read into the command. -/
def BtR (w : World) (rb cb : Nat) (c : Cm) (e : Ending) (w' : World) : Prop := e = .returned (.tuple #[]) ∧ CmAt w' cb c ∧ ∀ b, b < w.heap.size → b ≠ rb → b ≠ cb → w'.heap[b]? = w.heap[b]?

attribute [local go_sem ↓] ld43_eq st43_eq
set_option maxRecDepth 100000 in
set_option maxHeartbeats 8000000 in
theorem behindType_calls (n : Nat) (hn : n ≤ 900000) (w0 : World) (st0 : FS) (h0 : Rdy w0 rb mv s st0) (cb : Nat) (hcb : w0.heap.size ≤ cb) (c : Cm) (st : FS) (w : World) (h : Rdy w rb mv s st) (hT : Touched w0 rb w) (hC : CmAt w cb c) (hk : 1 ≤ c.kd ∧ c.kd ≤ 4) (hl : st.left s < n) :
    Calls Tryz.prog 42 #[.pointer (some ⟨rb, 0, none⟩), .pointer (some ⟨cb, 0, none⟩)] w fun e w' => RX w0 rb mv s (restF s n c st).2 (BtR w rb cb (restF s n c st).1) e w' := by
  have H0 := hide h0
  have H := hide h
  have HT := hide hT
  have HC := hide hC
  have hlt := h0.lt
  have hco := h.code
  have hok := h.ok
  have hrc : rb < cb := by omega
  have hlc := hC.lt
  have hc0 := hC.kind
  obtain ⟨fin, hfin⟩ : ∃ fin, fin = restF s n c st := ⟨_, rfl⟩
  rw [← hfin]
  obtain ⟨kd, hkd⟩ : ∃ kd, kd = c.kd := ⟨_, rfl⟩
  rw [← hkd] at hc0 hk
  clear h0 h hT hC
  have hcase : kd = 4 ∨ (kd = 3 ∧ st.is wBy = true) ∨ (kd = 3 ∧ st.is wBy = false) ∨ kd = 2 ∨ kd = 1 := by
    rcases (show kd = 4 ∨ kd = 3 ∨ kd = 2 ∨ kd = 1 by omega) with h | h | h | h
    · exact .inl h
    · cases hb : st.is wBy
      · exact .inr (.inr (.inl ⟨h, rfl⟩))
      · exact .inr (.inl ⟨h, rfl⟩)
    · exact .inr (.inr (.inr (.inl h)))
    · exact .inr (.inr (.inr (.inr h)))
  rcases hcase with h4 | ⟨h3, hb⟩ | ⟨h3, hb⟩ | h2 | h1
  · -- constructors
    have HF : Hid (fin = ({ c with cts := (ctorsN s n n [] st).1 }, (ctorsN s n n [] st).2)) := hide (by rw [hfin]; unfold restF; rw [if_neg (by omega), if_neg (by omega), if_pos (by omega)])
    have e4 : ((kd : Int) == 4) = true := by simp; omega
    have KC := hide (ctors_calls n hn st w H.out hl)
    clear hfin h4 hkd hl
    generalize (ctorsN s n n [] st).1 = l at *
    generalize (ctorsN s n n [] st).2 = st1 at *
    go_enter Tryz.func42, Tryz.ntmps42
    go_wp2_with (go_at_call 67; refine KC.out.mono ?_)
    intro e W1 h1
    rcases h1 with ⟨hc1, hG1, hR1, hT1⟩ | ⟨hc1, hth⟩
    rotate_left
    · have HX : Hid (RX w0 rb mv s fin.2 (BtR w rb cb fin.1) e W1) := RX.bad hc1 hth HT.out (by rw [HF.out]; exact Bdn.refl _)
      obtain ⟨fb, rfl, -⟩ := hth
      go_wp2_with fail
      exact ⟨rfl, HX.out⟩
    obtain ⟨A, cc, rfl, hL⟩ := hG1
    have hC1 := HC.out.touched hT1 hrc
    obtain ⟨u, hu⟩ := hC1.cell (i := 25) (by omega)
    have hf := hC1.frozen 25
    have hl1 := hC1.lt
    have HX : Hid (RX w0 rb mv s fin.2 (BtR w rb cb fin.1) (.returned (.tuple #[])) (W1.setCell ⟨cb, 25, none⟩ (.slice A l.length cc))) := by
      rw [HF.out]
      have hT2 := HT.out.trans hT1
      exact .inl ⟨hc1, ⟨rfl, hC1.set 25 _ fun v hv => hv.setCts (hL.keep fun b _ hs => ⟨by have : w.heap.size ≤ b := hs; show cb < b; omega, rfl⟩), fun b hb h1 h2 => (Below.heap_setCell _ _ _ _ h2).trans (hT1.at hb h1)⟩, H0.out.put hR1 hT2 hcb _ _, hT2.setNew (a := ⟨cb, 25, none⟩) hcb _⟩
    clear hC1 hR1 hT1 hL KC
    go_wp2_with fail
    refine bodyPost_ret (results_none rfl _ _ _) rfl ?_
    exact HX.out
  · -- tactics
    have HF : Hid (fin = ({ c with tac := true, tcs := (tacticsN s n n [(tacticF s n (st.step s)).1] (tacticF s n (st.step s)).2).1 }, (tacticsN s n n [(tacticF s n (st.step s)).1] (tacticF s n (st.step s)).2).2)) := hide (by rw [hfin]; unfold restF; rw [if_neg (by rintro (h | ⟨_, h⟩); omega; rw [hb] at h; simp at h), if_pos (by omega)])
    have e4 : ((kd : Int) == 4) = false := by simp; omega
    have e3 : ((kd : Int) == 3) = true := by simp; omega
    have K1 := hide (tookQ H.out wBy)
    have hkd2 := (FS.is_kd hb).2.1
    have hlef := FS.step_left hok hco (by omega) (by omega)
    have HP : Hid (∀ W, Rdy W rb mv s (st.step s) → Calls Tryz.prog 68 #[.pointer (some ⟨rb, 0, none⟩)] W fun e w' => RX W rb mv s (tacticsN s n n [(tacticF s n (st.step s)).1] (tacticF s n (st.step s)).2).2 (TcsR W (tacticsN s n n [(tacticF s n (st.step s)).1] (tacticF s n (st.step s)).2).1) e w') := hide fun W hW => proof_calls n hn _ W hW (by omega) (step_tac hok hco)
    rw [hb, if_pos rfl] at K1
    clear hfin h3 hkd hl hb hkd2 hlef
    generalize (tacticsN s n n [(tacticF s n (st.step s)).1] (tacticF s n (st.step s)).2).1 = l at *
    generalize (tacticsN s n n [(tacticF s n (st.step s)).1] (tacticF s n (st.step s)).2).2 = st1 at *
    generalize st.step s = sta at *
    go_enter Tryz.func42, Tryz.ntmps42
    go_wp2_with (go_at_call 58; refine K1.out.mono ?_)
    first | (intro e W1 he hR1 hT1; subst he) | (rintro e W1 ⟨rfl, hR1, hT1⟩)
    have hC1 := HC.out.touched hT1 hrc
    obtain ⟨u, hu⟩ := hC1.cell (i := 23) (by omega)
    have hf := hC1.frozen 23
    have hl1 := hC1.lt
    have hT1' := HT.out.trans hT1
    have HC2 := hide (hC1.set 23 (.bool true) fun v hv => hv.setTac true)
    have HR2 := hide (H0.out.put hR1 hT1' hcb 23 (.bool true))
    have HT2 := hide (hT1'.setNew (a := ⟨cb, 23, none⟩) hcb (.bool true))
    have KP := hide (HP.out _ HR2.out)
    have hz2 : (W1.setCell ⟨cb, 23, none⟩ (.bool true)).heap.size = W1.heap.size := by simp [World.setCell]
    have hz1 := hT1.size
    have HKe : Hid (∀ b, b < w.heap.size → b ≠ rb → b ≠ cb → (W1.setCell ⟨cb, 23, none⟩ (.bool true)).heap[b]? = w.heap[b]?) := hide fun b hb h1 h2 => (Below.heap_setCell _ _ _ _ h2).trans (hT1.at hb h1)
    clear hC1 hR1 hT1 hT1' K1 HP
    go_upto_region 4 with fail
    clear hu hf
    generalize W1.setCell ⟨cb, 23, none⟩ (.bool true) = W2 at *
    go_wp2_with (go_at_call 68; refine KP.out.mono ?_)
    intro e W3 h3
    rcases h3 with ⟨hc3, hG3, hR3, hT3⟩ | ⟨hc3, hth⟩
    rotate_left
    · have HX : Hid (RX w0 rb mv s fin.2 (BtR w rb cb fin.1) e W3) := RX.bad hc3 hth HT2.out (by rw [HF.out]; exact Bdn.refl _)
      obtain ⟨fb, rfl, -⟩ := hth
      go_wp2_with fail
      exact ⟨rfl, HX.out⟩
    obtain ⟨A, cc, rfl, hL⟩ := hG3
    have hC3 := HC2.out.touched hT3 hrc
    obtain ⟨u, hu⟩ := hC3.cell (i := 24) (by omega)
    have hf := hC3.frozen 24
    have hl3 := hC3.lt
    have HX : Hid (RX w0 rb mv s fin.2 (BtR w rb cb fin.1) (.returned (.tuple #[])) (W3.setCell ⟨cb, 24, none⟩ (.slice A l.length cc))) := by
      rw [HF.out]
      have hT4 := HT2.out.trans hT3
      exact .inl ⟨hc3, ⟨rfl, hC3.set 24 _ fun v hv => hv.setTcs (hL.keep fun b _ hs => ⟨by have : W2.heap.size ≤ b := hs; show cb < b; omega, rfl⟩), fun b hb h1 h2 => (Below.heap_setCell _ _ _ _ h2).trans ((hT3.at (by omega) h1).trans (HKe.out b hb h1 h2))⟩, H0.out.put hR3 hT4 hcb _ _, hT4.setNew (a := ⟨cb, 24, none⟩) hcb _⟩
    clear hC3 hR3 hT3 hL KP
    go_wp2_with fail
    refine bodyPost_ret (results_none rfl _ _ _) rfl ?_
    exact HX.out
  · -- a theorem's value
    have HF : Hid (fin = ({ c with vl := (exprN s n (st.must s sBe)).1 }, (exprN s n (st.must s sBe)).2)) := hide (by rw [hfin]; unfold restF; rw [if_pos (.inr ⟨by omega, hb⟩)])
    have e4 : ((kd : Int) == 4) = false := by simp; omega
    have e3 : ((kd : Int) == 3) = true := by simp; omega
    have e1 : ((kd : Int) != 1) = true := by simp; omega
    have K1 := hide (tookQ H.out wBy)
    rw [hb, if_neg (by simp)] at K1
    have HM : Hid (∀ W, Rdy W rb mv s st → Calls Tryz.prog 40 #[.pointer (some ⟨rb, 0, none⟩), .string sBe] W fun e w' => RQ W rb mv s (st.must s sBe) (fun e _ => e = .returned (.tuple #[])) e w') := hide fun W hW => expectQ hW sBe
    have HX : Hid (∀ W, Rdy W rb mv s (st.must s sBe) → Calls Tryz.prog 41 #[.pointer (some ⟨rb, 0, none⟩)] W fun e w' => RX W rb mv s (exprN s n (st.must s sBe)).2 (ExR W (exprN s n (st.must s sBe)).1) e w') := hide fun W hW => expr_all n hn _ W hW (by have := ((Dn.refl hok).must (q := sBe)).left; omega)
    have HBd : Hid (Bdn (st.must s sBe) fin.2) := hide (by rw [HF.out]; exact exprN_bfw n _)
    clear hfin h3 hl hb
    generalize (exprN s n (st.must s sBe)).1 = x at *
    generalize (exprN s n (st.must s sBe)).2 = st2 at *
    generalize st.must s sBe = st1 at *
    go_enter Tryz.func42, Tryz.ntmps42
    go_wp2_with (go_at_call 58; refine K1.out.mono ?_)
    first | (intro e W1 he hR1 hT1; subst he) | (rintro e W1 ⟨rfl, hR1, hT1⟩)
    have HC1 := hide (HC.out.touched hT1 hrc)
    have HT1 := hide (HT.out.trans hT1)
    have hzj := hT1.size
    have HK0 : Hid (∀ b, b < w.heap.size → b ≠ rb → b ≠ cb → W1.heap[b]? = w.heap[b]?) := hide fun b hb h1 _ => hT1.at hb h1
    have KM := hide (HM.out _ hR1)
    have hc1 := HC1.out.kind
    rw [← hkd] at hc1
    clear hR1 hT1 K1 HM HC HT hc0
    go_wp2_with (go_at_call 40; refine KM.out.mono ?_)
    intro e W2 h2
    rcases h2 with ⟨hc2, rfl, hR2, hT2⟩ | ⟨hc2, hth⟩
    rotate_left
    · have HY : Hid (RX w0 rb mv s fin.2 (BtR w rb cb fin.1) e W2) := RX.bad (lost_of hc2) (by rw [fp_of hc2]; exact hth) HT1.out HBd.out
      obtain ⟨fb, rfl, -⟩ := hth
      go_wp2_with fail
      exact ⟨rfl, HY.out⟩
    have HC2 := hide (HC1.out.touched hT2 hrc)
    have HT2 := hide (HT1.out.trans hT2)
    have hzk := hT2.size
    have HKe : Hid (∀ b, b < w.heap.size → b ≠ rb → b ≠ cb → W2.heap[b]? = w.heap[b]?) := hide fun b hb h1 h2 => (hT2.at (by omega) h1).trans (by first | exact HK0.out b hb h1 h2 | rfl)
    have KX := hide (HX.out _ hR2)
    have hl2 := HC2.out.lt
    clear hR2 hT2 KM HC1 HT1 HX hc1
    go_wp2_with (go_at_call 41; refine KX.out.mono ?_)
    intro e W3 h3
    rcases h3 with ⟨hc3, hG3, hR3, hT3⟩ | ⟨hc3, hth⟩
    rotate_left
    · have HY : Hid (RX w0 rb mv s fin.2 (BtR w rb cb fin.1) e W3) := RX.bad hc3 hth HT2.out (by rw [HF.out]; exact Bdn.refl _)
      obtain ⟨fb, rfl, -⟩ := hth
      go_wp2_with fail
      exact ⟨rfl, HY.out⟩
    obtain ⟨e3', rfl, hl3, xv, hxb, hxi⟩ := hG3
    have hC3 := HC2.out.touched hT3 hrc
    have hz3 := hT3.size
    have hxc := hxi.mono (S' := fun b => cb < b) fun b hb => by have : W2.heap.size ≤ b := hb; show cb < b; omega
    have HY : Hid (RX w0 rb mv s fin.2 (BtR w rb cb fin.1) (.returned (.tuple #[])) (W3.setCells cb 14 xv.toList)) := by
      rw [HF.out]
      have hT4 := HT2.out.trans hT3
      exact .inl ⟨hc3, ⟨rfl, hC3.sets 14 _ fun v hv => hv.setVl hxc, fun b hb h1 h2 => (heap_setCells_ne h2 _ _ _).trans ((hT3.at (by omega) h1).trans (HKe.out b hb h1 h2))⟩, H0.out.puts hR3 hT4 hcb _ _, hT4.setsNew hcb _ _⟩
    have ST := st43_run (hC3.there (o := 14) (m := xv.size) (by rw [hxi.size]; omega)) hxi.size hxi.one
    have L3 := ld43_run (W := W3) (block_range hxb) hxi.size
    have hl3' := hC3.lt
    clear hC3 hR3 hT3 hxi hxb hxc KX HC2 HT2 H H0
    go_wp2_with fail
    refine bodyPost_ret (results_none rfl _ _ _) rfl ?_
    exact HY.out
  · -- a definition's value
    have HF : Hid (fin = ({ c with vl := (exprN s n (st.must s sBe)).1 }, (exprN s n (st.must s sBe)).2)) := hide (by rw [hfin]; unfold restF; rw [if_pos (.inl (by omega))])
    have e4 : ((kd : Int) == 4) = false := by simp; omega
    have e3 : ((kd : Int) == 3) = false := by simp; omega
    have e1 : ((kd : Int) != 1) = true := by simp; omega
    have HX : Hid (∀ W, Rdy W rb mv s (st.must s sBe) → Calls Tryz.prog 41 #[.pointer (some ⟨rb, 0, none⟩)] W fun e w' => RX W rb mv s (exprN s n (st.must s sBe)).2 (ExR W (exprN s n (st.must s sBe)).1) e w') := hide fun W hW => expr_all n hn _ W hW (by have := ((Dn.refl hok).must (q := sBe)).left; omega)
    have HBd : Hid (Bdn (st.must s sBe) fin.2) := hide (by rw [HF.out]; exact exprN_bfw n _)
    have KM := hide (expectQ H.out sBe)
    clear hfin h2 hkd hl
    generalize (exprN s n (st.must s sBe)).1 = x at *
    generalize (exprN s n (st.must s sBe)).2 = st2 at *
    generalize st.must s sBe = st1 at *
    go_enter Tryz.func42, Tryz.ntmps42
    have HC1 := HC
    have HT1 := HT
    have hc1 := hc0
    have hzj : w.heap.size ≤ w.heap.size := Nat.le_refl _
    have HK0 : Hid (∀ b, b < w.heap.size → b ≠ rb → b ≠ cb → w.heap[b]? = w.heap[b]?) := hide fun b _ _ _ => rfl
    clear HC HT
    go_wp2_with (go_at_call 40; refine KM.out.mono ?_)
    intro e W2 h2
    rcases h2 with ⟨hc2, rfl, hR2, hT2⟩ | ⟨hc2, hth⟩
    rotate_left
    · have HY : Hid (RX w0 rb mv s fin.2 (BtR w rb cb fin.1) e W2) := RX.bad (lost_of hc2) (by rw [fp_of hc2]; exact hth) HT1.out HBd.out
      obtain ⟨fb, rfl, -⟩ := hth
      go_wp2_with fail
      exact ⟨rfl, HY.out⟩
    have HC2 := hide (HC1.out.touched hT2 hrc)
    have HT2 := hide (HT1.out.trans hT2)
    have hzk := hT2.size
    have HKe : Hid (∀ b, b < w.heap.size → b ≠ rb → b ≠ cb → W2.heap[b]? = w.heap[b]?) := hide fun b hb h1 h2 => (hT2.at (by omega) h1).trans (by first | exact HK0.out b hb h1 h2 | rfl)
    have KX := hide (HX.out _ hR2)
    have hl2 := HC2.out.lt
    clear hR2 hT2 KM HC1 HT1 HX hc1
    go_wp2_with (go_at_call 41; refine KX.out.mono ?_)
    intro e W3 h3
    rcases h3 with ⟨hc3, hG3, hR3, hT3⟩ | ⟨hc3, hth⟩
    rotate_left
    · have HY : Hid (RX w0 rb mv s fin.2 (BtR w rb cb fin.1) e W3) := RX.bad hc3 hth HT2.out (by rw [HF.out]; exact Bdn.refl _)
      obtain ⟨fb, rfl, -⟩ := hth
      go_wp2_with fail
      exact ⟨rfl, HY.out⟩
    obtain ⟨e3', rfl, hl3, xv, hxb, hxi⟩ := hG3
    have hC3 := HC2.out.touched hT3 hrc
    have hz3 := hT3.size
    have hxc := hxi.mono (S' := fun b => cb < b) fun b hb => by have : W2.heap.size ≤ b := hb; show cb < b; omega
    have HY : Hid (RX w0 rb mv s fin.2 (BtR w rb cb fin.1) (.returned (.tuple #[])) (W3.setCells cb 14 xv.toList)) := by
      rw [HF.out]
      have hT4 := HT2.out.trans hT3
      exact .inl ⟨hc3, ⟨rfl, hC3.sets 14 _ fun v hv => hv.setVl hxc, fun b hb h1 h2 => (heap_setCells_ne h2 _ _ _).trans ((hT3.at (by omega) h1).trans (HKe.out b hb h1 h2))⟩, H0.out.puts hR3 hT4 hcb _ _, hT4.setsNew hcb _ _⟩
    have ST := st43_run (hC3.there (o := 14) (m := xv.size) (by rw [hxi.size]; omega)) hxi.size hxi.one
    have L3 := ld43_run (W := W3) (block_range hxb) hxi.size
    have hl3' := hC3.lt
    clear hC3 hR3 hT3 hxi hxb hxc KX HC2 HT2 H H0
    go_wp2_with fail
    refine bodyPost_ret (results_none rfl _ _ _) rfl ?_
    exact HY.out
  · -- nothing more
    have HF : Hid (fin = (c, st)) := hide (by rw [hfin]; unfold restF; rw [if_neg (by omega), if_neg (by omega), if_neg (by omega)])
    have e4 : ((kd : Int) == 4) = false := by simp; omega
    have e3 : ((kd : Int) == 3) = false := by simp; omega
    have e1 : ((kd : Int) != 1) = false := by simp; omega
    have HX : Hid (RX w0 rb mv s fin.2 (BtR w rb cb fin.1) (.returned (.tuple #[])) w) := by
      rw [HF.out]
      exact .inl ⟨hco, ⟨rfl, HC.out, fun b _ _ _ => rfl⟩, H.out, HT.out⟩
    clear hfin h1 hkd hl
    go_enter Tryz.func42, Tryz.ntmps42
    go_wp2_with fail
    go_end0
    exact HX.out
end
end Go.Proofs.YtekfledccpeblaaGreatDoor
