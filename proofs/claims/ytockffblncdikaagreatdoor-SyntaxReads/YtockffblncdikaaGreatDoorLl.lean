/- The contract of the reader's level. -/
import Derived.Test.YtockffblncdikaaGreatDoorLg
namespace Go.Proofs.YtockffblncdikaaGreatDoor
open Go.RowKit
set_option maxRecDepth 100000
set_option maxHeartbeats 16000000
theorem step_below {ops : Array Oper} {o : Oper} {a : Act} {w : World} {K : Act -> World -> Prop} {Q : Exit -> Act -> World -> Prop} {E : Prop} {args : Array Value} {f : FuncId} {v : Value}
 (hg : o.guard = none) (hrun : (execOp a.eval o).run Tryz.prog w = .ok (.enter f args) w) (hc : Calls Tryz.prog f args w fun e w' => e = .returned v /\ Below w.heap.size w w') (hK : ∀ w', Below w.heap.size w w' -> K (a.put o.dst v) w') :
 if Region.wanted o (yielded ops a.tmps) = true then Oper.wp Tryz.prog o a w K Q else E := by
 have hw : Region.wanted o (yielded ops a.tmps) = true := by simp [Region.wanted, hg]
 rw [if_pos hw]; unfold Oper.wp; rw [hrun]; refine hc.mono ?_; rintro e w' ⟨rfl, hb⟩; exact hK w' hb
theorem step_lvr {ops : Array Oper} {o : Oper} {a : Act} {w : World} {K : Act -> World -> Prop} {Q : Exit -> Act -> World -> Prop} {E : Prop} {args : Array Value} {f : FuncId} {S : Nat -> Prop} {l : LvB}
 (hg : o.guard = none) (hrun : (execOp a.eval o).run Tryz.prog w = .ok (.enter f args) w) (hc : Calls Tryz.prog f args w fun e w' => LvR S l e w' /\ Below w.heap.size w w')
 (hK : ∀ (k : Int) (nm : ByteArray) (A : Option Addr) (n c : Nat) (w' : World), InP w' S l (.agg #[.int .i64 k, .string nm, .slice A n c]) -> Below w.heap.size w w' -> K (a.put o.dst (.agg #[.int .i64 k, .string nm, .slice A n c])) w') :
 if Region.wanted o (yielded ops a.tmps) = true then Oper.wp Tryz.prog o a w K Q else E := by
 have hw : Region.wanted o (yielded ops a.tmps) = true := by simp [Region.wanted, hg]
 rw [if_pos hw]; unfold Oper.wp; rw [hrun]; refine hc.mono ?_; rintro e w' ⟨⟨k, nm, A, n, c, rfl, h1⟩, hb⟩; exact hK k nm A n c w' h1 hb
theorem chain_succN : ∀ (k : Nat) (l : LvB), chain (succN k l) = k + chain l
 | 0, l => by simp [succN]
 | k + 1, l => by rw [show succN (k + 1) l = succN k (.succ l) from rfl, chain_succN k]; simp only [chain]; omega
theorem raised_chain {s : ByteArray} {l : LvB} {st : FS} (h : chain l <= 99) : chain (raised s l st).1 <= 99 := by
 unfold raised
 split
 . split
   . exact h
   . simp only [chain_succN]; omega
 . exact h
theorem latom_chain {s : ByteArray} {L : FS -> LvB × FS} (hL : ∀ st, chain (L st).1 <= 99) (st : FS) : chain (latomF s L st).1 <= 99 := by
 unfold latomF
 split
 . exact raised_chain (by simp [chain])
 split
 . simp [chain]
 split
 . exact hL _
 . simp [chain]
theorem plus_chain {s : ByteArray} : ∀ (m : Nat) (l : LvB) (st : FS), chain l <= 99 -> chain (plusN s m l st).1 <= 99
 | 0, _, _, h => h
 | m + 1, l, st, h => by
   simp only [plusN]
   split
   . exact plus_chain m _ _ (raised_chain h)
   . exact h
theorem level_chain {s : ByteArray} : ∀ (n : Nat) (st : FS), chain (levelN s n st).1 <= 99
 | 0, _ => by simp [levelN, chain]
 | n + 1, st => by
   simp only [levelN]
   unfold levelF
   split
   . simp [chain]
   split
   . simp [chain]
   . exact plus_chain _ _ _ (latom_chain (level_chain n) _)
theorem raised_numF {s : ByteArray} {l : LvB} {st : FS} (h : chain l <= 99) : (raised s l st).2 = numF s (99 - chain l) st /\ ((numF s (99 - chain l) st).code = 0 -> (raised s l st).1 = succN (decV st.t.t) l /\ chain l + decV st.t.t <= 99) := by
 unfold raised numF
 by_cases hk : st.kin 2 = true
 . have hc := (FS.kin_kd hk).1
   rw [if_pos hk]
   by_cases hd : 99 < chain l + decV st.t.t
   . rw [if_pos hd, if_neg (by omega)]
     refine ⟨rfl, fun h => ?_⟩
     simp [FS.fail, hc] at h
   . rw [if_neg hd, if_pos ⟨hk, by omega⟩]
     exact ⟨rfl, fun _ => ⟨rfl, by omega⟩⟩
 . rw [if_neg hk, if_neg (fun h => hk h.1)]
   refine ⟨rfl, fun h => ?_⟩; unfold FS.fail at h
   split at h
   . simp at h
   . rename_i hc; exact absurd h hc
theorem plus_stop {s : ByteArray} {st : FS} (h : st.is sPlus = false) (m : Nat) (l : LvB) : plusN s m l st = (l, st) := by
 cases m with
 | zero => rfl
 | succ m => simp only [plusN]; rw [if_neg (by rw [h]; simp)]
section
variable {rb : Nat} {mv : Value} {s : ByteArray}
structure PlSt (w : World) (rb : Nat) (mv : Value) (s : ByteArray) (bx : Nat) (l : LvB) (st : FS) (k : Int) (nm : ByteArray) (A : Option Addr) (n c : Nat) (W : World) : Prop where
 box : LBox W bx k nm (.slice A n c)
 res : LBox W w.heap.size 0 ⟨#[]⟩ (.slice none 0 0)
 inp : InP W (fun b => w.heap.size + 1 <= b /\ b ≠ bx) l (.agg #[.int .i64 k, .string nm, .slice A n c])
 rdy : Rdy W rb mv s st
 old : Touched (w.alloc zlv) rb W
 few : chain l <= 99
theorem PlSt.touched {w : World} {bx : Nat} {l : LvB} {st st' : FS} {k : Int} {nm : ByteArray} {A : Option Addr} {n c : Nat} {W W' : World} (h : PlSt w rb mv s bx l st k nm A n c W) (hR : Rdy W' rb mv s st') (hT : Touched W rb W') (h1 : bx ≠ rb) (h2 : rb < w.heap.size) : PlSt w rb mv s bx l st' k nm A n c W' :=
 ⟨h.box.of_block (hT.at h.box.lt h1), h.res.of_block (hT.at h.res.lt (by omega)), h.inp.keep fun b hb hS => ⟨hS, hT.at hb (by omega)⟩, hR, h.old.trans hT, h.few⟩
theorem level_step (n : Nat) (ih : LvlC rb mv s n) : LvlC rb mv s (n + 1) := by
 intro st w h hl; have H := hide h; have hc := h.code; have hlt := h.lt; have hA := h.alloc zlv; have KT := hide (tookQ hA wMax)
 show Calls _ _ _ _ fun e w' => RQ w rb mv s (levelF s (levelN s n) (n + 1) st).2 (LvR (fun b => w.heap.size <= b) (levelF s (levelN s n) (n + 1) st).1) e w'
 by_cases hq : st.is wMax = true
 . have hkd := (FS.is_kd hq).2.1
   have hlef := FS.step_left h.ok hc (by omega) (by omega)
   have HFin : Hid (levelF s (levelN s n) (n + 1) st = (grt 2 (twoF s (levelN s n) (st.step s)).1 (twoF s (levelN s n) (st.step s)).2.1, (twoF s (levelN s n) (st.step s)).2.2)) := hide (by unfold levelF; rw [if_pos hq]; rfl)
   rw [HFin.out]; rw [hq, if_pos rfl] at KT
   have HG : Hid (∀ W, Rdy W rb mv s (st.step s) -> Calls Tryz.prog 145 #[.pointer (some ⟨rb, 0, none⟩), .int .i64 (2 : Nat)] W fun e w' => RQ W rb mv s (twoF s (levelN s n) (st.step s)).2.2 (LvR (fun b => W.heap.size <= b) (grt 2 (twoF s (levelN s n) (st.step s)).1 (twoF s (levelN s n) (st.step s)).2.1)) e w') := fun W hW => greater_calls n ih 2 (.inl rfl) (st.step s) W hW (by omega)
   clear h hA hq hkd hlef ih HFin; generalize grt 2 (twoF s (levelN s n) (st.step s)).1 (twoF s (levelN s n) (st.step s)).2.1 = res at *; generalize (twoF s (levelN s n) (st.step s)).2.2 = st2 at *
   generalize st.step s = st1 at *
   go_enter Tryz.func134, Tryz.ntmps134
   go_wp2_with (go_at_call 38; refine KT.out.mono ?_)
   rintro e W1 ⟨rfl, hR1, hT1⟩; have KG := hide (HG.out W1 hR1); have HT1 := hide hT1; clear hR1 hT1 KT HG
   go_wp2_with (go_at_call 145; refine KG.out.mono ?_)
   intro e W2 h2
   rcases h2 with ⟨hc2, ⟨k2, nm2, A2, n2, c2, rfl, hI2⟩, hR2, hT2⟩ | ⟨hc2, hth⟩
   rotate_left
   . have HF : Hid (RQ w rb mv s st2 (LvR (fun b => w.heap.size <= b) res) e W2) := RQ.bad hc2 hth ((Touched.alloc _ _ _).trans HT1.out) rfl
     obtain ⟨fb, rfl, -⟩ := hth
     go_wp2_with fail
     exact ⟨rfl, HF.out⟩
   have hT4 := HT1.out.trans hT2; have hz1 := HT1.out.size; have hbx := lv_box H.out hT4; have r0 := hbx.c0; have r1 := hbx.c1; have r2 := hbx.c2; have rf := hbx.f; have rl := hbx.lt
   have HF : Hid (∀ u0 u1 u2, RQ w rb mv s st2 (LvR (fun b => w.heap.size <= b) res) (.returned (.agg #[.int .i64 k2, .string nm2, .slice A2 n2 c2])) (set3 W2 w.heap.size u0 u1 u2)) := fun u0 u1 u2 => lv_ret H.out hR2 hT4 (hI2.keep fun b _ hb => ⟨by have : W1.heap.size <= b := hb; simp at hz1; omega, rfl⟩)
   clear hR2 hT2 hT4 hbx hI2 KG
   go_wp2_with fail
   refine bodyPost_ret (v := .agg #[.int .i64 k2, .string nm2, .slice A2 n2 c2]) (by simp [results, Tryz.results134, go_sem, r0, r1, r2]) rfl ?_; exact HF.out _ _ _
 . have hq' : st.is wMax = false := by simpa using hq
   rw [hq', if_neg (by simp)] at KT
   have HT2 : Hid (∀ W, Rdy W rb mv s st -> Calls Tryz.prog 38 #[.pointer (some ⟨rb, 0, none⟩), .string wImax] W fun e w' => e = .returned (.bool (st.is wImax)) /\ Rdy w' rb mv s (if st.is wImax = true then st.step s else st) /\ Touched W rb w') := fun W hW => tookQ hW wImax
   by_cases hi : st.is wImax = true
   . have hkd := (FS.is_kd hi).2.1
     have hlef := FS.step_left h.ok hc (by omega) (by omega)
     have HFin : Hid (levelF s (levelN s n) (n + 1) st = (grt 3 (twoF s (levelN s n) (st.step s)).1 (twoF s (levelN s n) (st.step s)).2.1, (twoF s (levelN s n) (st.step s)).2.2)) := hide (by unfold levelF; rw [if_neg hq, if_pos hi]; rfl)
     rw [HFin.out]; rw [hi, if_pos rfl] at HT2
     have HG : Hid (∀ W, Rdy W rb mv s (st.step s) -> Calls Tryz.prog 145 #[.pointer (some ⟨rb, 0, none⟩), .int .i64 (3 : Nat)] W fun e w' => RQ W rb mv s (twoF s (levelN s n) (st.step s)).2.2 (LvR (fun b => W.heap.size <= b) (grt 3 (twoF s (levelN s n) (st.step s)).1 (twoF s (levelN s n) (st.step s)).2.1)) e w') := fun W hW => greater_calls n ih 3 (.inr rfl) (st.step s) W hW (by omega)
     clear h hA hq hq' hi hkd hlef ih HFin; generalize grt 3 (twoF s (levelN s n) (st.step s)).1 (twoF s (levelN s n) (st.step s)).2.1 = res at *; generalize (twoF s (levelN s n) (st.step s)).2.2 = st2 at *
     generalize st.step s = st1 at *
     go_enter Tryz.func134, Tryz.ntmps134
     go_wp2_with (go_at_call 38; refine KT.out.mono ?_)
     rintro e W1 ⟨rfl, hR1, hT1⟩; have KT2 := hide (HT2.out W1 hR1); have HT0 := hide hT1; clear hR1 hT1 KT HT2
     go_wp2_with (go_at_call 38; refine KT2.out.mono ?_)
     rintro e W1' ⟨rfl, hR1, hT1'⟩; have hT1 := HT0.out.trans hT1'; clear hT1' KT2 HT0; obtain ⟨W1, rfl⟩ : ∃ W, W = W1' := ⟨_, rfl⟩; have KG := hide (HG.out W1 hR1); have HT1 := hide hT1; clear hR1 hT1 HG
     go_wp2_with (go_at_call 145; refine KG.out.mono ?_)
     intro e W2 h2
     rcases h2 with ⟨hc2, ⟨k2, nm2, A2, n2, c2, rfl, hI2⟩, hR2, hT2⟩ | ⟨hc2, hth⟩
     rotate_left
     . have HF : Hid (RQ w rb mv s st2 (LvR (fun b => w.heap.size <= b) res) e W2) := RQ.bad hc2 hth ((Touched.alloc _ _ _).trans HT1.out) rfl
       obtain ⟨fb, rfl, -⟩ := hth
       go_wp2_with fail
       exact ⟨rfl, HF.out⟩
     have hT4 := HT1.out.trans hT2; have hz1 := HT1.out.size; have hbx := lv_box H.out hT4; have r0 := hbx.c0; have r1 := hbx.c1; have r2 := hbx.c2; have rf := hbx.f; have rl := hbx.lt
     have HF : Hid (∀ u0 u1 u2, RQ w rb mv s st2 (LvR (fun b => w.heap.size <= b) res) (.returned (.agg #[.int .i64 k2, .string nm2, .slice A2 n2 c2])) (set3 W2 w.heap.size u0 u1 u2)) := fun u0 u1 u2 => lv_ret H.out hR2 hT4 (hI2.keep fun b _ hb => ⟨by have : W1.heap.size <= b := hb; simp at hz1; omega, rfl⟩)
     clear hR2 hT2 hT4 hbx hI2 KG
     go_wp2_with fail
     refine bodyPost_ret (v := .agg #[.int .i64 k2, .string nm2, .slice A2 n2 c2]) (by simp [results, Tryz.results134, go_sem, r0, r1, r2]) rfl ?_; exact HF.out _ _ _
   . have hi' : st.is wImax = false := by simpa using hi
     rw [hi', if_neg (by simp)] at HT2; have HFin : Hid (levelF s (levelN s n) (n + 1) st = plusN s (n + 1) (latomN s n st).1 (latomN s n st).2) := hide (by unfold levelF; rw [if_neg hq, if_neg hi]; rfl)
     rw [HFin.out]
     have HL : Hid (∀ W, Rdy W rb mv s st -> Calls Tryz.prog 135 #[.pointer (some ⟨rb, 0, none⟩)] W fun e w' => RQ W rb mv s (latomN s n st).2 (LvR (fun b => W.heap.size <= b) (latomN s n st).1) e w') := fun W hW => latom_calls n ih st W hW (by omega)
     have hd1 := latomN_fwd n st h.ok; have HLe : Hid ((latomN s n st).2.left s < n + 1) := hide (by have := hd1.left; omega); have HCh : Hid (chain (latomN s n st).1 <= 99) := latom_chain (level_chain n) st
     have HBad : Hid ((latomN s n st).2.code ≠ 0 -> (plusN s (n + 1) (latomN s n st).1 (latomN s n st).2).2 = (latomN s n st).2) := fun hc => by rw [plus_stop (is_bad hc _)]
     clear h hA hq hq' hi hi' ih HFin hd1 hl; generalize (latomN s n st).2 = st1 at *; generalize (latomN s n st).1 = l1 at *; obtain ⟨fin, hfin⟩ : ∃ fin, fin = plusN s (n + 1) l1 st1 := ⟨_, rfl⟩
     rw [<- hfin] at HBad ⊢; have HFi := hide hfin; clear hfin
     go_enter Tryz.func134, Tryz.ntmps134
     go_wp2_with (go_at_call 38; refine KT.out.mono ?_)
     rintro e W0 ⟨rfl, hR0, hT0⟩; have KT2 := hide (HT2.out W0 hR0); have HT0 := hide hT0; clear hR0 hT0 KT HT2
     go_wp2_with (go_at_call 38; refine KT2.out.mono ?_)
     rintro e W1 ⟨rfl, hR1, hT1⟩; have KL := hide (HL.out W1 hR1); have HT1 := hide (HT0.out.trans hT1); clear hR1 hT1 KT2 HT0 HL
     go_wp2_with (go_at_call 135; refine KL.out.mono ?_)
     intro e W2 h2
     rcases h2 with ⟨hc2, ⟨k2, nm2, A2, n2, c2, rfl, hI2⟩, hR2, hT2⟩ | ⟨hc2, hth⟩
     rotate_left
     . have HF : Hid (RQ w rb mv s fin.2 (LvR (fun b => w.heap.size <= b) fin.1) e W2) := RQ.bad hc2 hth ((Touched.alloc _ _ _).trans HT1.out) (HBad.out hc2)
       obtain ⟨fb, rfl, -⟩ := hth
       go_wp2_with fail
       exact ⟨rfl, HF.out⟩
     have hz1 := HT1.out.size; have hz2 := hT2.size; have hrl := hR2.lt; have hz3 : w.heap.size + 1 <= W2.heap.size := by simp at hz1; omega
     have HP : Hid (PlSt w rb mv s W2.heap.size l1 st1 k2 nm2 A2 n2 c2 (W2.alloc (.cells #[.int .i64 k2, .string nm2, .slice A2 n2 c2] 164))) :=
      ⟨lvbox_new, (lv_box H.out (HT1.out.trans hT2)).of_block (Below.heap_alloc _ _ _ (by omega)), hI2.keep fun b hb hS => ⟨⟨by have : W1.heap.size <= b := hS; simp at hz1; omega, by omega⟩, Below.heap_alloc _ _ _ hb⟩, hR2.alloc _, (HT1.out.trans hT2).trans (Touched.alloc _ _ _), HCh.out⟩
     clear hI2 hR2 hT2 KL HT1 hz1 hz2 HBad
     go_wp2_with fail
     go_loopg [] (n + 1) (fun g wr => ∃ (l : LvB) (st' : FS) (k : Int) (nm : ByteArray) (A : Option Addr) (m c : Nat), Hid (plusN s g l st' = fin) /\ Hid (st'.left s < g) /\ Hid (PlSt w rb mv s W2.heap.size l st' k nm A m c wr))
     case atStart => exact ⟨l1, st1, k2, nm2, A2, n2, c2, HFi.out.symm, HLe.out, HP.out⟩
     case round =>
      clear HP HLe HFi HCh; obtain ⟨l, st', k, nm, A, m, c, HE, HLt, HS⟩ := hrel; obtain ⟨g', rfl⟩ : ∃ g', gk = g' + 1 := ⟨gk - 1, by have := HLt.out; omega⟩; have hok := HS.out.rdy.ok; have hco := HS.out.rdy.code
      have KT := hide (tookQ HS.out.rdy sPlus)
      by_cases hp : st'.is sPlus = true
      . have hkd := (FS.is_kd hp).2.1
        have hlef := FS.step_left hok hco (by omega) (by omega)
        have HE2 : Hid (plusN s g' (raised s l (st'.step s)).1 (raised s l (st'.step s)).2 = fin) := hide (by have := HE.out; simp only [plusN] at this; rw [if_pos hp] at this; exact this)
        have hdn : Dn s (st'.step s) (raised s l (st'.step s)).2 := (Dn.refl hok.step).raised; have HL2 : Hid ((raised s l (st'.step s)).2.left s < g') := hide (by have := hdn.left; have := HLt.out; omega)
        obtain ⟨hr1, hr2⟩ := raised_numF (s := s) (st := st'.step s) HS.out.few; rw [hp, if_pos rfl] at KT; rw [hr1] at HE2 HL2; have HR2 := hide hr2; have hfew := HS.out.few
        have HRC := hide (raised_chain (s := s) (st := st'.step s) HS.out.few); clear hr1 hr2 hdn hlef hkd hp hok hco HE HLt; generalize (raised s l (st'.step s)).1 = l' at *
        have HNm : Hid (∀ W, Rdy W rb mv s (st'.step s) -> Calls Tryz.prog 89 #[.pointer (some ⟨rb, 0, none⟩), .int .i64 ((99 - chain l : Nat) : Nat)] W fun e w' => RQ W rb mv s (numF s (99 - chain l) (st'.step s)) (fun e _ => e = .returned (.int .i64 (decV (st'.step s).t.t : Nat))) e w') := fun W hW => numberQ hW (99 - chain l) (by omega)
        generalize numF s (99 - chain l) (st'.step s) = st2 at *; generalize decV (st'.step s).t.t = dv at *; generalize st'.step s = sta at *
        go_wp2_with (go_at_call 38; refine KT.out.mono ?_)
        rintro e W3 ⟨rfl, hR3, hT3⟩; have HS3 := hide (HS.out.touched hR3 hT3 (by omega) hlt); have v0 := HS3.out.box.c0; have v1 := HS3.out.box.c1; have v2 := HS3.out.box.c2; have vl := HS3.out.box.lt
        have KS := hide (successors_calls l _ k nm A m c W3.drew (InP.keep (w := W3) (w' := W3.drew) (S' := fun b => w.heap.size + 1 <= b /\ b ≠ W2.heap.size) (fun b _ hS => ⟨hS, rfl⟩) HS3.out.inp) (by omega))
        clear hR3 hT3 KT
        go_wp2_with fail
        go_region_law (first
         | (refine step_below (f := 146) rfl ?_ KS.out ?_
            . simp [go_sem]
            intro w4 hB4; have HS4 := hide (HS3.out.touched (HS3.out.rdy.drew.later hB4) (Touched.of_below (Below.refl _ _).drew |>.trans (Touched.of_below hB4)) (by omega) hlt); have v0 := HS4.out.box.c0
            have v1 := HS4.out.box.c1; have v2 := HS4.out.box.c2; have hsub : IntKind.i64.wrap (99 - (chain l : Int)) = ((99 - chain l : Nat) : Int) := by rw [IntKind.wrap_i64]; omega
            have KN := hide (HNm.out w4 HS4.out.rdy))
         | (refine step_rq (f := 89) rfl ?_ KN.out (fun e w' h => ⟨_, h⟩) ?_ ?_
            . simp [go_sem]
            . intro fb w5 hc5 h5
              have hfi : fin.2 = st2 := by rw [<- HE2.out, plus_stop (is_bad hc5 _)]
              exact ⟨rfl, RQ.bad hc5 h5 ((Touched.alloc _ _ _).trans HS4.out.old) hfi⟩
            intro v w5 hc5 hG5 hR5 hT5; injection hG5 with hG5; subst hG5; have HS5 := hide (HS4.out.touched hR5 hT5 (by omega) hlt); have v0 := HS5.out.box.c0; have v1 := HS5.out.box.c1
            have v2 := HS5.out.box.c2; have KR := hide (raised_calls l dv (by have := (HR2.out hc5).2; omega) _ k nm A m c w5 HS5.out.inp))
         | (refine step_lvr (f := 136) rfl ?_ KR.out ?_
            . simp [go_sem]
            intro k6 nm6 A6 n6 c6 w6 hI6 hB6; have HS6 := hide (HS5.out.touched (HS5.out.rdy.later hB6) (Touched.of_below hB6) (by omega) hlt); have v0 := HS6.out.box.c0; have v1 := HS6.out.box.c1
            have v2 := HS6.out.box.c2; have vf := HS6.out.box.f; have vl := HS6.out.box.lt))
        all_goals
         have hl' := (HR2.out hc5).1; subst hl'; have hz5 := HS5.out.box.lt; have hz4 := HS5.out.old.size
         have HS7 : Hid (PlSt w rb mv s W2.heap.size (succN dv l) st2 k6 nm6 A6 n6 c6 (set3 w6 W2.heap.size (.int .i64 k6) (.string nm6) (.slice A6 n6 c6))) := by
          have hT7 : Touched (w.alloc zlv) rb (set3 w6 W2.heap.size (.int .i64 k6) (.string nm6) (.slice A6 n6 c6)) := set3_touched (by simp; omega) HS6.out.old
          refine ⟨HS6.out.box.set3 _ _ _, HS6.out.res.of_block (set3_block (by omega)), InP.set3 hI6 fun b _ hb => ?_, H.out.next (HS6.out.rdy.rd.of_block (set3_block (by omega))) HS6.out.rdy.ok ((Touched.alloc _ _ _).trans hT7), hT7, HRC.out⟩
          rcases hb with hb | hb
          . exact ⟨hb, hb.2⟩
          . exact ⟨⟨by simp at hz4; omega, by omega⟩, by omega⟩
         clear hI6 hB6 hR5 hT5 hB4 HS6 HS5 HS4 KR KN KS HS3 HS
         go_wp2_with fail
         go_roundg g'
         case measure => omega
         case rel => exact ⟨_, st2, k6, nm6, A6, n6, c6, HE2.out, HL2.out, HS7.out⟩
      . have hp' : st'.is sPlus = false := by simpa using hp
        have hfi : fin = (l, st') := by rw [<- HE.out, plus_stop hp']
        rw [hp', if_neg (by simp)] at KT; subst hfi; clear HE HLt hp hp' hok hco
        go_wp2_with (go_at_call 38; refine KT.out.mono ?_)
        rintro e W3 ⟨rfl, hR3, hT3⟩; have HS3 := hide (HS.out.touched hR3 hT3 (by omega) hlt); have v0 := HS3.out.box.c0; have v1 := HS3.out.box.c1; have v2 := HS3.out.box.c2; have r0 := HS3.out.res.c0
        have r1 := HS3.out.res.c1; have r2 := HS3.out.res.c2; have rf := HS3.out.res.f; have rl := HS3.out.res.lt
        have HF : Hid (∀ u0 u1 u2, RQ w rb mv s st' (LvR (fun b => w.heap.size <= b) l) (.returned (.agg #[.int .i64 k, .string nm, .slice A m c])) (set3 W3 w.heap.size u0 u1 u2)) := fun u0 u1 u2 => lv_ret H.out HS3.out.rdy HS3.out.old (HS3.out.inp.keep fun b _ hb => ⟨hb.1, rfl⟩)
        clear hR3 hT3 KT HS HS3
        go_wp2_with fail
        refine bodyPost_ret (v := .agg #[.int .i64 k, .string nm, .slice A m c]) (by simp [results, Tryz.results134, go_sem, r0, r1, r2]) rfl ?_; exact HF.out _ _ _
theorem level_all : ∀ n, LvlC rb mv s n
 | 0 => fun _ _ _ h => absurd h (by omega)
 | n + 1 => level_step n (level_all n)
end
end Go.Proofs.YtockffblncdikaaGreatDoor
