/- The contract of the reader's greater. -/
import Derived.Test.YtockffblncdikaaGreatDoorRq
import Derived.Deep.RegionLaw
namespace Go.Proofs.YtockffblncdikaaGreatDoor
open Go.RowKit
set_option maxRecDepth 100000
set_option maxHeartbeats 16000000
abbrev zlv : Obj := .cells #[.int .i64 0, .string ⟨#[]⟩, .slice none 0 0] 164
section
variable {rb : Nat} {mv : Value} {s : ByteArray}
theorem lv_ret {w W : World} {st st' : FS} {l : LvB} {k : Int} {nm : ByteArray} {A : Option Addr} {n c : Nat} {u0 u1 u2 : Value} (h0 : Rdy w rb mv s st) (hR : Rdy W rb mv s st') (hT : Touched (w.alloc zlv) rb W) (hI : InP W (fun b => w.heap.size + 1 <= b) l (.agg #[.int .i64 k, .string nm, .slice A n c])) :
 RQ w rb mv s st' (LvR (fun b => w.heap.size <= b) l) (.returned (.agg #[.int .i64 k, .string nm, .slice A n c])) (set3 W w.heap.size u0 u1 u2) := by
 have hl := h0.lt; have hT' : Touched w rb (set3 W w.heap.size u0 u1 u2) := set3_touched (Nat.le_refl _) ((Touched.alloc w rb zlv).trans hT)
 refine .inl ⟨hR.code, ⟨k, nm, A, n, c, rfl, InP.set3 hI fun b _ hb => ⟨by omega, by omega⟩⟩, h0.next (hR.rd.of_block (set3_block (by omega))) hR.ok hT', hT'⟩
theorem lv_box {w W : World} {st : FS} (h0 : Rdy w rb mv s st) (hT : Touched (w.alloc zlv) rb W) : LBox W w.heap.size 0 ⟨#[]⟩ (.slice none 0 0) := (hT.at (by simp) (by have := h0.lt; omega)).trans (heap_alloc_new _ _)
theorem must_bad {st : FS} (h : st.code ≠ 0) (q : ByteArray) : st.must s q = st := by
 unfold FS.must FS.fail FS.is; rw [show (st.code == 0) = false from by simpa using h]
 simp [h]
theorem is_bad {st : FS} (h : st.code ≠ 0) (q : ByteArray) : st.is q = false := by
 unfold FS.is; rw [show (st.code == 0) = false from by simpa using h]
 rfl
theorem lvbox_new {W : World} {k : Int} {nm : ByteArray} {A : Option Addr} {n c : Nat} : LBox (W.alloc (.cells #[.int .i64 k, .string nm, .slice A n c] 164)) W.heap.size k nm (.slice A n c) := heap_alloc_new _ _
def LvlC (rb : Nat) (mv : Value) (s : ByteArray) (n : Nat) : Prop := ∀ (st : FS) (w : World), Rdy w rb mv s st -> st.left s < n -> Calls Tryz.prog 134 #[.pointer (some ⟨rb, 0, none⟩)] w fun e w' => RQ w rb mv s (levelN s n st).2 (LvR (fun b => w.heap.size <= b) (levelN s n st).1) e w'
theorem kin_eq {st : FS} (hc : st.code = 0) (k : Nat) : st.kin k = (st.t.kd == k) := by unfold FS.kin; rw [hc]; rfl
theorem latom_num {L : FS -> LvB × FS} {st : FS} (hc : st.code = 0) (hk : st.t.kd = 2 \/ st.t.kd = 4) : (latomF s L st).2 = numF s 99 st /\ ((numF s 99 st).code = 0 -> (latomF s L st).1 = succN (decV st.t.t) .zero /\ decV st.t.t <= 99) := by
 have hi : st.is sOpen = false := by
  unfold FS.is; rw [show (st.t.kd == 3) = false from by simp; omega]
  simp
 unfold latomF raised numF; rw [kin_eq hc, kin_eq hc, hi]
 rcases hk with hk | hk
 . rw [hk]
   simp only [beq_self_eq_true, if_true, true_and, chain, Nat.zero_add]
   by_cases h99 : decV st.t.t <= 99
   . rw [if_neg (by omega), if_pos h99]
     exact ⟨rfl, fun _ => ⟨rfl, h99⟩⟩
   . rw [if_pos (by omega), if_neg h99]
     refine ⟨rfl, fun h => ?_⟩; unfold FS.fail at h; rw [if_pos hc] at h
     simp at h
 . rw [hk]
   simp
   intro h; unfold FS.fail at h; rw [if_pos hc] at h
   simp at h
theorem latom_calls (n : Nat) (ih : LvlC rb mv s n) (st : FS) (w : World) (h : Rdy w rb mv s st) (hl : st.left s <= n) :
 Calls Tryz.prog 135 #[.pointer (some ⟨rb, 0, none⟩)] w fun e w' => RQ w rb mv s (latomN s n st).2 (LvR (fun b => w.heap.size <= b) (latomN s n st).1) e w' := by
 have H := hide h; have hc := h.code; have hlt := h.lt; have hA : Rdy (w.alloc zlv) rb mv s st := h.alloc zlv; obtain ⟨k, t, d1, d2, d3, hk01, hgood, hbad, hts⟩ := hA.kind; have HA := hide hA
 by_cases hk : k = 2
 . subst hk
   have hkd : st.t.kd = 2 \/ st.t.kd = 4 := by
    have := h.ok.kd
    by_cases h3 : st.t.kd <= 3
    . exact .inl (hgood h3).1.symm
    . exact .inr (by omega)
   obtain ⟨hf, hv⟩ := latom_num (s := s) (L := levelN s n) hc hkd; have HV := hide hv; have KN := hide (numberQ hA 99 (by omega))
   show Calls _ _ _ _ fun e w' => RQ w rb mv s (latomF s (levelN s n) st).2 (LvR (fun b => w.heap.size <= b) (latomF s (levelN s n) st).1) e w'
   rw [hf]; clear h hA hf hv hkd hk01 hgood hbad; generalize (latomF s (levelN s n) st).1 = res at *; generalize numF s 99 st = st1 at *; generalize decV st.t.t = v at *
   go_enter Tryz.func135, Tryz.ntmps135
   go_wp2_with (go_at_call 89; refine KN.out.mono ?_)
   intro e W1 h1
   rcases h1 with ⟨hc1, rfl, hR1, hT1⟩ | ⟨hc1, hth⟩
   rotate_left
   . have HF : Hid (RQ w rb mv s st1 (LvR (fun b => w.heap.size <= b) res) e W1) := RQ.bad hc1 hth (Touched.alloc _ _ _) rfl
     obtain ⟨fb, rfl, -⟩ := hth
     go_wp2_with fail
     exact ⟨rfl, HF.out⟩
   obtain ⟨rfl, hv99⟩ := HV.out hc1; have KR := hide (raised_calls .zero v (by omega) (fun _ => False) 0 ⟨#[]⟩ none 0 0 W1 rfl); have HR1 := hide hR1; have HT1 := hide hT1; clear hR1 hT1 KN HV
   go_wp2_with (go_at_call 136; refine KR.out.mono ?_)
   rintro e W2 ⟨⟨k2, nm2, A2, n2, c2, rfl, hI2⟩, hB2⟩; have hT2 := HT1.out.later hB2; have hbx := lv_box H.out hT2; have r0 := hbx.c0; have r1 := hbx.c1; have r2 := hbx.c2; have rf := hbx.f; have rl := hbx.lt
   have hz1 := HT1.out.size
   have HF : Hid (∀ u0 u1 u2, RQ w rb mv s st1 (LvR (fun b => w.heap.size <= b) (succN v .zero)) (.returned (.agg #[.int .i64 k2, .string nm2, .slice A2 n2 c2])) (set3 W2 w.heap.size u0 u1 u2)) := fun u0 u1 u2 => lv_ret H.out (HR1.out.later hB2) hT2 (hI2.keep fun b _ hb => ⟨by simp at hz1; rcases hb with hb | hb; exact hb.elim; omega, rfl⟩)
   clear hI2 hB2 hT2 hbx KR
   go_wp2_with fail
   refine bodyPost_ret (v := .agg #[.int .i64 k2, .string nm2, .slice A2 n2 c2]) (by simp [results, Tryz.results135, go_sem, r0, r1, r2]) rfl ?_; exact HF.out _ _ _
 . have hk2 : ((k : Int) == 2) = false := by simp; omega
   have hkin2 : st.kin 2 = false := by
    rw [kin_eq hc]
    cases e : (st.t.kd == 2)
    . rfl
    . have e2 : st.t.kd = 2 := by simpa using e
      exact absurd ((hgood (by omega)).1.trans e2) hk
   have KT := hide (tookQ hA sOpen); have HO := hide h.ok
   by_cases hq : st.is sOpen = true
   . have hkd := (FS.is_kd hq).2.1
     have hkin1 : st.kin 1 = false := by rw [kin_eq hc, hkd]; rfl
     have hlef := FS.step_left h.ok hc (by omega) (by omega)
     have HFin : Hid (latomN s n st = ((levelN s n (st.step s)).1, (levelN s n (st.step s)).2.must s sShut)) := hide (by unfold latomN latomF; simp only [hkin2, hkin1, hq]; rfl); rw [HFin.out]
     rw [hq, if_pos rfl] at KT
     have HIH : Hid (∀ W, Rdy W rb mv s (st.step s) -> Calls Tryz.prog 134 #[.pointer (some ⟨rb, 0, none⟩)] W fun e w' => RQ W rb mv s (levelN s n (st.step s)).2 (LvR (fun b => W.heap.size <= b) (levelN s n (st.step s)).1) e w') := fun W hW => ih _ W hW (by omega)
     clear h hA hk01 hgood hbad hq hkin2 hkin1 hkd hlef ih hk HFin; generalize (levelN s n (st.step s)).1 = res at *; generalize (levelN s n (st.step s)).2 = st2 at *; generalize st.step s = st1 at *
     go_enter Tryz.func135, Tryz.ntmps135
     go_wp2_with (go_at_call 38; refine KT.out.mono ?_)
     rintro e W1 ⟨rfl, hR1, hT1⟩; have KL := hide (HIH.out W1 hR1); have HT1 := hide hT1; clear hR1 hT1 KT HIH
     go_wp2_with (go_at_call 134; refine KL.out.mono ?_)
     intro e W2 h2
     rcases h2 with ⟨hc2, ⟨k2, nm2, A2, n2, c2, rfl, hI2⟩, hR2, hT2⟩ | ⟨hc2, hth⟩
     rotate_left
     . have HF : Hid (RQ w rb mv s (st2.must s sShut) (LvR (fun b => w.heap.size <= b) res) e W2) := RQ.bad hc2 hth ((Touched.alloc _ _ _).trans HT1.out) (must_bad hc2 _)
       obtain ⟨fb, rfl, -⟩ := hth
       go_wp2_with fail
       exact ⟨rfl, HF.out⟩
     have KE := hide (expectQ (hR2.alloc (.cells #[.int .i64 k2, .string nm2, .slice A2 n2 c2] 164)) sShut)
     have hb2 : LBox (W2.alloc (.cells #[.int .i64 k2, .string nm2, .slice A2 n2 c2] 164)) W2.heap.size k2 nm2 (.slice A2 n2 c2) := lvbox_new; have HB2 := hide hb2; have hrl := hR2.lt; have hz1 := HT1.out.size
     have hz2 := hT2.size
     have HI2 : Hid (InP (W2.alloc (.cells #[.int .i64 k2, .string nm2, .slice A2 n2 c2] 164)) (fun b => w.heap.size + 1 <= b /\ b < W2.heap.size) res (.agg #[.int .i64 k2, .string nm2, .slice A2 n2 c2])) := hI2.keep fun b hb hS => ⟨⟨by simp at hz1; omega, hb⟩, Below.heap_alloc _ _ _ hb⟩
     have HT2 : Hid (Touched (w.alloc zlv) rb (W2.alloc (.cells #[.int .i64 k2, .string nm2, .slice A2 n2 c2] 164))) := (HT1.out.trans hT2).trans (Touched.alloc _ _ _); clear hI2 hR2 hT2 hb2 KL HT1
     go_wp2_with (go_at_call 29; refine KE.out.mono ?_)
     intro e W3 h3
     rcases h3 with ⟨hc3, rfl, hR3, hT3⟩ | ⟨hc3, hth⟩
     rotate_left
     . have HF : Hid (RQ w rb mv s (st2.must s sShut) (LvR (fun b => w.heap.size <= b) res) e W3) := RQ.bad hc3 hth ((Touched.alloc _ _ _).trans HT2.out) rfl
       obtain ⟨fb, rfl, -⟩ := hth
       go_wp2_with fail
       exact ⟨rfl, HF.out⟩
     have hT4 := HT2.out.trans hT3; have hbx := lv_box H.out hT4; have r0 := hbx.c0; have r1 := hbx.c1; have r2 := hbx.c2; have rf := hbx.f; have rl := hbx.lt
     have hvx := HB2.out.of_block (hT3.at (by simp) (by omega)); have v0 := hvx.c0; have v1 := hvx.c1; have v2 := hvx.c2
     have HF : Hid (∀ u0 u1 u2, RQ w rb mv s (st2.must s sShut) (LvR (fun b => w.heap.size <= b) res) (.returned (.agg #[.int .i64 k2, .string nm2, .slice A2 n2 c2])) (set3 W3 w.heap.size u0 u1 u2)) := fun u0 u1 u2 => lv_ret H.out hR3 hT4 (HI2.out.keep fun b hb hS => ⟨hS.1, hT3.at hb (by omega)⟩)
     clear hT3 hR3 hT4 hbx hvx HI2 HT2 HB2 KE
     go_wp2_with fail
     refine bodyPost_ret (v := .agg #[.int .i64 k2, .string nm2, .slice A2 n2 c2]) (by simp [results, Tryz.results135, go_sem, r0, r1, r2]) rfl ?_; exact HF.out _ _ _
   . have hq' : st.is sOpen = false := by simpa using hq
     have HFin : Hid ((latomN s n st).2 = (st.name s).2 /\ ((st.name s).2.code = 0 -> (latomN s n st).1 = .param (st.name s).1)) := hide (by
      unfold latomN latomF
      simp only [hkin2, hq']
      by_cases hk1 : st.kin 1 = true
      . simp only [hk1, if_true]; exact ⟨rfl, fun _ => rfl⟩
      . have hk1' : st.kin 1 = false := by simpa using hk1
        simp only [hk1']
        unfold FS.name; rw [hk1']; refine ⟨rfl, fun h => ?_⟩
        simp [FS.fail, hc] at h)
     rw [hq', if_neg (by simp)] at KT; rw [HFin.out.1]; clear h hA hk01 hgood hbad hq hq' hkin2 hk; generalize (latomN s n st).1 = res at *
     have HNm : Hid (∀ W, Rdy W rb mv s st -> Calls Tryz.prog 26 #[.pointer (some ⟨rb, 0, none⟩)] W fun e w' => RQ W rb mv s (st.name s).2 (fun e _ => e = .returned (.agg #[.int .i64 1, .int .i64 (st.t.at_ : Nat), .string (st.name s).1])) e w') := fun W hW => nameQ hW
     generalize (st.name s).1 = nm at *; generalize (st.name s).2 = st1 at *
     go_enter Tryz.func135, Tryz.ntmps135
     go_wp2_with (go_at_call 38; refine KT.out.mono ?_)
     rintro e W1 ⟨rfl, hR1, hT1⟩; have KL := hide (HNm.out W1 hR1); have HT1 := hide hT1; clear hR1 hT1 KT HNm
     go_wp2_with (go_at_call 26; refine KL.out.mono ?_)
     intro e W2 h2
     rcases h2 with ⟨hc2, rfl, hR2, hT2⟩ | ⟨hc2, hth⟩
     rotate_left
     . have HF : Hid (RQ w rb mv s st1 (LvR (fun b => w.heap.size <= b) res) e W2) := RQ.bad hc2 hth ((Touched.alloc _ _ _).trans HT1.out) rfl
       obtain ⟨fb, rfl, -⟩ := hth
       go_wp2_with fail
       exact ⟨rfl, HF.out⟩
     have hres := HFin.out.2 hc2; subst hres; have hT4 := HT1.out.trans hT2; have hbx := lv_box H.out hT4; have r0 := hbx.c0; have r1 := hbx.c1; have r2 := hbx.c2; have rf := hbx.f; have rl := hbx.lt
     have HF : Hid (∀ u0 u1 u2, RQ w rb mv s st1 (LvR (fun b => w.heap.size <= b) (.param nm)) (.returned (.agg #[.int .i64 4, .string nm, .slice none 0 0])) (set3 W2 w.heap.size u0 u1 u2)) := fun u0 u1 u2 => lv_ret H.out hR2 hT4 rfl
     have hfd : ∀ (w : World), (Instr.field 46 (.agg #[.int .i64 1, .int .i64 (st.t.at_ : Nat), .string nm]) 2).run Tryz.prog w = .ok (.string nm) w := fun w => by kernel_rfl
     clear hR2 hT2 hT4 hbx KL HFin
     go_wp2_with fail
     refine bodyPost_ret (v := .agg #[.int .i64 4, .string nm, .slice none 0 0]) (by simp [results, Tryz.results135, go_sem, r0, r1, r2]) rfl ?_; exact HF.out _ _ _
end
theorem step_rq {ops : Array Oper} {o : Oper} {a : Act} {w : World} {K : Act -> World -> Prop} {Q : Exit -> Act -> World -> Prop} {E : Prop} {args : Array Value} {f : FuncId} {rb : Nat} {mv : Value} {s : ByteArray} {st' : FS} {G : Ending -> World -> Prop}
 (hg : o.guard = none) (hrun : (execOp a.eval o).run Tryz.prog w = .ok (.enter f args) w) (hc : Calls Tryz.prog f args w fun e w' => RQ w rb mv s st' G e w') (hret : ∀ e w', G e w' -> ∃ v, e = .returned v)
 (hQ : ∀ (fb : Nat) (w' : World), st'.code ≠ 0 -> Threw w rb 1 st'.fat (.panicked [{ v := .iface 41 (.pointer (some ⟨fb, 0, none⟩)), recovered := false }]) w' -> Q (.panic [{ v := .iface 41 (.pointer (some ⟨fb, 0, none⟩)), recovered := false }]) a w')
 (hK : ∀ (v : Value) (w' : World), st'.code = 0 -> G (.returned v) w' -> Rdy w' rb mv s st' -> Touched w rb w' -> K (a.put o.dst v) w') :
 if Region.wanted o (yielded ops a.tmps) = true then Oper.wp Tryz.prog o a w K Q else E := by
 have hw : Region.wanted o (yielded ops a.tmps) = true := by simp [Region.wanted, hg]
 rw [if_pos hw]; unfold Oper.wp; rw [hrun]; refine hc.mono ?_; intro e w' h
 rcases h with ⟨h1, h2, h3, h4⟩ | ⟨h1, h2⟩
 . obtain ⟨v, rfl⟩ := hret e w' h2
   exact hK v w' h1 h2 h3 h4
 . obtain ⟨fb, rfl, h3⟩ := h2
   exact hQ fb w' h1 ⟨fb, rfl, h3⟩
theorem LvR.ret {S : Nat -> Prop} {l : LvB} (e : Ending) (w' : World) (h : LvR S l e w') : ∃ v, e = .returned v := by obtain ⟨_, _, _, _, _, h, _⟩ := h; exact ⟨_, h⟩
def grt (kd : Nat) (a b : LvB) : LvB := if kd = 2 then .max a b else .imax a b
theorem InP.grt {W : World} {S : Nat -> Prop} {kd : Nat} (hkd : kd = 2 \/ kd = 3) {a b : LvB} {x y : Value} {g : Nat} (hg : S g) (hx : Three W g 0 x) (hy : Three W g 3 y) (ha : InP W S a x) (hb : InP W S b y) : InP W S (grt kd a b) (.agg #[.int .i64 (kd : Nat), .string ⟨#[]⟩, .slice (some ⟨g, 0, none⟩) 2 2]) := by
 rcases hkd with rfl | rfl
 . exact ⟨g, 2, x, y, rfl, hg, hx, hy, ha, hb⟩
 . exact ⟨g, 2, x, y, rfl, hg, hx, hy, ha, hb⟩
section
variable {rb : Nat} {mv : Value} {s : ByteArray}
theorem lv_ret6 {w W : World} {st st' : FS} {kd : Nat} (hkd : kd = 2 \/ kd = 3) {l1 l2 : LvB} {k1 k2 : Int} {nm1 nm2 : ByteArray} {A1 A2 : Option Addr} {n1 c1 n2 c2 : Nat} {u0 u1 u2 : Value} (h0 : Rdy w rb mv s st) (hR : Rdy W rb mv s st') (hT : Touched (w.alloc zlv) rb W)
 (h1 : InP W (fun b => w.heap.size + 1 <= b) l1 (.agg #[.int .i64 k1, .string nm1, .slice A1 n1 c1])) (h2 : InP W (fun b => w.heap.size + 1 <= b) l2 (.agg #[.int .i64 k2, .string nm2, .slice A2 n2 c2])) :
 RQ w rb mv s st' (LvR (fun b => w.heap.size <= b) (grt kd l1 l2)) (.returned (.agg #[.int .i64 (kd : Nat), .string ⟨#[]⟩, .slice (some ⟨W.heap.size, 0, none⟩) 2 2])) ((set3 W w.heap.size u0 u1 u2).alloc (.cells #[.int .i64 k1, .string nm1, .slice A1 n1 c1, .int .i64 k2, .string nm2, .slice A2 n2 c2] 164)) := by
 have hl := h0.lt; have hz := set3_size (W := W) (r := w.heap.size) (u0 := u0) (u1 := u1) (u2 := u2); have hzT := hT.size
 have hal : ∀ b, b < W.heap.size -> b ≠ w.heap.size -> ((set3 W w.heap.size u0 u1 u2).alloc (.cells #[.int .i64 k1, .string nm1, .slice A1 n1 c1, .int .i64 k2, .string nm2, .slice A2 n2 c2] 164)).heap[b]? = W.heap[b]? := fun b hb hne => (Below.heap_alloc _ _ _ (by rw [hz]; exact hb)).trans (set3_block hne)
 have hnew := heap_alloc_new (set3 W w.heap.size u0 u1 u2) (.cells #[.int .i64 k1, .string nm1, .slice A1 n1 c1, .int .i64 k2, .string nm2, .slice A2 n2 c2] 164); rw [hz] at hnew
 have hT' : Touched w rb ((set3 W w.heap.size u0 u1 u2).alloc (.cells #[.int .i64 k1, .string nm1, .slice A1 n1 c1, .int .i64 k2, .string nm2, .slice A2 n2 c2] 164)) := (set3_touched (Nat.le_refl _) ((Touched.alloc w rb zlv).trans hT)).trans (Touched.alloc _ _ _)
 refine .inl ⟨hR.code, ⟨_, _, _, _, _, rfl, ?_⟩, h0.next (hR.rd.of_block (hal rb hR.lt (by omega))) hR.ok hT', hT'⟩
 refine InP.grt hkd (S := fun b => w.heap.size <= b) (x := .agg #[.int .i64 k1, .string nm1, .slice A1 n1 c1]) (y := .agg #[.int .i64 k2, .string nm2, .slice A2 n2 c2]) (by simp at hzT; omega) ⟨k1, nm1, A1, n1, c1, rfl, cell_of hnew 0 rfl, cell_of hnew 1 rfl, cell_of hnew 2 rfl⟩ ⟨k2, nm2, A2, n2, c2, rfl, cell_of hnew 3 rfl, cell_of hnew 4 rfl, cell_of hnew 5 rfl⟩ ?_ ?_
 . exact h1.keep fun b hb hS => ⟨by omega, hal b hb (by omega)⟩
 . exact h2.keep fun b hb hS => ⟨by omega, hal b hb (by omega)⟩
theorem greater_calls (n : Nat) (ih : LvlC rb mv s n) (kd : Nat) (hkd : kd = 2 \/ kd = 3) (st : FS) (w : World) (h : Rdy w rb mv s st) (hl : st.left s <= n) :
 Calls Tryz.prog 145 #[.pointer (some ⟨rb, 0, none⟩), .int .i64 (kd : Nat)] w fun e w' => RQ w rb mv s (twoF s (levelN s n) st).2.2 (LvR (fun b => w.heap.size <= b) (grt kd (twoF s (levelN s n) st).1 (twoF s (levelN s n) st).2.1)) e w' := by
 have H := hide h; have hlt := h.lt; have KA := hide (latom_calls n ih st _ (h.alloc zlv) hl); have hd1 := latomN_fwd n st h.ok; have HD1 := hide hd1
 have HK2 : Hid (∀ W, Rdy W rb mv s (latomN s n st).2 -> Calls Tryz.prog 135 #[.pointer (some ⟨rb, 0, none⟩)] W fun e w' => RQ W rb mv s (latomN s n (latomN s n st).2).2 (LvR (fun b => W.heap.size <= b) (latomN s n (latomN s n st).2).1) e w') := fun W hW => latom_calls n ih _ W hW (Nat.le_trans hd1.left hl)
 have HBad : Hid ((latomN s n st).2.code ≠ 0 -> (latomN s n (latomN s n st).2).2 = (latomN s n st).2) := fun hc => (latomN_fwd n _ hd1.ok).code hc
 show Calls _ _ _ _ fun e w' => RQ w rb mv s (latomN s n (latomN s n st).2).2 (LvR (fun b => w.heap.size <= b) (grt kd (latomN s n st).1 (latomN s n (latomN s n st).2).1)) e w'
 clear h hd1 HD1 ih; generalize (latomN s n (latomN s n st).2).2 = st2 at *; generalize (latomN s n (latomN s n st).2).1 = l2 at *; generalize (latomN s n st).2 = st1 at *; generalize (latomN s n st).1 = l1 at *
 go_enter Tryz.func145, Tryz.ntmps145
 go_wp2_with (go_at_call 135; refine KA.out.mono ?_)
 intro e W1 h1
 rcases h1 with ⟨hc1, ⟨k1, nm1, A1, n1, c1, rfl, hI1⟩, hR1, hT1⟩ | ⟨hc1, hth⟩
 rotate_left
 . have HF : Hid (RQ w rb mv s st2 (LvR (fun b => w.heap.size <= b) (grt kd l1 l2)) e W1) := RQ.bad hc1 hth (Touched.alloc _ _ _) (HBad.out hc1)
   obtain ⟨fb, rfl, -⟩ := hth
   go_wp2_with fail
   exact ⟨rfl, HF.out⟩
 have hz1 := hT1.size; have hrl := hR1.lt; have HB1 : Hid (LBox (W1.alloc (.cells #[.int .i64 k1, .string nm1, .slice A1 n1 c1] 164)) W1.heap.size k1 nm1 (.slice A1 n1 c1)) := lvbox_new
 have HI1 : Hid (InP (W1.alloc (.cells #[.int .i64 k1, .string nm1, .slice A1 n1 c1] 164)) (fun b => w.heap.size + 1 <= b /\ b < W1.heap.size) l1 (.agg #[.int .i64 k1, .string nm1, .slice A1 n1 c1])) := hI1.keep fun b hb hS => ⟨⟨by simp at hS; omega, hb⟩, Below.heap_alloc _ _ _ hb⟩
 have HT1 : Hid (Touched (w.alloc zlv) rb (W1.alloc (.cells #[.int .i64 k1, .string nm1, .slice A1 n1 c1] 164))) := hT1.trans (Touched.alloc _ _ _)
 have HR1 := hide (hR1.alloc (.cells #[.int .i64 k1, .string nm1, .slice A1 n1 c1] 164)); have hz1' : w.heap.size + 1 <= W1.heap.size := by simpa using hz1
 have hsz : W1.heap.size < (W1.alloc (.cells #[.int .i64 k1, .string nm1, .slice A1 n1 c1] 164)).heap.size := by simp
 clear hI1 hR1 hT1 KA hz1
 go_wp2_with fail
 generalize (W1.alloc (.cells #[.int .i64 k1, .string nm1, .slice A1 n1 c1] 164)) = W at *; have v0 := HB1.out.c0; have v1 := HB1.out.c1; have v2 := HB1.out.c2; have KD := hide (HK2.out W.drew HR1.out.drew)
 go_region_law (first
  | (refine step_rq (f := 135) rfl ?_ KD.out LvR.ret ?_ ?_
     . simp [go_sem]
     . intro fb w5 hc5 h5
       exact ⟨rfl, RQ.bad hc5 h5 ((Touched.alloc _ _ _).trans HT1.out.drew') rfl⟩
     intro v w5 hc5 hG5 hR5 hT5; obtain ⟨k2, nm2, A2, n2, c2, he5, hI5⟩ := hG5; injection he5 with he5; subst he5; have hT6 := HT1.out.drew'.trans hT5
     have hvx := HB1.out.of_block (hT5.at (k := W1.heap.size) hsz (by omega)); have z0 := hvx.c0; have z1 := hvx.c1; have z2 := hvx.c2; have hbx := lv_box H.out hT6; have r0 := hbx.c0; have r1 := hbx.c1
     have r2 := hbx.c2; have rf := hbx.f; have rl := hbx.lt))
 all_goals
  have hzT := hT5.size
  have HF : Hid (∀ u0 u1 u2, RQ w rb mv s st2 (LvR (fun b => w.heap.size <= b) (grt kd l1 l2)) (.returned (.agg #[.int .i64 (kd : Nat), .string ⟨#[]⟩, .slice (some ⟨w5.heap.size, 0, none⟩) 2 2])) ((set3 w5 w.heap.size u0 u1 u2).alloc (.cells #[.int .i64 k1, .string nm1, .slice A1 n1 c1, .int .i64 k2, .string nm2, .slice A2 n2 c2] 164))) := fun u0 u1 u2 =>
   lv_ret6 hkd H.out hR5 hT6 (InP.keep (w := W) (fun b hb hS => ⟨hS.1, hT5.at (k := b) hb (by omega)⟩) HI1.out) (hI5.keep fun b hb hS => ⟨by have : W.heap.size <= b := hS; omega, rfl⟩)
  have hLB : LBox ((set3 w5 w.heap.size (.int .i64 (kd : Nat)) (.string ⟨#[]⟩) (.slice (some ⟨w5.heap.size, 0, none⟩) 2 2)).alloc (.cells #[.int .i64 k1, .string nm1, .slice A1 n1 c1, .int .i64 k2, .string nm2, .slice A2 n2 c2] 164)) w.heap.size (kd : Nat) ⟨#[]⟩ (.slice (some ⟨w5.heap.size, 0, none⟩) 2 2) := (hbx.set3 _ _ _).of_block (Below.heap_alloc _ _ _ (by rw [set3_size]; exact rl))
  have q0 := hLB.c0; have q1 := hLB.c1; have q2 := hLB.c2; unfold set3 at q0 q1 q2; clear hR5 hT5 hT6 hvx hbx hI5 KD hLB
  go_wp2_with fail
  refine bodyPost_ret (v := .agg #[.int .i64 (kd : Nat), .string ⟨#[]⟩, .slice (some ⟨w5.heap.size, 0, none⟩) 2 2]) (by simp [results, Tryz.results145, go_sem, q0, q1, q2]) rfl ?_; exact HF.out _ _ _
end
end Go.Proofs.YtockffblncdikaaGreatDoor
