/- A list copied into a row of its own; the contract of copiedLevels. -/
import Derived.Test.YtockffblncdikaaGreatDoorEy
import Derived.Deep.Upon
namespace Go.Proofs.YtockffblncdikaaGreatDoor
open Go.RowKit
set_option maxRecDepth 100000
set_option maxHeartbeats 16000000
theorem step_made {ops : Array Oper} {o : Oper} {a : Act} {w : World} {K : Act -> World -> Prop} {Q : Exit -> Act -> World -> Prop} {E : Prop} {args : Array Value} {f : FuncId} {S : Nat -> Prop} {kd at_ : Nat} {nm : ByteArray} {xs : List Ex}
 (hg : o.guard = none) (hrun : (execOp a.eval o).run Tryz.prog w = .ok (.enter f args) w) (hc : Calls Tryz.prog f args w fun e w' => MadeX w S kd at_ nm xs e w')
 (hK : ∀ (eb : Nat) (w' : World), (w.heap.size <= eb /\ XP w' (fun b => S b \/ w.heap.size <= b) eb (.node kd at_ nm false false false false [] xs) /\ Below w.heap.size w w') -> K (a.put o.dst (.pointer (some ⟨eb, 0, none⟩))) w') :
 if Region.wanted o (yielded ops a.tmps) = true then Oper.wp Tryz.prog o a w K Q else E :=
 step_ptr hg hrun (hc.mono fun e w' h => by obtain ⟨eb, he, h1, h2, h3⟩ := h.xp; exact ⟨eb, he, h1, h2, h3⟩) hK
theorem three_ptrs {w : World} {a b c : Nat} : ∀ i, i < 3 -> (w.alloc (.cells #[.pointer (some ⟨a, 0, none⟩), .pointer (some ⟨b, 0, none⟩), .pointer (some ⟨c, 0, none⟩)] 88)).cell? ⟨w.heap.size, i, none⟩ = some (.pointer (some ⟨if i = 0 then a else if i = 1 then b else c, 0, none⟩)) := by
 intro i hi; have h := heap_alloc_new w (.cells #[.pointer (some ⟨a, 0, none⟩), .pointer (some ⟨b, 0, none⟩), .pointer (some ⟨c, 0, none⟩)] 88)
 match i, hi with
 | 0, _ => exact cell_of h 0 rfl
 | 1, _ => exact cell_of h 1 rfl
 | 2, _ => exact cell_of h 2 rfl
def arrowF (s : ByteArray) (n : Nat) (E : FS -> Ex × FS) (st : FS) : Ex × FS :=
 if (equalF s n E st).2.is sArrow = true then (.node 6 (equalF s n E st).2.t.at_ ⟨#[]⟩ false false false false [] [(equalF s n E st).1, (E ((equalF s n E st).2.step s)).1], (E ((equalF s n E st).2.step s)).2) else equalF s n E st
section
variable {rb : Nat} {mv : Value} {s : ByteArray}
theorem equal_left {n : Nat} {st : FS} (ho : st.Ok s) (hc : st.code = 0) (h : (equalF s n (exprN s n) st).2.code = 0) : (equalF s n (exprN s n) st).2.left s < st.left s := by
 have hE := exprN_fwd (s := s) n; have hd := applyF_fwd (n := n) hE st ho
 have hc1 : (applyF s n (exprN s n) st).2.code = 0 := by
  by_cases h1 : (applyF s n (exprN s n) st).2.code = 0
  . exact h1
  . unfold equalF at h
    simp only at h
    rw [if_neg (by rw [is_bad h1]; simp)] at h; exact h
 have hl := apply_left ho hc hc1; unfold equalF
 simp only
 split
 . exact Nat.lt_of_le_of_lt (((applyF_fwd (n := n) hE).dn (Dn.refl hd.ok).step).left) hl
 . exact hl
theorem arrow_calls (n : Nat) (hn : n <= 1000000) (ih : ExprC rb mv s n) (st : FS) (w : World) (h : Rdy w rb mv s st) (hl : st.left s <= n) :
 Calls Tryz.prog 46 #[.pointer (some ⟨rb, 0, none⟩)] w fun e w' => RX w rb mv s (arrowF s n (exprN s n) st).2 (ExR w (arrowF s n (exprN s n) st).1) e w' := by
 have H := hide h; have hlt := h.lt; have hc := h.code; have KA := hide (equal_calls n hn ih st w h hl); have hE := exprN_fwd (s := s) n; have hd := equalF_fwd (n := n) hE st h.ok; have hok1 := hd.ok
 have hle1 : (equalF s n (exprN s n) st).2.code = 0 -> (equalF s n (exprN s n) st).2.left s < n := fun h0 => Nat.lt_of_lt_of_le (equal_left h.ok hc h0) hl
 obtain ⟨fin, hfin⟩ : ∃ fin, fin = arrowF s n (exprN s n) st := ⟨_, rfl⟩
 have HFin : Hid (fin = if (equalF s n (exprN s n) st).2.is sArrow = true then (.node 6 (equalF s n (exprN s n) st).2.t.at_ ⟨#[]⟩ false false false false [] [(equalF s n (exprN s n) st).1, (exprN s n ((equalF s n (exprN s n) st).2.step s)).1], (exprN s n ((equalF s n (exprN s n) st).2.step s)).2) else equalF s n (exprN s n) st) := hfin
 rw [<- hfin]; clear h hfin hd hl; generalize hap : equalF s n (exprN s n) st = ap at *; obtain ⟨x1, st1⟩ := ap
 simp only at HFin KA hok1 hle1
 clear hap
 go_enter Tryz.func46, Tryz.ntmps46
 go_wp2_with (go_at_call 72; refine KA.out.mono ?_)
 intro e W1 h1
 rcases h1 with ⟨hc1, ⟨e1, rfl, hl1, hx1⟩, hR1, hT1⟩ | ⟨hc1, hth⟩
 rotate_left
 . have HF : Hid (RX w rb mv s fin.2 (ExR w fin.1) e W1) := RX.bad hc1 hth (Touched.refl _ _) (by rw [HFin.out, if_neg (by rw [hc1.is]; simp)]; exact Bdn.refl _)
   obtain ⟨fb, rfl, -⟩ := hth
   go_wp2_with fail
   exact ⟨rfl, HF.out⟩
 obtain ⟨k, t, q1, q2, q3, KI⟩ := hR1.isq sArrow; have HKI := hide KI; have HX1 := hide hx1; have HT1 := hide hT1; have HR1 := hide hR1; have hle2 := hle1 hc1; clear hx1 hR1 hT1 KA KI hle1
 by_cases hq : st1.is sArrow = true
 . have hkd := (FS.is_kd hq).2.1
   have hlef := FS.step_left hok1 hc1 (by omega) (by omega)
   have HFi : Hid (fin = (.node 6 st1.t.at_ ⟨#[]⟩ false false false false [] [x1, (exprN s n (st1.step s)).1], (exprN s n (st1.step s)).2)) := hide (by rw [HFin.out, if_pos hq]); rw [hq] at HKI
   have HTk : Hid (∀ W, Rdy W rb mv s st1 -> Calls Tryz.prog 40 #[.pointer (some ⟨rb, 0, none⟩)] W fun e w' => e = .returned (.agg #[.int .i64 3, .int .i64 (st1.t.at_ : Nat), .string st1.t.t]) /\ Rdy w' rb mv s (st1.step s) /\ Touched W rb w') := fun W hW => by
    have := takeQ hW (by omega); rw [hkd] at this; exact this
   have HAp : Hid (∀ W, Rdy W rb mv s (st1.step s) -> Calls Tryz.prog 30 #[.pointer (some ⟨rb, 0, none⟩)] W fun e w' => RX W rb mv s (exprN s n (st1.step s)).2 (ExR W (exprN s n (st1.step s)).1) e w') := fun W hW => ih _ W hW (by omega)
   clear HFin hq hkd hlef hok1 hle2 ih; generalize (exprN s n (st1.step s)).1 = x2 at *; generalize (exprN s n (st1.step s)).2 = st2 at *; generalize st1.step s = sta at *; generalize st1.t.at_ = ta at *
   generalize st1.t.t = tt at *
   go_wp2_with (go_at_call 68; refine HKI.out.mono ?_)
   first | (intro e W2 he hb2; subst he) | (rintro e W2 ⟨rfl, hb2⟩)
   have KT := hide (HTk.out W2 (HR1.out.later hb2)); have HT2 := hide (HT1.out.later hb2); have HX2 := hide (HX1.out.later hb2); clear hb2 HKI HTk HR1 HT1 HX1
   go_wp2_with (go_at_call 40; refine KT.out.mono ?_)
   rintro e W3 ⟨rfl, hR3, hT3⟩; have hr3 := hR3.lt; have HX3 := hide ((HX2.out.rest hT3 hlt hl1).later ((Below.refl W3.heap.size W3).alloc (Nat.le_refl _) (.cells #[.int .i64 3, .int .i64 (ta : Nat), .string tt] 46)))
   have HT3 := hide ((HT2.out.trans hT3).trans (Touched.alloc W3 rb (.cells #[.int .i64 3, .int .i64 (ta : Nat), .string tt] 46)))
   have KAp := hide (HAp.out _ ((hR3.alloc (.cells #[.int .i64 3, .int .i64 (ta : Nat), .string tt] 46)).drew)); have hz3 := (HT2.out.trans hT3).size
   have hbox := heap_alloc_new W3 (.cells #[.int .i64 3, .int .i64 (ta : Nat), .string tt] 46)
   have t1 : (W3.alloc (.cells #[.int .i64 3, .int .i64 (ta : Nat), .string tt] 46)).cell? ⟨W3.heap.size, 1, none⟩ = some (.int .i64 (ta : Nat)) := cell_of hbox 1 rfl
   have hsz : W3.heap.size < (W3.alloc (.cells #[.int .i64 3, .int .i64 (ta : Nat), .string tt] 46)).heap.size := by simp
   clear hR3 hT3 KT HX2 HT2 HAp
   go_wp2_with fail
   generalize (W3.alloc (.cells #[.int .i64 3, .int .i64 (ta : Nat), .string tt] 46)) = W4 at *
   go_region_law (first
    | (refine step_rx (f := 30) rfl ?_ KAp.out ExR.ret ?_ ?_
       . simp [go_sem]
       . intro fb w5 hc5 h5
         exact ⟨rfl, RX.bad hc5 h5 HT3.out.drew' (by rw [HFi.out]; exact Bdn.refl _)⟩
       intro v w5 hc5 hG5 hR5 hT5; obtain ⟨e5, he5, hl5, hx5⟩ := hG5; injection he5 with he5; subst he5; have hbx5 := (hT5.at (k := W3.heap.size) hsz (by omega)).trans hbox
       have t5 : w5.cell? ⟨W3.heap.size, 1, none⟩ = some (.int .i64 (ta : Nat)) := cell_of hbx5 1 rfl; have hz5 := hT5.size; have hzd : W4.drew.heap.size = W4.heap.size := rfl
       have hwl5 : W3.heap.size < w5.heap.size := by omega
       have hzw : w.heap.size <= W4.heap.size := by omega
       have hx1' : XP w5 (fun b => w.heap.size <= b) e1 x1 := (HX3.out.later (Below.refl _ _).drew).rest hT5 hlt hl1
       have hB6 : Below w5.heap.size w5 (w5.alloc (.cells #[.pointer (some ⟨e1, 0, none⟩), .pointer (some ⟨e5, 0, none⟩)] 88)) := (Below.refl _ _).alloc (Nat.le_refl _) _
       have KQ := hide (made_calls 6 ta ⟨#[]⟩ [x1, x2] (fun i => if i = 0 then e1 else e5) (some ⟨w5.heap.size, 0, none⟩) 2 (w5.alloc (.cells #[.pointer (some ⟨e1, 0, none⟩), .pointer (some ⟨e5, 0, none⟩)] 88)) (by simp) (fun i hi => ⟨w5.heap.size, rfl, two_ptrs i hi⟩) (fun b => w.heap.size <= b) (fun i hi => by
        match i, hi with
        | 0, _ => exact hx1'.later hB6
        | 1, _ => exact (hx5.wide hzw).later hB6)))
    | (refine step_made (f := 71) rfl ?_ KQ.out ?_
       . simp [go_sem]
       intro e6 w6 h6))
   all_goals
    obtain ⟨hl6, hx6, hB7⟩ := h6; have hB8 := hB6.trans (hB7.mono hB6.size)
    have HF : Hid (RX w rb mv s fin.2 (ExR w fin.1) (.returned (.pointer (some ⟨e6, 0, none⟩))) w6) := by
     rw [HFi.out]; exact .inl ⟨hc5, ⟨e6, rfl, by simp at hl6; omega, hx6.keep rfl fun b _ hs => ⟨by rcases hs with hs | hs; exact hs; simp at hs; omega, rfl⟩⟩, hR5.later hB8, (HT3.out.drew'.trans hT5).later hB8⟩
    clear hx6 hB7 hB8 hB6 hR5 hT5 KQ KAp hx5 hx1'
    go_wp2_with fail
    go_ret; exact HF.out
 . have hq' : st1.is sArrow = false := by simpa using hq
   have HFi : Hid (fin = (x1, st1)) := hide (by rw [HFin.out, if_neg hq]); rw [hq'] at HKI; clear HFin hq hq' hok1 hle2 ih
   go_wp2_with (go_at_call 68; refine HKI.out.mono ?_)
   first | (intro e W2 he hb2; subst he) | (rintro e W2 ⟨rfl, hb2⟩)
   have HF : Hid (RX w rb mv s fin.2 (ExR w fin.1) (.returned (.pointer (some ⟨e1, 0, none⟩))) W2) := by
    rw [HFi.out]; exact .inl ⟨hc1, ⟨e1, rfl, hl1, HX1.out.later hb2⟩, HR1.out.later hb2, HT1.out.later hb2⟩
   clear hb2 HKI
   go_wp2_with fail
   go_ret; exact HF.out
end
section
variable {rb : Nat} {mv : Value} {s : ByteArray}
theorem let_calls (n : Nat) (ih : ExprC rb mv s n) (st : FS) (w : World) (h : Rdy w rb mv s st) (hl : st.left s < n) :
 Calls Tryz.prog 45 #[.pointer (some ⟨rb, 0, none⟩)] w fun e w' => RX w rb mv s (letX s (exprN s n) st).2 (ExR w (letX s (exprN s n) st).1) e w' := by
 have H := hide h; have hlt := h.lt; have hc := h.code; have hE := exprN_fwd (s := s) n; have KN := hide (nameQ h); obtain ⟨fin, hfin⟩ : ∃ fin, fin = letX s (exprN s n) st := ⟨_, rfl⟩; rw [<- hfin]
 have d1 : Dn s st ((st.name s).2.must s sColon) := (Dn.refl h.ok).name.must; have d2 := hE.dn d1; have d3 := d2.must (q := sBe); have d4 := hE.dn d3; have d5 := d4.must (q := wIn)
 have HX1 : Hid (∀ W, Rdy W rb mv s ((st.name s).2.must s sColon) -> Calls Tryz.prog 30 #[.pointer (some ⟨rb, 0, none⟩)] W fun e w' => RX W rb mv s (exprN s n ((st.name s).2.must s sColon)).2 (ExR W (exprN s n ((st.name s).2.must s sColon)).1) e w') := fun W hW => ih _ W hW (Nat.lt_of_le_of_lt d1.left hl)
 have HX2 : Hid (∀ W, Rdy W rb mv s ((exprN s n ((st.name s).2.must s sColon)).2.must s sBe) -> Calls Tryz.prog 30 #[.pointer (some ⟨rb, 0, none⟩)] W fun e w' => RX W rb mv s (exprN s n ((exprN s n ((st.name s).2.must s sColon)).2.must s sBe)).2 (ExR W (exprN s n ((exprN s n ((st.name s).2.must s sColon)).2.must s sBe)).1) e w') := fun W hW => ih _ W hW (Nat.lt_of_le_of_lt d3.left hl)
 have HX3 : Hid (∀ W, Rdy W rb mv s ((exprN s n ((exprN s n ((st.name s).2.must s sColon)).2.must s sBe)).2.must s wIn) -> Calls Tryz.prog 30 #[.pointer (some ⟨rb, 0, none⟩)] W fun e w' => RX W rb mv s (exprN s n ((exprN s n ((exprN s n ((st.name s).2.must s sColon)).2.must s sBe)).2.must s wIn)).2 (ExR W (exprN s n ((exprN s n ((exprN s n ((st.name s).2.must s sColon)).2.must s sBe)).2.must s wIn)).1) e w') := fun W hW => ih _ W hW (Nat.lt_of_le_of_lt d5.left hl)
 have HFi : Hid (fin = (.node 7 st.t.at_ (st.name s).1 false false false false [] [(exprN s n ((st.name s).2.must s sColon)).1, (exprN s n ((exprN s n ((st.name s).2.must s sColon)).2.must s sBe)).1, (exprN s n ((exprN s n ((exprN s n ((st.name s).2.must s sColon)).2.must s sBe)).2.must s wIn)).1], (exprN s n ((exprN s n ((exprN s n ((st.name s).2.must s sColon)).2.must s sBe)).2.must s wIn)).2)) := hfin
 have B6 : ∀ x, Bdn x (exprN s n x).2 := exprN_bfw n
 have HB5 : Hid (Bdn ((exprN s n ((exprN s n ((st.name s).2.must s sColon)).2.must s sBe)).2.must s wIn) (exprN s n ((exprN s n ((exprN s n ((st.name s).2.must s sColon)).2.must s sBe)).2.must s wIn)).2) := B6 _
 have HB4 : Hid (Bdn (exprN s n ((exprN s n ((st.name s).2.must s sColon)).2.must s sBe)).2 (exprN s n ((exprN s n ((exprN s n ((st.name s).2.must s sColon)).2.must s sBe)).2.must s wIn)).2) := (bdn_must (s := s) _ _).trans (B6 _)
 have HB3 : Hid (Bdn ((exprN s n ((st.name s).2.must s sColon)).2.must s sBe) (exprN s n ((exprN s n ((exprN s n ((st.name s).2.must s sColon)).2.must s sBe)).2.must s wIn)).2) := (B6 _).trans ((bdn_must (s := s) _ _).trans (B6 _))
 have HB2 : Hid (Bdn (exprN s n ((st.name s).2.must s sColon)).2 (exprN s n ((exprN s n ((exprN s n ((st.name s).2.must s sColon)).2.must s sBe)).2.must s wIn)).2) := (bdn_must (s := s) _ _).trans ((B6 _).trans ((bdn_must (s := s) _ _).trans (B6 _)))
 have HB1 : Hid (Bdn ((st.name s).2.must s sColon) (exprN s n ((exprN s n ((exprN s n ((st.name s).2.must s sColon)).2.must s sBe)).2.must s wIn)).2) := (B6 _).trans ((bdn_must (s := s) _ _).trans ((B6 _).trans ((bdn_must (s := s) _ _).trans (B6 _))))
 have HB0 : Hid (Bdn (st.name s).2 (exprN s n ((exprN s n ((exprN s n ((st.name s).2.must s sColon)).2.must s sBe)).2.must s wIn)).2) := (bdn_must (s := s) _ _).trans ((B6 _).trans ((bdn_must (s := s) _ _).trans ((B6 _).trans ((bdn_must (s := s) _ _).trans (B6 _)))))
 clear h hfin d1 d2 d3 d4 d5 B6 ih hE hl; generalize (exprN s n ((exprN s n ((exprN s n ((st.name s).2.must s sColon)).2.must s sBe)).2.must s wIn)).1 = x3 at *
 generalize (exprN s n ((exprN s n ((exprN s n ((st.name s).2.must s sColon)).2.must s sBe)).2.must s wIn)).2 = s6 at *
 have HM5 : Hid (∀ W, Rdy W rb mv s (exprN s n ((exprN s n ((st.name s).2.must s sColon)).2.must s sBe)).2 -> Calls Tryz.prog 29 #[.pointer (some ⟨rb, 0, none⟩), .string wIn] W fun e w' => RQ W rb mv s ((exprN s n ((exprN s n ((st.name s).2.must s sColon)).2.must s sBe)).2.must s wIn) (fun e _ => e = .returned (.tuple #[])) e w') := fun W hW => expectQ hW wIn
 generalize (exprN s n ((exprN s n ((st.name s).2.must s sColon)).2.must s sBe)).2.must s wIn = s5 at *; generalize (exprN s n ((exprN s n ((st.name s).2.must s sColon)).2.must s sBe)).1 = x2 at *
 generalize (exprN s n ((exprN s n ((st.name s).2.must s sColon)).2.must s sBe)).2 = s4 at *
 have HM3 : Hid (∀ W, Rdy W rb mv s (exprN s n ((st.name s).2.must s sColon)).2 -> Calls Tryz.prog 29 #[.pointer (some ⟨rb, 0, none⟩), .string sBe] W fun e w' => RQ W rb mv s ((exprN s n ((st.name s).2.must s sColon)).2.must s sBe) (fun e _ => e = .returned (.tuple #[])) e w') := fun W hW => expectQ hW sBe
 generalize (exprN s n ((st.name s).2.must s sColon)).2.must s sBe = s3 at *; generalize (exprN s n ((st.name s).2.must s sColon)).1 = x1 at *; generalize (exprN s n ((st.name s).2.must s sColon)).2 = s2 at *
 have HM1 : Hid (∀ W, Rdy W rb mv s (st.name s).2 -> Calls Tryz.prog 29 #[.pointer (some ⟨rb, 0, none⟩), .string sColon] W fun e w' => RQ W rb mv s ((st.name s).2.must s sColon) (fun e _ => e = .returned (.tuple #[])) e w') := fun W hW => expectQ hW sColon
 generalize (st.name s).2.must s sColon = s1 at *; generalize (st.name s).1 = nm at *; generalize (st.name s).2 = s0 at *; generalize st.t.at_ = ta at *
 go_enter Tryz.func45, Tryz.ntmps45
 go_wp2_with (go_at_call 26; refine KN.out.mono ?_)
 intro e W1 h1
 rcases h1 with ⟨hc1, rfl, hR1, hT1⟩ | ⟨hc1, hth⟩
 rotate_left
 . have HF : Hid (RX w rb mv s fin.2 (ExR w fin.1) e W1) := RX.bad (lost_of hc1) (by rw [fp_of hc1]; exact hth) (Touched.refl _ _) (by rw [HFi.out]; exact HB0.out)
   obtain ⟨fb, rfl, -⟩ := hth
   go_wp2_with fail
   exact ⟨rfl, HF.out⟩
 have hz1 := hT1.size; have hr1 := hR1.lt; have KM := hide (HM1.out _ (hR1.alloc (.cells #[.int .i64 1, .int .i64 (ta : Nat), .string nm] 46)))
 have HT1 := hide (hT1.trans (Touched.alloc W1 rb (.cells #[.int .i64 1, .int .i64 (ta : Nat), .string nm] 46))); have HBx := hide (heap_alloc_new W1 (.cells #[.int .i64 1, .int .i64 (ta : Nat), .string nm] 46))
 have hb1 : W1.heap.size < (W1.alloc (.cells #[.int .i64 1, .int .i64 (ta : Nat), .string nm] 46)).heap.size := by simp
 clear hR1 hT1 KN HM1 HB0
 go_wp2_with (go_at_call 29; refine KM.out.mono ?_)
 intro e W2 h2
 rcases h2 with ⟨hc2, rfl, hR2, hT2⟩ | ⟨hc2, hth⟩
 rotate_left
 . have HF : Hid (RX w rb mv s fin.2 (ExR w fin.1) e W2) := RX.bad (lost_of hc2) (by rw [fp_of hc2]; exact hth) HT1.out (by rw [HFi.out]; exact HB1.out)
   obtain ⟨fb, rfl, -⟩ := hth
   go_wp2_with fail
   exact ⟨rfl, HF.out⟩
 have KX := hide (HX1.out W2 hR2); have HT2 := hide (HT1.out.trans hT2); have HB2' := hide ((hT2.at hb1 (by omega)).trans HBx.out); have hb2 : W1.heap.size < W2.heap.size := Nat.lt_of_lt_of_le hb1 hT2.size
 clear hR2 hT2 KM HX1 HB1 HT1 HBx hb1
 go_wp2_with (go_at_call 30; refine KX.out.mono ?_)
 intro e W3 h3
 rcases h3 with ⟨hc3, ⟨e1, rfl, hl1, hx1⟩, hR3, hT3⟩ | ⟨hc3, hth⟩
 rotate_left
 . have HF : Hid (RX w rb mv s fin.2 (ExR w fin.1) e W3) := RX.bad hc3 hth HT2.out (by rw [HFi.out]; exact HB2.out)
   obtain ⟨fb, rfl, -⟩ := hth
   go_wp2_with fail
   exact ⟨rfl, HF.out⟩
 have hz2 := HT2.out.size; have hl1' : w.heap.size <= e1 := Nat.le_trans hz2 hl1; have KM := hide (HM3.out W3 hR3); have HT3 := hide (HT2.out.trans hT3); have HX1 := hide (hx1.wide hz2)
 have HB3' := hide ((hT3.at hb2 (by omega)).trans HB2'.out); have hb3 : W1.heap.size < W3.heap.size := Nat.lt_of_lt_of_le hb2 hT3.size; clear hR3 hT3 KX HM3 HB2 HT2 HB2' hx1
 go_wp2_with (go_at_call 29; refine KM.out.mono ?_)
 intro e W4 h4
 rcases h4 with ⟨hc4, rfl, hR4, hT4⟩ | ⟨hc4, hth⟩
 rotate_left
 . have HF : Hid (RX w rb mv s fin.2 (ExR w fin.1) e W4) := RX.bad (lost_of hc4) (by rw [fp_of hc4]; exact hth) HT3.out (by rw [HFi.out]; exact HB3.out)
   obtain ⟨fb, rfl, -⟩ := hth
   go_wp2_with fail
   exact ⟨rfl, HF.out⟩
 have KX := hide (HX2.out W4 hR4); have HT4 := hide (HT3.out.trans hT4); have HX1a := hide (HX1.out.rest hT4 hlt hl1'); have HB4' := hide ((hT4.at hb3 (by omega)).trans HB3'.out)
 have hb4 : W1.heap.size < W4.heap.size := Nat.lt_of_lt_of_le hb3 hT4.size; clear hR4 hT4 KM HX2 HB3 HT3 HX1 HB3'
 go_wp2_with (go_at_call 30; refine KX.out.mono ?_)
 intro e W5 h5
 rcases h5 with ⟨hc5, ⟨e2, rfl, hl2, hx2⟩, hR5, hT5⟩ | ⟨hc5, hth⟩
 rotate_left
 . have HF : Hid (RX w rb mv s fin.2 (ExR w fin.1) e W5) := RX.bad hc5 hth HT4.out (by rw [HFi.out]; exact HB4.out)
   obtain ⟨fb, rfl, -⟩ := hth
   go_wp2_with fail
   exact ⟨rfl, HF.out⟩
 have hz4 := HT4.out.size; have hl2' : w.heap.size <= e2 := Nat.le_trans hz4 hl2; have KM := hide (HM5.out W5 hR5); have HT5 := hide (HT4.out.trans hT5); have HX1b := hide (HX1a.out.rest hT5 hlt hl1')
 have HX2 := hide (hx2.wide hz4); have HB5' := hide ((hT5.at hb4 (by omega)).trans HB4'.out); have hb5 : W1.heap.size < W5.heap.size := Nat.lt_of_lt_of_le hb4 hT5.size; clear hR5 hT5 KX HM5 HB4 HT4 HX1a HB4' hx2
 go_wp2_with (go_at_call 29; refine KM.out.mono ?_)
 intro e W6 h6
 rcases h6 with ⟨hc6, rfl, hR6, hT6⟩ | ⟨hc6, hth⟩
 rotate_left
 . have HF : Hid (RX w rb mv s fin.2 (ExR w fin.1) e W6) := RX.bad (lost_of hc6) (by rw [fp_of hc6]; exact hth) HT5.out (by rw [HFi.out]; exact HB5.out)
   obtain ⟨fb, rfl, -⟩ := hth
   go_wp2_with fail
   exact ⟨rfl, HF.out⟩
 have KX := hide (HX3.out W6.drew hR6.drew); have HT6 := hide (HT5.out.trans hT6); have HX1c := hide (HX1b.out.rest hT6 hlt hl1'); have HX2c := hide (HX2.out.rest hT6 hlt hl2')
 have hbox := (hT6.at hb5 (by omega)).trans HB5'.out; have hb6 : W1.heap.size < W6.heap.size := Nat.lt_of_lt_of_le hb5 hT6.size
 have t1 : W6.cell? ⟨W1.heap.size, 1, none⟩ = some (.int .i64 (ta : Nat)) := cell_of hbox 1 rfl; have t2 : W6.cell? ⟨W1.heap.size, 2, none⟩ = some (.string nm) := cell_of hbox 2 rfl; have hz6 := HT6.out.size
 clear hR6 hT6 KM HX3 HB5 HT5 HX1b HX2 HB5'
 go_wp2_with fail
 go_region_law (first
  | (refine step_rx (f := 30) rfl ?_ KX.out ExR.ret ?_ ?_
     . simp [go_sem]
     . intro fb w5 hc9 h9
       exact ⟨rfl, RX.bad hc9 h9 HT6.out.drew' (by rw [HFi.out]; exact Bdn.refl _)⟩
     intro v w7 hc7 hG7 hR7 hT7; obtain ⟨e3, he7, hl7, hx7⟩ := hG7; injection he7 with he7; subst he7; have hbx7 := (hT7.at (k := W1.heap.size) hb6 (by omega)).trans hbox
     have y1 : w7.cell? ⟨W1.heap.size, 1, none⟩ = some (.int .i64 (ta : Nat)) := cell_of hbx7 1 rfl; have y2 : w7.cell? ⟨W1.heap.size, 2, none⟩ = some (.string nm) := cell_of hbx7 2 rfl; have hz7 := hT7.size
     have hzd : W6.drew.heap.size = W6.heap.size := rfl; have hwl7 : W1.heap.size < w7.heap.size := by omega
     have hx1' : XP w7 (fun b => w.heap.size <= b) e1 x1 := (HX1c.out.later (Below.refl _ _).drew).rest hT7 hlt hl1'
     have hx2' : XP w7 (fun b => w.heap.size <= b) e2 x2 := (HX2c.out.later (Below.refl _ _).drew).rest hT7 hlt hl2'
     have hB8 : Below w7.heap.size w7 (w7.alloc (.cells #[.pointer (some ⟨e1, 0, none⟩), .pointer (some ⟨e2, 0, none⟩), .pointer (some ⟨e3, 0, none⟩)] 88)) := (Below.refl _ _).alloc (Nat.le_refl _) _
     have KQ := hide (made_calls 7 ta nm [x1, x2, x3] (fun i => if i = 0 then e1 else if i = 1 then e2 else e3) (some ⟨w7.heap.size, 0, none⟩) 3 (w7.alloc (.cells #[.pointer (some ⟨e1, 0, none⟩), .pointer (some ⟨e2, 0, none⟩), .pointer (some ⟨e3, 0, none⟩)] 88)) (by simp) (fun i hi => ⟨w7.heap.size, rfl, three_ptrs i hi⟩) (fun b => w.heap.size <= b) (fun i hi => by
      match i, hi with
      | 0, _ => exact hx1'.later hB8
      | 1, _ => exact hx2'.later hB8
      | 2, _ => exact (hx7.wide (by omega)).later hB8)))
  | (refine step_made (f := 71) rfl ?_ KQ.out ?_
     . simp [go_sem]
     intro e8 w8 h8))
 all_goals
  obtain ⟨hl8, hx8, hB9⟩ := h8; have hB10 := hB8.trans (hB9.mono hB8.size)
  have HF : Hid (RX w rb mv s fin.2 (ExR w fin.1) (.returned (.pointer (some ⟨e8, 0, none⟩))) w8) := by
   rw [HFi.out]; exact .inl ⟨hc7, ⟨e8, rfl, by simp at hl8; omega, hx8.keep rfl fun b _ hs => ⟨by rcases hs with hs | hs; exact hs; simp at hs; omega, rfl⟩⟩, hR7.later hB10, (HT6.out.drew'.trans hT7).later hB10⟩
  clear hx8 hB9 hB10 hB8 hR7 hT7 KQ KX hx7 hx1' hx2'
  go_wp2_with fail
  go_ret; exact HF.out
end
theorem wpList_append_copy {P : Program} (w : World) {ops : Array Oper} {rest : List Oper} {o : Oper} {a : Act} {Q : Exit -> Act -> World -> Prop} (hgd : o.guard = none) (s x : Operand) (t : TypeId)
 (ho : o.op = .call { callee := .builtin .append, args := #[s, x], argTypes := #[t, t] })
 (base : Nat) (e : TypeId) (i : TypeInfo) (z : Value) (size bytes : Nat) (ht : P.underlying t = some (.slice e)) (hi : P.info? e = some i) (hz : i.zero = some z)
 (hsize : i.size = size) (hby : i.bytes = bytes) (hzs : z.cells.size = size) (hsz : 0 < size) (hs : a.eval s = .slice none 0 0)
 (A : Option Addr) (m c : Nat) (news : List Value) (hx : a.eval x = .slice A m c) (hl : news.length = m * size) (hnews : 0 < m -> ∃ ad, A = some ad /\ ∀ j u, news[j]? = some u -> w.cell? (ad.add j) = some u) (h1 : ∀ u ∈ news, u.oneCell' = true)
 (h63 : m <= maxLen) (hbytes : m * bytes <= 140737488355328) (hbase : base <= w.heap.size)
 (h : ∀ v' w', w'.ownsRow base e size v' m news -> w.grownBy w' none -> (v'.ownBlock = none \/ v'.ownBlock = some w.heap.size) -> (m = 0 -> v' = .slice none 0 0) -> wpList P ops Q rest (a.put o.dst v') w') : wpList P ops Q (o :: rest) a w := by
 refine wpList_plain hgd fun _ hK => ?_
 by_cases hm : 0 < m
 . obtain ⟨ad, rfl, hc⟩ := hnews hm
   obtain ⟨v', w', hr, h2, h3, _⟩ := run_append_own (P := P) w base t o.type e i z size bytes ht hi hz hsize hby hzs hsz (.slice none 0 0) 0 [] (World.ownsRow_nil _ _ _ _) ad m c news hl hc h1 (by omega) (by rw [Nat.zero_add]; exact hbytes) hbase
   have hp := append_place (P := P) w base t o.type e i z size bytes ht hi hz hsize hby (.slice none 0 0) 0 [] (World.ownsRow_nil _ _ _ _) ad m c news hl hc h1 hm (by omega) (by rw [Nat.zero_add]; exact hbytes) hr
   unfold Oper.wp execOp
   simp only [ho, resolve, invoke, builtin, Sem.run_bind, Sem.run_pure, Result.andThen_ok, List.map_toArray, List.map_cons, List.map_nil, hs, hx, hr]
   exact hK _ _ (h v' w' (by simpa using h2) h3 hp (fun e => by omega))
 . have hm0 : m = 0 := by omega
   subst hm0; have hn : news = [] := List.length_eq_zero_iff.1 (by simpa using hl); subst hn
   have hr : (Builtin.append_ #[t, t] o.type #[.slice none 0 0, .slice A 0 c]).run P w = .ok (.slice none 0 0) w := by
    refine run_append_nothing w t t o.type e i ht hi none 0 0 (Nat.le_refl _) _ ?_
    cases A with
    | none => exact Src.ofNil w ht c
    | some ad => exact Src.ofSlice w ht ad 0 c [] (by simp) (fun j u hj => by simp at hj) (fun u hu => by cases hu)
   unfold Oper.wp execOp
   simp only [ho, resolve, invoke, builtin, Sem.run_bind, Sem.run_pure, Result.andThen_ok, List.map_toArray, List.map_cons, List.map_nil, hs, hx, hr]
   exact hK _ _ (h _ _ (World.ownsRow_nil _ _ _ _) (World.grownBy.refl _ _) (.inl rfl) (fun _ => rfl))
structure Cp (W : World) (g n z : Nat) (vals : Nat -> Array Value) : Prop where
 cell : ∀ i q, i < n -> q < z -> W.cell? ⟨g, i * z + q, none⟩ = (vals i)[q]?
 size : ∀ i, i < n -> (vals i).size = z
 fro : ∀ k, W.frozen? ⟨g, k, none⟩ = false
theorem Cp.of_block {W W' : World} {g n z : Nat} {vals : Nat -> Array Value} (h : Cp W g n z vals) (hb : W'.heap[g]? = W.heap[g]?) : Cp W' g n z vals :=
 ⟨fun i q hi hq => (World.cell?_of_block hb).trans (h.cell i q hi hq), h.size, fun k => (World.frozen?_of_block hb).trans (h.fro k)⟩
theorem cell_ne {z i j q p : Nat} (hq : q < z) (hp : p < z) (h : ¬ (i = j /\ q = p)) : i * z + q ≠ j * z + p := fun e => h (by
 rcases Nat.lt_trichotomy i j with hlt | rfl | hlt
 . have : (i + 1) * z <= j * z := Nat.mul_le_mul_right z hlt
   rw [Nat.add_mul] at this; omega
 . exact ⟨rfl, by omega⟩
 . have : (j + 1) * z <= i * z := Nat.mul_le_mul_right z hlt
   rw [Nat.add_mul] at this; omega)
theorem Cp.set {W : World} {g n z : Nat} {vals : Nat -> Array Value} (h : Cp W g n z vals) {j p : Nat} (hj : j < n) (hp : p < z) (u : Value) : Cp (W.setCell ⟨g, j * z + p, none⟩ u) g n z (fun i => if i = j then (vals i).setIfInBounds p u else vals i) := by
 refine ⟨fun i q hi hq => ?_, fun i hi => ?_, fun k => ?_⟩
 . by_cases hij : i = j /\ q = p
   . obtain ⟨rfl, rfl⟩ := hij
     have hc := h.cell i q hi hq; have hz := h.size i hi; rw [Array.getElem?_eq_getElem (by omega)] at hc; rw [World.cell?_setCell_same _ _ _ hc, if_pos rfl]; rw [Array.getElem?_setIfInBounds]
     simp
     omega
   . rw [World.cell?_setCell_other _ _ _ _ (fun e => by injection e with _ e; exact cell_ne hq hp hij e.symm), h.cell i q hi hq]
     by_cases he : i = j
     . subst he
       rw [if_pos rfl, Array.getElem?_setIfInBounds]; have : ¬ p = q := fun e => hij ⟨rfl, e.symm⟩
       rw [if_neg this]
     . rw [if_neg he]
 . show (if i = j then _ else _ : Array Value).size = z
   split
   . simp; exact h.size i hi
   . exact h.size i hi
 . have := h.fro k
   simpa using this
theorem Cp.of_row {W : World} {base e z n cap g : Nat} {vals : Nat -> Array Value} (hz : ∀ i, i < n -> (vals i).size = z) (h : W.ownsRow base e z (.slice (some ⟨g, 0, none⟩) n cap) n (flat ((List.range n).map fun i => .agg (vals i)))) : Cp W g n z vals := by
 have hf : ∀ i (hi : i < ((List.range n).map fun i => Value.agg (vals i)).length), ∃ a : Array Value, ((List.range n).map fun i => Value.agg (vals i))[i] = .agg a /\ a.size = z := fun i hi => by
  simp at hi
  exact ⟨vals i, by simp, hz i hi⟩
 refine ⟨fun i q hi hq => ?_, hz, fun k => h.frozenAt k⟩
 have hlt : i * z + q < n * z := by
  have : (i + 1) * z <= n * z := Nat.mul_le_mul_right z hi; rw [Nat.add_mul] at this; omega
 rw [h.cellAt _ hlt]; exact flat_get _ i (vals i) q hf (by simp [hi]) hq
theorem src_cells {W : World} {b n z : Nat} {vals : Nat -> Array Value} (hz0 : 0 < z) (hz : ∀ i, i < n -> (vals i).size = z) (hc : ∀ i q, i < n -> q < z -> W.cell? ⟨b, i * z + q, none⟩ = (vals i)[q]?) :
 ∀ j u, (flat ((List.range n).map fun i => .agg (vals i)))[j]? = some u -> W.cell? ((⟨b, 0, none⟩ : Addr).add j) = some u := by
 intro j u hj
 have hf : ∀ i (hi : i < ((List.range n).map fun i => Value.agg (vals i)).length), ∃ a : Array Value, ((List.range n).map fun i => Value.agg (vals i))[i] = .agg a /\ a.size = z := fun i hi => by
  simp at hi
  exact ⟨vals i, by simp, hz i hi⟩
 have hlen := flat_len _ hf
 simp at hlen
 have hjl : j < n * z := by
  rw [<- hlen]
  rcases Nat.lt_or_ge j (flat ((List.range n).map fun i => Value.agg (vals i))).length with h | h
  . exact h
  . rw [List.getElem?_eq_none h] at hj; cases hj
 have hi : j / z < n := (Nat.div_lt_iff_lt_mul hz0).2 hjl; have hq := Nat.mod_lt j hz0; have e : j / z * z + j % z = j := by rw [Nat.mul_comm]; exact Nat.div_add_mod j z
 have hg := flat_get _ (j / z) (vals (j / z)) (j % z) hf (by simp [hi]) hq; rw [e] at hg; have hcc := hc (j / z) (j % z) hi hq; rw [e] at hcc; rw [Addr.add_lit, Nat.zero_add, hcc, <- hg]; exact hj
theorem one_cells {n : Nat} {vals : Nat -> Array Value} (h : ∀ i, i < n -> (vals i).all (·.oneCell') = true) : ∀ u ∈ flat ((List.range n).map fun i => Value.agg (vals i)), u.oneCell' = true := by
 have key : ∀ (l : List Nat), (∀ i ∈ l, i < n) -> ∀ u ∈ flat (l.map fun i => Value.agg (vals i)), u.oneCell' = true := by
  intro l
  induction l with
  | nil => intro _ u hu; simp [flat] at hu
  | cons k l ih =>
    intro hl u hu
    simp only [List.map_cons, flat, List.mem_append] at hu
    rcases hu with hu | hu
    . have := h k (hl k (by simp))
      rw [Array.all_eq_true] at this; obtain ⟨q, hq, rfl⟩ := List.getElem_of_mem hu
      simpa using this q (by simpa using hq)
    . exact ih (fun i hi => hl i (by simp [hi])) u hu
 exact key _ (fun i hi => by simpa using hi)
end Go.Proofs.YtockffblncdikaaGreatDoor
