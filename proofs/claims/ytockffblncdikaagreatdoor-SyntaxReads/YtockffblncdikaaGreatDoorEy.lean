/- The contracts of the reader's apply and equal. -/
import Derived.Test.YtockffblncdikaaGreatDoorBr
namespace Go.Proofs.YtockffblncdikaaGreatDoor
open Go.RowKit
set_option maxRecDepth 100000
set_option maxHeartbeats 16000000
section
variable {rb : Nat} {mv : Value} {s : ByteArray}
theorem atom_calls (n : Nat) (hn : n <= 1000000) (ih : ExprC rb mv s n) (st : FS) (w : World) (h : Rdy w rb mv s st) (hl : st.left s <= n) :
 Calls Tryz.prog 107 #[.pointer (some ⟨rb, 0, none⟩)] w fun e w' => RX w rb mv s (atomF s n (exprN s n) st).2 (ExR w (atomF s n (exprN s n) st).1) e w' := by
 have H := hide h; have hlt := h.lt; have hc := h.code; obtain ⟨k0, t0, -, d2, -⟩ := h.kind; have KT := hide (tookQ h sOpen); obtain ⟨a1, a2, a3, a4⟩ := atom_cases (s := s) (n := n) (E := exprN s n) hc
 obtain ⟨fin, hfin⟩ : ∃ fin, fin = atomF s n (exprN s n) st := ⟨_, rfl⟩; rw [<- hfin] at a1 a2 a3 a4 ⊢; clear hfin
 by_cases hq : st.is sOpen = true
 . have hkd := (FS.is_kd hq).2.1
   have hlef := FS.step_left h.ok hc (by omega) (by omega); have HFi := hide (a1 hq)
   have HB : Hid (∀ W, Rdy W rb mv s (st.step s) -> Calls Tryz.prog 116 #[.pointer (some ⟨rb, 0, none⟩), .int .i64 (st.t.at_ : Nat)] W fun e w' => RX W rb mv s (bracketX s (exprN s n) st.t.at_ (st.step s)).2 (ExR W (bracketX s (exprN s n) st.t.at_ (st.step s)).1) e w') := fun W hW => bracketed_calls n _ ih _ W hW (by omega)
   rw [<- HFi.out] at HB; rw [hq, if_pos rfl] at KT; clear h hq hkd hlef hl ih a1 a2 a3 a4 HFi; generalize st.step s = st1 at *; generalize st.t.at_ = ta at *
   go_enter Tryz.func107, Tryz.ntmps107
   go_wp2_with (go_at_call 38; refine KT.out.mono ?_)
   rintro e W1 ⟨rfl, hR1, hT1⟩; have KB := hide (HB.out W1 hR1); have HT1 := hide hT1; clear hR1 hT1 KT HB
   go_wp2_with (go_at_call 116; refine KB.out.mono ?_)
   intro e W2 h2
   rcases h2 with ⟨hc2, ⟨e2, rfl, hl2, hx2⟩, hR2, hT2⟩ | ⟨hc2, hth⟩
   rotate_left
   . have HF : Hid (RX w rb mv s fin.2 (ExR w fin.1) e W2) := RX.bad hc2 hth HT1.out (Bdn.refl _)
     obtain ⟨fb, rfl, -⟩ := hth
     go_wp2_with fail
     exact ⟨rfl, HF.out⟩
   have HF : Hid (RX w rb mv s fin.2 (ExR w fin.1) (.returned (.pointer (some ⟨e2, 0, none⟩))) W2) := .inl ⟨hc2, ⟨e2, rfl, Nat.le_trans HT1.out.size hl2, hx2.wide HT1.out.size⟩, hR2, HT1.out.trans hT2⟩
   clear hx2 hR2 hT2 KB
   go_wp2_with fail
   go_ret; exact HF.out
 have hq' : st.is sOpen = false := by simpa using hq
 rw [hq', if_neg (by simp)] at KT
 have HT2 : Hid (∀ W, Rdy W rb mv s st -> Calls Tryz.prog 38 #[.pointer (some ⟨rb, 0, none⟩), .string sHole] W fun e w' => e = .returned (.bool (st.is sHole)) /\ Rdy w' rb mv s (if st.is sHole = true then st.step s else st) /\ Touched W rb w') := fun W hW => tookQ hW sHole
 by_cases hi : st.is sHole = true
 . have HFi := hide (a2 hq' hi)
   rw [hi, if_pos rfl] at HT2; have hco := step_code (s := s) hc; clear h hq hq' hi hl ih a1 a2 a3 a4; generalize st.step s = st1 at *; generalize st.t.at_ = ta at *
   go_enter Tryz.func107, Tryz.ntmps107
   go_wp2_with (go_at_call 38; refine KT.out.mono ?_)
   rintro e W0 ⟨rfl, hR0, hT0⟩; have KT2 := hide (HT2.out W0 hR0); have HT0 := hide hT0; clear hR0 hT0 KT HT2
   go_wp2_with (go_at_call 38; refine KT2.out.mono ?_)
   rintro e W1 ⟨rfl, hR1, hT1⟩; have KM := hide (nil_made 3 ta ⟨#[]⟩ W1); have HT1 := hide (HT0.out.trans hT1); have HR1 := hide hR1; clear hR1 hT1 KT2 HT0
   go_wp2_with (go_at_call 71; refine KM.out.mono ?_)
   intro e W2 h2; obtain ⟨e2, rfl, hl2, hx2, hB2⟩ := h2.xp; have hz1 := HT1.out.size
   have HF : Hid (RX w rb mv s fin.2 (ExR w fin.1) (.returned (.pointer (some ⟨e2, 0, none⟩))) W2) := by
    rw [HFi.out]; exact .inl ⟨hco, ⟨e2, rfl, by omega, hx2.keep rfl fun b _ hs => ⟨by rcases hs with hs | hs; exact hs.elim; omega, rfl⟩⟩, HR1.out.later hB2, HT1.out.later hB2⟩
   clear h2 hx2 hB2 KM
   go_wp2_with fail
   go_ret; exact HF.out
 have hi' : st.is sHole = false := by simpa using hi
 rw [hi', if_neg (by simp)] at HT2
 have HKin : Hid (∀ W, Rdy W rb mv s st -> ∃ (k : Nat) (t : ByteArray), W.cell? ⟨rb, 1, none⟩ = some (.int .i64 (k : Nat)) /\ W.cell? ⟨rb, 2, none⟩ = some (.int .i64 (st.t.at_ : Nat)) /\ W.cell? ⟨rb, 3, none⟩ = some (.string t) /\ ((k : Int) == 1) = st.kin 1 /\ Calls Tryz.prog 68 #[.agg #[.int .i64 (k : Nat), .int .i64 (st.t.at_ : Nat), .string t], .string sAt] W fun e w' => e = .returned (.bool (st.is sAt)) /\ Below W.heap.size W w') := fun W hW => by
  have hk4 := hW.ok.kd; obtain ⟨h0, c, k, t, r, hw, hp, hz⟩ := hW.rd; refine ⟨k, t, hw.c1, hw.c2, hw.c3, ?_, ?_⟩
  . rw [kin_eq hc]
    by_cases h3 : st.t.kd <= 3
    . rw [(hp.good h3).1, Bool.eq_iff_iff]; simp; omega
    . have := (hp.bad (by omega)).1
      rw [Bool.eq_iff_iff]; simp; omega
  . have hq9 : st.is sAt = (decide ((k : Int) = 3) && decide (t = sAt)) := by
     rw [hp.is hk4]; unfold FS.is; rw [h0]
     rfl
    rw [hq9]; exact is_calls (k : Nat) (st.t.at_ : Nat) t sAt W
 have HCd : Hid (∀ W, Rdy W rb mv s st -> Calls Tryz.prog 117 #[.pointer (some ⟨rb, 0, none⟩), .int .i64 (st.t.at_ : Nat)] W fun e w' => RQ W rb mv s (nameX s n st.t.at_ (st.is sAt) (if st.is sAt = true then st.step s else st)).2 (ExR W (nameX s n st.t.at_ (st.is sAt) (if st.is sAt = true then st.step s else st)).1) e w') := fun W hW => called_calls n _ hn st W hW hl
 have HSo : Hid (∀ W, Rdy W rb mv s st -> Calls Tryz.prog 118 #[.pointer (some ⟨rb, 0, none⟩), .int .i64 (st.t.at_ : Nat)] W fun e w' => RX W rb mv s (univF s n st).2 (ExR W (sortX st.t.at_ (univF s n st).1)) e w') := fun W hW => sort_calls n _ st W hW hl
 have HFi3 : Hid ((st.kin 1 = true \/ st.is sAt = true) -> fin = nameX s n st.t.at_ (st.is sAt) (if st.is sAt = true then st.step s else st)) := a3 hq' hi'
 have HFi4 : Hid (st.kin 1 = false -> st.is sAt = false -> fin.2 = (univF s n st).2 /\ ((univF s n st).2.code = 0 -> fin.1 = sortX st.t.at_ (univF s n st).1)) := a4 hq' hi'; clear h hq hq' hi hi' hl ih a1 a2 a3 a4
 generalize nameX s n st.t.at_ (st.is sAt) (if st.is sAt = true then st.step s else st) = nx at *; generalize univF s n st = ux at *; generalize st.is sAt = bAt at *; generalize st.kin 1 = b1 at *
 generalize st.t.at_ = ta at *
 have HGood : Hid (∀ W1, Touched w rb W1 -> (b1 = true \/ bAt = true) -> ∀ e W2, RQ W1 rb mv s nx.2 (ExR W1 nx.1) e W2 -> RX w rb mv s fin.2 (ExR w fin.1) e W2) := fun W1 hT1 hb e W2 h2 => by
  rw [HFi3.out hb]
  rcases h2.rx with ⟨hc2, ⟨e2, he, hl2, hx2⟩, hR2, hT2⟩ | ⟨hc2, hth⟩
  . exact .inl ⟨hc2, ⟨e2, he, Nat.le_trans hT1.size hl2, hx2.wide hT1.size⟩, hR2, hT1.trans hT2⟩
  . exact RX.bad hc2 hth hT1 (Bdn.refl _)
 have HGoodU : Hid (∀ W1, Touched w rb W1 -> b1 = false -> bAt = false -> ∀ e W2, RX W1 rb mv s ux.2 (ExR W1 (sortX ta ux.1)) e W2 -> RX w rb mv s fin.2 (ExR w fin.1) e W2) := fun W1 hT1 hb1 hb2 e W2 h2 => by
  obtain ⟨e1, e2'⟩ := HFi4.out hb1 hb2; rw [e1]
  rcases h2 with ⟨hc2, ⟨e2, he, hl2, hx2⟩, hR2, hT2⟩ | ⟨hc2, hth⟩
  . rw [e2' hc2]
    exact .inl ⟨hc2, ⟨e2, he, Nat.le_trans hT1.size hl2, hx2.wide hT1.size⟩, hR2, hT1.trans hT2⟩
  . exact RX.bad hc2 hth hT1 (Bdn.refl _)
 clear HFi3 HFi4
 go_enter Tryz.func107, Tryz.ntmps107
 go_wp2_with (go_at_call 38; refine KT.out.mono ?_)
 rintro e W0 ⟨rfl, hR0, hT0⟩; have KT2 := hide (HT2.out W0 hR0); have HT0 := hide hT0; clear hR0 hT0 KT HT2
 go_wp2_with (go_at_call 38; refine KT2.out.mono ?_)
 rintro e W1 ⟨rfl, hR1, hT1⟩; obtain ⟨k, t, q1, q2, q3, hk, KI⟩ := HKin.out W1 hR1; have HKI := hide KI; have HT1 := hide (HT0.out.trans hT1); have HR1 := hide hR1; clear hR1 hT1 KT2 HT0 HKin KI
 cases b1 with
 | true =>
   have KC := hide (HCd.out W1 HR1.out); clear HCd HSo HGoodU
   go_wp2_with (go_at_call 117; refine KC.out.mono ?_)
   intro e W2 h2; have HF := hide (HGood.out W1 HT1.out (by simp) e W2 h2); clear HGood
   rcases h2 with ⟨hc2, ⟨e2, rfl, -, -⟩, -, -⟩ | ⟨hc2, hth⟩
   . go_wp2_with fail
     go_ret; exact HF.out
   . obtain ⟨fb, rfl, -⟩ := hth
     go_wp2_with fail
     exact ⟨rfl, HF.out⟩
 | false =>
   cases bAt with
   | true =>
     clear HSo HGoodU
     go_wp2_with (go_at_call 68; refine HKI.out.mono ?_)
     first | (intro e W9 he hb1; subst he) | (rintro e W9 ⟨rfl, hb1⟩)
     have KC := hide (HCd.out W9 (HR1.out.later hb1)); have HT9 := hide (HT1.out.later hb1); clear hb1 HCd HR1 HT1
     go_wp2_with (go_at_call 117; refine KC.out.mono ?_)
     intro e W2 h2; have HF := hide (HGood.out W9 HT9.out (by simp) e W2 h2); clear HGood
     rcases h2 with ⟨hc2, ⟨e2, rfl, -, -⟩, -, -⟩ | ⟨hc2, hth⟩
     . go_wp2_with fail
       go_ret; exact HF.out
     . obtain ⟨fb, rfl, -⟩ := hth
       go_wp2_with fail
       exact ⟨rfl, HF.out⟩
   | false =>
     clear HCd HGood
     go_wp2_with (go_at_call 68; refine HKI.out.mono ?_)
     first | (intro e W9 he hb1; subst he) | (rintro e W9 ⟨rfl, hb1⟩)
     have KC := hide (HSo.out W9 (HR1.out.later hb1)); have HT9 := hide (HT1.out.later hb1); clear hb1 HSo HR1 HT1
     go_wp2_with (go_at_call 118; refine KC.out.mono ?_)
     intro e W2 h2; have HF := hide (HGoodU.out W9 HT9.out (by simp) (by simp) e W2 h2); clear HGoodU
     rcases h2 with ⟨hc2, ⟨e2, rfl, -, -⟩, -, -⟩ | ⟨hc2, hth⟩
     . go_wp2_with fail
       go_ret; exact HF.out
     . obtain ⟨fb, rfl, -⟩ := hth
       go_wp2_with fail
       exact ⟨rfl, HF.out⟩
end
theorem step_rx {ops : Array Oper} {o : Oper} {a : Act} {w : World} {K : Act -> World -> Prop} {Q : Exit -> Act -> World -> Prop} {E : Prop} {args : Array Value} {f : FuncId} {rb : Nat} {mv : Value} {s : ByteArray} {st' : FS} {G : Ending -> World -> Prop}
 (hg : o.guard = none) (hrun : (execOp a.eval o).run Tryz.prog w = .ok (.enter f args) w) (hc : Calls Tryz.prog f args w fun e w' => RX w rb mv s st' G e w') (hret : ∀ e w', G e w' -> ∃ v, e = .returned v)
 (hQ : ∀ (fb : Nat) (w' : World), Lost st' -> Threw w rb 1 (fp st') (.panicked [{ v := .iface 41 (.pointer (some ⟨fb, 0, none⟩)), recovered := false }]) w' -> Q (.panic [{ v := .iface 41 (.pointer (some ⟨fb, 0, none⟩)), recovered := false }]) a w')
 (hK : ∀ (v : Value) (w' : World), st'.code = 0 -> G (.returned v) w' -> Rdy w' rb mv s st' -> Touched w rb w' -> K (a.put o.dst v) w') :
 if Region.wanted o (yielded ops a.tmps) = true then Oper.wp Tryz.prog o a w K Q else E := by
 have hw : Region.wanted o (yielded ops a.tmps) = true := by simp [Region.wanted, hg]
 rw [if_pos hw]; unfold Oper.wp; rw [hrun]; refine hc.mono ?_; intro e w' h
 rcases h with ⟨h1, h2, h3, h4⟩ | ⟨h1, h2⟩
 . obtain ⟨v, rfl⟩ := hret e w' h2
   exact hK v w' h1 h2 h3 h4
 . obtain ⟨fb, rfl, h3⟩ := h2
   exact hQ fb w' h1 ⟨fb, rfl, h3⟩
theorem step_ptr {ops : Array Oper} {o : Oper} {a : Act} {w : World} {K : Act -> World -> Prop} {Q : Exit -> Act -> World -> Prop} {E : Prop} {args : Array Value} {f : FuncId} {R : Nat -> World -> Prop}
 (hg : o.guard = none) (hrun : (execOp a.eval o).run Tryz.prog w = .ok (.enter f args) w) (hc : Calls Tryz.prog f args w fun e w' => ∃ eb, e = .returned (.pointer (some ⟨eb, 0, none⟩)) /\ R eb w')
 (hK : ∀ (eb : Nat) (w' : World), R eb w' -> K (a.put o.dst (.pointer (some ⟨eb, 0, none⟩))) w') :
 if Region.wanted o (yielded ops a.tmps) = true then Oper.wp Tryz.prog o a w K Q else E := by
 have hw : Region.wanted o (yielded ops a.tmps) = true := by simp [Region.wanted, hg]
 rw [if_pos hw]; unfold Oper.wp; rw [hrun]; refine hc.mono ?_; rintro e w' ⟨eb, rfl, h⟩; exact hK eb w' h
section
variable {rb : Nat} {mv : Value} {s : ByteArray}
theorem apply_stop {n : Nat} {E : FS -> Ex × FS} {st : FS} (h : begins st = false) (m : Nat) (x : Ex) : applyN s n E m x st = (x, st) := by
 cases m with
 | zero => rfl
 | succ m => simp only [applyN]; rw [if_neg (by rw [h]; simp)]
theorem begins_kd {st : FS} (hc : st.code = 0) (h : begins st = true) : 1 <= st.t.kd /\ st.t.kd <= 3 := by
 rw [begins_eq hc] at h
 simp only [Bool.or_eq_true, Bool.and_eq_true, beq_iff_eq] at h
 rcases h with h | ⟨h, _⟩ <;> omega
theorem atom_left {n : Nat} {st : FS} (ho : st.Ok s) (hc : st.code = 0) (h : begins st = true) : (atomF s n (exprN s n) st).2.left s < st.left s := by
 obtain ⟨h1, h3⟩ := begins_kd hc h; have hlef := FS.step_left ho hc h1 h3; have hE := exprN_fwd (s := s) n; have hst := (Dn.refl ho).step; unfold atomF
 split
 . have hd : Dn s (st.step s) (nameX s n st.t.at_ false st).2 := by
    rename_i hk; unfold nameX
    simp only
    have e : (st.name s).2 = st.step s := by unfold FS.name; rw [if_pos hk]
    rw [e]
    split
    . exact ((levelsN_fwd n n _).dn ((levelN_fwd n).dn (Dn.refl ho.step).step)).must
    . exact Dn.refl ho.step
   exact Nat.lt_of_le_of_lt hd.left hlef
 split
 . exact Nat.lt_of_le_of_lt ((nameX_fwd (s := s) n st.t.at_ true) _ ho.step).left hlef
 split
 . exact hlef
 split
 . exact hlef
 split
 . split
   . exact Nat.lt_of_le_of_lt (Dn.refl ho.step).raised.left hlef
   . exact hlef
 split
 . exact Nat.lt_of_le_of_lt ((latomN_fwd n) _ ho.step).left hlef
 split
 . exact Nat.lt_of_le_of_lt ((bracketX_fwd hE _) _ ho.step).left hlef
 . rename_i n1 n2 n3 n4 n5 n6 n7
   unfold begins at h
   simp [n1, n2, n3, n4, n5, n6, n7] at h
structure ApSt (w : World) (rb : Nat) (mv : Value) (s : ByteArray) (x : Ex) (st : FS) (eb : Nat) (W : World) : Prop where
 xp : XP W (fun b => w.heap.size <= b) eb x
 le : w.heap.size <= eb
 rdy : Rdy W rb mv s st
 old : Touched w rb W
theorem apply_calls (n : Nat) (hn : n <= 1000000) (ih : ExprC rb mv s n) (st : FS) (w : World) (h : Rdy w rb mv s st) (hl : st.left s <= n) :
 Calls Tryz.prog 87 #[.pointer (some ⟨rb, 0, none⟩)] w fun e w' => RX w rb mv s (applyF s n (exprN s n) st).2 (ExR w (applyF s n (exprN s n) st).1) e w' := by
 have H := hide h; have hlt := h.lt; have hc := h.code; have KA := hide (atom_calls n hn ih st w h hl); have hE := exprN_fwd (s := s) n; have hd := atomF_fwd (n := n) hE st h.ok
 have HBeg : Hid (begins st = true -> (atomF s n (exprN s n) st).2.left s < n) := fun hb => Nat.lt_of_lt_of_le (atom_left h.ok hc hb) hl
 have HNb : Hid (begins st = false -> (atomF s n (exprN s n) st).2.code ≠ 0) := fun hb => by
  unfold begins at hb
  simp only [Bool.or_eq_false_iff] at hb
  obtain ⟨⟨⟨⟨⟨⟨b1, b2⟩, b3⟩, b4⟩, b5⟩, b6⟩, b7⟩ := hb; unfold atomF
  simp only [b1, b2, b3, b4, b5, b6, b7]
  show st.fail.code ≠ 0; unfold FS.fail; rw [if_pos hc]
  simp
 obtain ⟨bg, hbg⟩ : ∃ b, b = begins st := ⟨_, rfl⟩; rw [<- hbg] at HBeg HNb; clear hbg
 show Calls _ _ _ _ fun e w' => RX w rb mv s (applyN s n (exprN s n) n (atomF s n (exprN s n) st).1 (atomF s n (exprN s n) st).2).2 (ExR w (applyN s n (exprN s n) n (atomF s n (exprN s n) st).1 (atomF s n (exprN s n) st).2).1) e w'
 clear h hd hl; generalize (atomF s n (exprN s n) st).1 = x1 at *; generalize (atomF s n (exprN s n) st).2 = st1 at *; obtain ⟨fin, hfin⟩ : ∃ fin, fin = applyN s n (exprN s n) n x1 st1 := ⟨_, rfl⟩; rw [<- hfin]
 have HFi := hide hfin; clear hfin
 go_enter Tryz.func87, Tryz.ntmps87
 go_wp2_with (go_at_call 107; refine KA.out.mono ?_)
 intro e W1 h1
 rcases h1 with ⟨hc1, ⟨e1, rfl, hl1, hx1⟩, hR1, hT1⟩ | ⟨hc1, hth⟩
 rotate_left
 . have HF : Hid (RX w rb mv s fin.2 (ExR w fin.1) e W1) := RX.bad hc1 hth (Touched.refl _ _) (by rw [HFi.out]; exact applyN_bfw (s := s) (n := n) _ _ _ _)
   obtain ⟨fb, rfl, -⟩ := hth
   go_wp2_with fail
   exact ⟨rfl, HF.out⟩
 have HS : Hid (ApSt w rb mv s x1 st1 e1 W1) := ⟨hx1, hl1, hR1, hT1⟩
 have HLe : Hid (st1.left s < n) := hide (by
  cases bg with
  | true => exact HBeg.out (by simp)
  | false => exact absurd hc1 (HNb.out (by simp)))
 clear hx1 hR1 hT1 KA HBeg HNb
 go_wp2_with fail
 go_loopg [3] n (fun g v wr => ∃ (x : Ex) (st' : FS) (eb : Nat), v = .pointer (some ⟨eb, 0, none⟩) /\ Hid (applyN s n (exprN s n) g x st' = fin) /\ Hid (st'.left s < g) /\ Hid (g <= n) /\ Hid (ApSt w rb mv s x st' eb wr))
 case atStart => exact ⟨x1, st1, e1, rfl, HFi.out.symm, HLe.out, Nat.le_refl _, HS.out⟩
 case round =>
  clear HS HLe HFi; obtain ⟨x, st', eb, rfl, HE, HLt, HGn, HS⟩ := hrel; obtain ⟨g', rfl⟩ : ∃ g', gk = g' + 1 := ⟨gk - 1, by have := HLt.out; omega⟩; have hok := HS.out.rdy.ok; have hco := HS.out.rdy.code
  have KB := hide (beforeAtom_calls st' wr HS.out.rdy)
  by_cases hp : begins st' = true
  . have hle2 := atom_left (n := n) hok hco hp
    have HE2 : Hid (applyN s n (exprN s n) g' (appX x.at_ x (atomF s n (exprN s n) st').1) (atomF s n (exprN s n) st').2 = fin) := hide (by have := HE.out; simp only [applyN] at this; rw [if_pos hp] at this; exact this)
    have HL2 : Hid ((atomF s n (exprN s n) st').2.left s < g') := hide (by have := HLt.out; omega); have KA := hide (atom_calls n hn ih st' wr HS.out.rdy (by have := HLt.out; have := HGn.out; omega)); rw [hp] at KB
    clear hle2 hp hok hco HE HLt; generalize (atomF s n (exprN s n) st').1 = x2 at *; generalize (atomF s n (exprN s n) st').2 = st2 at *
    go_wp2_with (go_at_call 108; refine KB.out.mono ?_; rintro e w' ⟨rfl, rfl⟩)
    go_wp2_with (go_at_call 107; refine KA.out.mono ?_)
    intro e W3 h3
    rcases h3 with ⟨hc3, ⟨e3, rfl, hl3, hx3⟩, hR3, hT3⟩ | ⟨hc3, hth⟩
    rotate_left
    . have HF : Hid (RX w rb mv s fin.2 (ExR w fin.1) e W3) := RX.bad hc3 hth HS.out.old (by rw [<- HE2.out]; exact applyN_bfw (s := s) (n := n) _ _ _ _)
      obtain ⟨fb, rfl, -⟩ := hth
      go_wp2_with fail
      exact ⟨rfl, HF.out⟩
    have hz := HS.out.old.size; have KP := hide (applied_calls x x2 eb e3 (fun b => w.heap.size <= b) W3 (HS.out.xp.rest hT3 hlt HS.out.le) (hx3.wide hz)); have HR3 := hide hR3; have HT3 := hide (HS.out.old.trans hT3)
    clear hx3 hR3 hT3 KA KB HS
    go_wp2_with (go_at_call 109; refine KP.out.mono ?_)
    rintro e W4 ⟨e4, rfl, hl4, hx4, hB4⟩; have hz3 := HT3.out.size
    have HS4 : Hid (ApSt w rb mv s (appX x.at_ x x2) st2 e4 W4) := ⟨hx4.keep rfl fun b _ hs => ⟨by rcases hs with hs | hs; exact hs; omega, rfl⟩, by omega, HR3.out.later hB4, HT3.out.later hB4⟩; clear hx4 hB4 KP
    go_wp2_with fail
    go_roundg g'
    case measure => omega
    case rel => exact ⟨_, st2, e4, rfl, HE2.out, HL2.out, by have := HGn.out; exact hide (by omega), HS4.out⟩
  . have hp' : begins st' = false := by simpa using hp
    have hfi : fin = (x, st') := by rw [<- HE.out, apply_stop hp']
    rw [hp'] at KB; subst hfi; have HF : Hid (RX w rb mv s st' (ExR w x) (.returned (.pointer (some ⟨eb, 0, none⟩))) wr) := .inl ⟨hco, ⟨eb, rfl, HS.out.le, HS.out.xp⟩, HS.out.rdy, HS.out.old⟩
    clear HE HLt hp hp' hok hco
    go_wp2_with (go_at_call 108; refine KB.out.mono ?_; rintro e w' ⟨rfl, rfl⟩)
    go_ret; exact HF.out
theorem apply_left {n : Nat} {st : FS} (ho : st.Ok s) (hc : st.code = 0) (h : (applyF s n (exprN s n) st).2.code = 0) : (applyF s n (exprN s n) st).2.left s < st.left s := by
 have hE := exprN_fwd (s := s) n; have hd := atomF_fwd (n := n) hE st ho; have hd2 := applyN_fwd (n := n) hE n (atomF s n (exprN s n) st).1 _ hd.ok
 cases hb : begins st with
 | true => exact Nat.lt_of_le_of_lt hd2.left (atom_left ho hc hb)
 | false =>
   exfalso
   have h1 : (atomF s n (exprN s n) st).2.code ≠ 0 := by
    unfold begins at hb
    simp only [Bool.or_eq_false_iff] at hb
    obtain ⟨⟨⟨⟨⟨⟨b1, b2⟩, b3⟩, b4⟩, b5⟩, b6⟩, b7⟩ := hb; unfold atomF
    simp only [b1, b2, b3, b4, b5, b6, b7]
    show st.fail.code ≠ 0; unfold FS.fail; rw [if_pos hc]
    simp
   have := hd2.code h1; have e : (applyF s n (exprN s n) st).2 = (atomF s n (exprN s n) st).2 := this; rw [e] at h; exact h1 h
theorem Rdy.isq {w : World} {st : FS} (h : Rdy w rb mv s st) (q : ByteArray) : ∃ (k : Nat) (t : ByteArray), w.cell? ⟨rb, 1, none⟩ = some (.int .i64 (k : Nat)) /\ w.cell? ⟨rb, 2, none⟩ = some (.int .i64 (st.t.at_ : Nat)) /\ w.cell? ⟨rb, 3, none⟩ = some (.string t) /\ Calls Tryz.prog 68 #[.agg #[.int .i64 (k : Nat), .int .i64 (st.t.at_ : Nat), .string t], .string q] w fun e w' => e = .returned (.bool (st.is q)) /\ Below w.heap.size w w' := by
 obtain ⟨h0, c, k, t, r, hw, hp, hz⟩ := h.rd; refine ⟨k, t, hw.c1, hw.c2, hw.c3, ?_⟩
 have hq9 : st.is q = (decide ((k : Int) = 3) && decide (t = q)) := by
  rw [hp.is h.ok.kd]; unfold FS.is; rw [h0]
  rfl
 rw [hq9]; exact is_calls (k : Nat) (st.t.at_ : Nat) t q w
theorem equal_calls (n : Nat) (hn : n <= 1000000) (ih : ExprC rb mv s n) (st : FS) (w : World) (h : Rdy w rb mv s st) (hl : st.left s <= n) :
 Calls Tryz.prog 72 #[.pointer (some ⟨rb, 0, none⟩)] w fun e w' => RX w rb mv s (equalF s n (exprN s n) st).2 (ExR w (equalF s n (exprN s n) st).1) e w' := by
 have H := hide h; have hlt := h.lt; have hc := h.code; have KA := hide (apply_calls n hn ih st w h hl); have hE := exprN_fwd (s := s) n; have hd := applyF_fwd (n := n) hE st h.ok; have hok1 := hd.ok
 have hle1 : (applyF s n (exprN s n) st).2.left s <= n := Nat.le_trans hd.left hl; obtain ⟨fin, hfin⟩ : ∃ fin, fin = equalF s n (exprN s n) st := ⟨_, rfl⟩
 have HFin : Hid (fin = if (applyF s n (exprN s n) st).2.is sEq = true then (appX (applyF s n (exprN s n) st).2.t.at_ (appX (applyF s n (exprN s n) st).2.t.at_ (.node 1 (applyF s n (exprN s n) st).2.t.at_ wEq false false true false [] []) (applyF s n (exprN s n) st).1) (applyF s n (exprN s n) ((applyF s n (exprN s n) st).2.step s)).1, (applyF s n (exprN s n) ((applyF s n (exprN s n) st).2.step s)).2) else applyF s n (exprN s n) st) := hfin
 rw [<- hfin]; clear h hfin hd hl; generalize hap : applyF s n (exprN s n) st = ap at *; obtain ⟨x1, st1⟩ := ap
 simp only at HFin KA hok1 hle1
 clear hap
 go_enter Tryz.func72, Tryz.ntmps72
 go_wp2_with (go_at_call 87; refine KA.out.mono ?_)
 intro e W1 h1
 rcases h1 with ⟨hc1, ⟨e1, rfl, hl1, hx1⟩, hR1, hT1⟩ | ⟨hc1, hth⟩
 rotate_left
 . have HF : Hid (RX w rb mv s fin.2 (ExR w fin.1) e W1) := RX.bad hc1 hth (Touched.refl _ _) (by rw [HFin.out, if_neg (by rw [hc1.is]; simp)]; exact Bdn.refl _)
   obtain ⟨fb, rfl, -⟩ := hth
   go_wp2_with fail
   exact ⟨rfl, HF.out⟩
 obtain ⟨k, t, q1, q2, q3, KI⟩ := hR1.isq sEq; have HKI := hide KI; have HX1 := hide hx1; have HT1 := hide hT1; have HR1 := hide hR1; clear hx1 hR1 hT1 KA KI
 by_cases hq : st1.is sEq = true
 . have hkd := (FS.is_kd hq).2.1
   have hlef := FS.step_left hok1 hc1 (by omega) (by omega)
   have HFi : Hid (fin = (appX st1.t.at_ (appX st1.t.at_ (.node 1 st1.t.at_ wEq false false true false [] []) x1) (applyF s n (exprN s n) (st1.step s)).1, (applyF s n (exprN s n) (st1.step s)).2)) := hide (by rw [HFin.out, if_pos hq])
   rw [hq] at HKI
   have HTk : Hid (∀ W, Rdy W rb mv s st1 -> Calls Tryz.prog 40 #[.pointer (some ⟨rb, 0, none⟩)] W fun e w' => e = .returned (.agg #[.int .i64 3, .int .i64 (st1.t.at_ : Nat), .string st1.t.t]) /\ Rdy w' rb mv s (st1.step s) /\ Touched W rb w') := fun W hW => by
    have := takeQ hW (by omega); rw [hkd] at this; exact this
   have HAp : Hid (∀ W, Rdy W rb mv s (st1.step s) -> Calls Tryz.prog 87 #[.pointer (some ⟨rb, 0, none⟩)] W fun e w' => RX W rb mv s (applyF s n (exprN s n) (st1.step s)).2 (ExR W (applyF s n (exprN s n) (st1.step s)).1) e w') := fun W hW => apply_calls n hn ih _ W hW (by omega)
   clear HFin hq hkd hlef hok1 hle1 ih; generalize (applyF s n (exprN s n) (st1.step s)).1 = x2 at *; generalize (applyF s n (exprN s n) (st1.step s)).2 = st2 at *; generalize st1.step s = sta at *
   generalize st1.t.at_ = ta at *; generalize st1.t.t = tt at *
   go_wp2_with (go_at_call 68; refine HKI.out.mono ?_)
   first | (intro e W2 he hb2; subst he) | (rintro e W2 ⟨rfl, hb2⟩)
   have KT := hide (HTk.out W2 (HR1.out.later hb2)); have HT2 := hide (HT1.out.later hb2); have HX2 := hide (HX1.out.later hb2); clear hb2 HKI HTk HR1 HT1 HX1
   go_wp2_with (go_at_call 40; refine KT.out.mono ?_)
   rintro e W3 ⟨rfl, hR3, hT3⟩; have hr3 := hR3.lt; have HX3 := hide ((HX2.out.rest hT3 hlt hl1).later ((Below.refl W3.heap.size W3).alloc (Nat.le_refl _) (.cells #[.int .i64 3, .int .i64 (ta : Nat), .string tt] 46)))
   have HT3 := hide ((HT2.out.trans hT3).trans (Touched.alloc W3 rb (.cells #[.int .i64 3, .int .i64 (ta : Nat), .string tt] 46)))
   have KAp := hide (HAp.out _ ((hR3.alloc (.cells #[.int .i64 3, .int .i64 (ta : Nat), .string tt] 46)).drew)); have hz3 := (HT2.out.trans hT3).size
   have hbox := heap_alloc_new W3 (.cells #[.int .i64 3, .int .i64 (ta : Nat), .string tt] 46)
   have t1 : (W3.alloc (.cells #[.int .i64 3, .int .i64 (ta : Nat), .string tt] 46)).cell? ⟨W3.heap.size, 1, none⟩ = some (.int .i64 (ta : Nat)) := cell_of hbox 1 rfl
   have hsz : W3.heap.size < (W3.alloc (.cells #[.int .i64 3, .int .i64 (ta : Nat), .string tt] 46)).heap.size := by simp
   clear hR3 hT3 KT HX2 HT2 HAp
   go_wp2_with fail
   generalize (W3.alloc (.cells #[.int .i64 3, .int .i64 (ta : Nat), .string tt] 46)) = W4 at *
   go_region_law (first
    | (refine step_rx (f := 87) rfl ?_ KAp.out ExR.ret ?_ ?_
       . simp [go_sem]
       . intro fb w5 hc5 h5
         exact ⟨rfl, RX.bad hc5 h5 HT3.out.drew' (by rw [HFi.out]; exact Bdn.refl _)⟩
       intro v w5 hc5 hG5 hR5 hT5; obtain ⟨e5, he5, hl5, hx5⟩ := hG5; injection he5 with he5; subst he5; have hbx5 := (hT5.at (k := W3.heap.size) hsz (by omega)).trans hbox
       have t5 : w5.cell? ⟨W3.heap.size, 1, none⟩ = some (.int .i64 (ta : Nat)) := cell_of hbx5 1 rfl; have hzw : w.heap.size <= W4.heap.size := by omega
       have hx1' : XP w5 (fun b => w.heap.size <= b) e1 x1 := (HX3.out.later (Below.refl _ _).drew).rest hT5 hlt hl1
       have KQ := hide (equation_calls ta x1 x2 e1 e5 (fun b => w.heap.size <= b) w5 hx1' (hx5.wide hzw)))
    | (refine step_ptr (f := 88) rfl ?_ KQ.out ?_
       . simp [go_sem]
       intro e6 w6 h6))
   all_goals
    obtain ⟨hl6, hx6, hB6⟩ := h6; have hz5 := hT5.size; have hzd : W4.drew.heap.size = W4.heap.size := rfl
    have HF : Hid (RX w rb mv s fin.2 (ExR w fin.1) (.returned (.pointer (some ⟨e6, 0, none⟩))) w6) := by
     rw [HFi.out]; exact .inl ⟨hc5, ⟨e6, rfl, by omega, hx6.keep rfl fun b _ hs => ⟨by rcases hs with hs | hs; exact hs; omega, rfl⟩⟩, hR5.later hB6, (HT3.out.drew'.trans hT5).later hB6⟩
    clear hx6 hB6 hR5 hT5 KQ KAp hx5 hx1'
    go_wp2_with fail
    go_ret; exact HF.out
 . have hq' : st1.is sEq = false := by simpa using hq
   have HFi : Hid (fin = (x1, st1)) := hide (by rw [HFin.out, if_neg hq]); rw [hq'] at HKI; clear HFin hq hq' hok1 hle1 ih
   go_wp2_with (go_at_call 68; refine HKI.out.mono ?_)
   first | (intro e W2 he hb2; subst he) | (rintro e W2 ⟨rfl, hb2⟩)
   have HF : Hid (RX w rb mv s fin.2 (ExR w fin.1) (.returned (.pointer (some ⟨e1, 0, none⟩))) W2) := by
    rw [HFi.out]; exact .inl ⟨hc1, ⟨e1, rfl, hl1, HX1.out.later hb2⟩, HR1.out.later hb2, HT1.out.later hb2⟩
   clear hb2 HKI
   go_wp2_with fail
   go_ret; exact HF.out
end
end Go.Proofs.YtockffblncdikaaGreatDoor
