/- The contract of commandKind: the word that a command begins with. -/
import Derived.Test.YtockffblncdikaaGreatDoorXr
namespace Go.Proofs.YtockffblncdikaaGreatDoor
open Go.RowKit
set_option maxRecDepth 100000
set_option maxHeartbeats 16000000
def StP (_ : World) (_ : Nat -> Prop) (x : ByteArray) (v : Value) : Prop := v = .agg #[.string x]
theorem keep_StP : Keep1 StP := fun _ _ _ _ _ _ _ hp => hp
def SsIn (w : World) (S : Nat -> Prop) (A : Option Addr) (l : List ByteArray) : Prop := ∀ i (h : i < l.length), ∃ b, A = some ⟨b, 0, none⟩ /\ S b /\ w.cell? ⟨b, i, none⟩ = some (.string l[i])
theorem GRow.strs {W : World} {T n0 : Nat} {l : List ByteArray} {rv : Value} {ys : List Value} (h : GRow (KL StP l) W T 1 0 n0 l.length rv ys) : ∃ A c, rv = .slice A l.length c /\ SsIn W (fun b => n0 <= b) A l := by
 obtain ⟨A, c, e, hp⟩ := h.out (KL.keeps keep_StP _); refine ⟨A, c, e, fun i hi => ?_⟩; obtain ⟨g, a, ea, hg, hz, hc, hin⟩ := hp i hi; obtain ⟨_, hv⟩ := hin; have hv' : a = #[.string l[i]] := by injection hv
 subst hv'; have := hc 0 (by omega); rw [Nat.mul_one] at this; exact ⟨g, ea, hg, this⟩
theorem Tryz.info9' : (Tryz.prog.info? 9).map (fun i => (i.zero, i.size, i.bytes)) = some (some (.string ⟨#[]⟩), 1, 16) := by kernel_rfl
section
variable {rb : Nat} {mv : Value} {s : ByteArray}
def SsR (w : World) (l : List ByteArray) (e : Ending) (w' : World) : Prop := ∃ (A : Option Addr) (c : Nat), e = .returned (.slice A l.length c) /\ SsIn w' (fun b => w.heap.size <= b) A l
theorem commas_stop {st : FS} (h : st.is sComma = false) (m : Nat) (l : List ByteArray) : commasN s m l st = (l, st) := by
 cases m with
 | zero => rfl
 | succ m => simp only [commasN]; rw [if_neg (by rw [h]; simp)]
theorem params_calls (n : Nat) (hn : n <= 900000) (st : FS) (w : World) (h : Rdy w rb mv s st) (hl : st.left s < n) :
 Calls Tryz.prog 27 #[.pointer (some ⟨rb, 0, none⟩)] w fun e w' => RQ w rb mv s (paramsF s n st).2 (SsR w (paramsF s n st).1) e w' := by
 have H := hide h; have hlt := h.lt; have hc := h.code; have hok := h.ok; have K1 := hide (tookQ h sLevels); obtain ⟨fin, hfin⟩ : ∃ fin, fin = paramsF s n st := ⟨_, rfl⟩; rw [<- hfin]
 by_cases q1 : st.is sLevels = true
 rotate_left
 . have q1' : st.is sLevels = false := by simpa using q1
   have hf : fin = ([], st) := by rw [hfin]; unfold paramsF; rw [if_neg q1]
   rw [q1', if_neg (by simp)] at K1; subst hf; clear hfin h hl
   go_enter Tryz.func27, Tryz.ntmps27
   go_wp2_with (go_at_call 38; refine K1.out.mono ?_)
   rintro e W1 ⟨rfl, hR1, hT1⟩; have HF : Hid (RQ w rb mv s st (SsR w []) (.returned (.slice none 0 0)) W1) := .inl ⟨hc, ⟨none, 0, rfl, fun i hi => absurd hi (by simp)⟩, hR1, hT1⟩; clear hR1 hT1 K1
   go_wp2_with fail
   go_ret; exact HF.out
 have hkd := (FS.is_kd q1).2.1; have hlef := FS.step_left hok hc (by omega) (by omega); have HLe : Hid (((st.step s).name s).2.left s < n) := hide (by have := ((Dn.refl hok.step).name).left; omega)
 have HNm : Hid (∀ W, Rdy W rb mv s (st.step s) -> Calls Tryz.prog 26 #[.pointer (some ⟨rb, 0, none⟩)] W fun e w' => RQ W rb mv s ((st.step s).name s).2 (fun e _ => e = .returned (.agg #[.int .i64 1, .int .i64 ((st.step s).t.at_ : Nat), .string ((st.step s).name s).1])) e w') := fun W hW => nameQ hW
 obtain ⟨fi, hfi⟩ : ∃ fi, fi = commasN s n [((st.step s).name s).1] ((st.step s).name s).2 := ⟨_, rfl⟩; have HFn : Hid (fin = (fi.1, fi.2.must s sUnbrace)) := hide (by rw [hfin, hfi]; unfold paramsF; rw [if_pos q1])
 have HFi := hide hfi; obtain ⟨i0, hi, hz0, hz1, hz2⟩ := infoParts Tryz.info9'; rw [q1, if_pos rfl] at K1; clear hfin hfi h hl hok hkd hlef; generalize ((st.step s).name s).1 = nm at *
 generalize ((st.step s).name s).2 = st1 at *; generalize (st.step s).t.at_ = ta at *; generalize st.step s = sta at *
 go_enter Tryz.func27, Tryz.ntmps27
 go_wp2_with (go_at_call 38; refine K1.out.mono ?_)
 rintro e W0 ⟨rfl, hR0, hT0⟩; have KN := hide (HNm.out W0 hR0); have HT0 := hide hT0; clear hR0 hT0 K1 HNm
 go_wp2_with (go_at_call 26; refine KN.out.mono ?_)
 intro e W1 h1
 rcases h1 with ⟨hc1, rfl, hR1, hT1⟩ | ⟨hc1, hth⟩
 rotate_left
 . have HF : Hid (RQ w rb mv s fin.2 (SsR w fin.1) e W1) := RQ.bad hc1 hth HT0.out (by rw [HFn.out, HFi.out, commas_stop (is_bad hc1 _), must_bad hc1])
   obtain ⟨fb, rfl, -⟩ := hth
   go_wp2_with fail
   exact ⟨rfl, HF.out⟩
 have HS : Hid (RwSt StP 9 1 w rb mv s [nm] st1 (some ⟨W1.heap.size, 0, none⟩) 1 [.agg #[.string nm]] (W1.alloc (.cells #[.string nm] 9))) := RwSt.one keep_StP hR1 (HT0.out.trans hT1) rfl rfl
 have hfd : ∀ (w : World), (Instr.field 46 (.agg #[.int .i64 1, .int .i64 (ta : Nat), .string nm]) 2).run Tryz.prog w = .ok (.string nm) w := fun w => by kernel_rfl
 clear hR1 hT1 KN HT0
 go_wp2_with fail
 clear hfd
 go_loopg [3] n (fun g v wr => ∃ (ls : List ByteArray) (st' : FS) (A : Option Addr) (c : Nat) (ys : List Value), v = .slice A ls.length c /\ Hid (commasN s g ls st' = fi) /\ Hid (st'.left s < g) /\ ls.length + g = n + 1 /\ Hid (RwSt StP 9 1 w rb mv s ls st' A c ys wr))
 case atStart => exact ⟨[nm], st1, _, _, _, rfl, HFi.out.symm, HLe.out, by simp; omega, HS.out⟩
 case round =>
  clear HS HLe HFi; obtain ⟨ls, st', A, c, ys, rfl, HE, HLt, hlen, HS⟩ := hrel; obtain ⟨g', rfl⟩ : ∃ g', gk = g' + 1 := ⟨gk - 1, by have := HLt.out; omega⟩; have hok := HS.out.rdy.ok; have hco := HS.out.rdy.code
  have KT := hide (tookQ HS.out.rdy sComma)
  by_cases hp : st'.is sComma = true
  . have hkd := (FS.is_kd hp).2.1
    have hlef := FS.step_left hok hco (by omega) (by omega)
    have HE2 : Hid (commasN s g' (ls ++ [((st'.step s).name s).1]) ((st'.step s).name s).2 = fi) := hide (by have := HE.out; simp only [commasN] at this; rw [if_pos hp] at this; exact this)
    have HL2 : Hid (((st'.step s).name s).2.left s < g') := hide (by have := ((Dn.refl hok.step).name).left; have := HLt.out; omega)
    have HLv : Hid (∀ W, Rdy W rb mv s (st'.step s) -> Calls Tryz.prog 26 #[.pointer (some ⟨rb, 0, none⟩)] W fun e w' => RQ W rb mv s ((st'.step s).name s).2 (fun e _ => e = .returned (.agg #[.int .i64 1, .int .i64 ((st'.step s).t.at_ : Nat), .string ((st'.step s).name s).1])) e w') := fun W hW => nameQ hW
    rw [hp, if_pos rfl] at KT; clear hlef hkd hp hok hco HE HLt; generalize ((st'.step s).name s).1 = l2 at *; generalize ((st'.step s).name s).2 = st2 at *; generalize (st'.step s).t.at_ = ta2 at *
    generalize st'.step s = stb at *
    go_wp2_with (go_at_call 38; refine KT.out.mono ?_)
    rintro e W3 ⟨rfl, hR3, hT3⟩; have HS3 := hide (HS.out.touched keep_StP hR3 hT3 hlt); have KV := hide (HLv.out W3 hR3); clear hR3 hT3 KT HLv HS
    go_wp2_with (go_at_call 26; refine KV.out.mono ?_)
    intro e W4 h4
    rcases h4 with ⟨hc4, rfl, hR4, hT4⟩ | ⟨hc4, hth⟩
    rotate_left
    . have HF : Hid (RQ w rb mv s fin.2 (SsR w fin.1) e W4) := RQ.bad hc4 hth HS3.out.old (by rw [HFn.out, <- HE2.out, commas_stop (is_bad hc4 _), must_bad hc4])
      obtain ⟨fb, rfl, -⟩ := hth
      go_wp2_with fail
      exact ⟨rfl, HF.out⟩
    have HO4 := hide ((HS3.out.row.touched (KL.keeps keep_StP _) hT4 hlt).own.alloc (.cells #[.string l2] 9)); have hz3 := HS3.out.old.size; have hz4 := hT4.size; have HR4 := hide hR4; have HT4 := hide hT4
    have hfd : ∀ (w : World), (Instr.field 46 (.agg #[.int .i64 1, .int .i64 (ta2 : Nat), .string l2]) 2).run Tryz.prog w = .ok (.string l2) w := fun w => by kernel_rfl
    clear hR4 hT4 KV
    go_wp2_with (at_builtin; refine wpList_append_placed _ rfl _ _ 54 rfl w.heap.size 9 i0 _ 1 16 Tryz.underlying54 hi hz0 hz1 hz2 rfl (by decide) (.slice A ls.length c) ls.length (flat ys) rfl HO4.out ⟨W4.heap.size, 0, none⟩ 1 1 [.string l2] rfl rfl (cells_new _ [.string l2] _) (by intro u hu; simp at hu; subst hu; rfl) (by decide) (by unfold maxLen; omega) (by omega) (by simp; omega) ?_)
    intro v' w6 hown6 hgr6 hpl6; obtain ⟨A6, c6, hv6, hS6⟩ := RwSt.snoc keep_StP (x := l2) H.out HS3.out HR4.out HT4.out rfl rfl hown6 hgr6 (by simpa using hpl6); subst hv6; have HS6 := hide hS6
    clear hown6 hgr6 hpl6 hS6 HO4 HR4 HT4 HS3 hfd
    go_wp2_with fail
    go_roundg g'
    case measure => omega
    case rel => exact ⟨ls ++ [l2], st2, A6, c6, _, by simp, HE2.out, HL2.out, by simp; omega, HS6.out⟩
  . have hp' : st'.is sComma = false := by simpa using hp
    have hfi : fi = (ls, st') := by rw [<- HE.out, commas_stop hp']
    rw [hp', if_neg (by simp)] at KT; subst hfi; clear HE HLt hp hp' hok hco
    go_wp2_with (go_at_call 38; refine KT.out.mono ?_)
    first | (intro e W3 he hR3 hT3; subst he) | (rintro e W3 ⟨rfl, hR3, hT3⟩)
    have HS3 := hide (HS.out.touched keep_StP hR3 hT3 hlt); have KE := hide (expectQ hR3 sUnbrace); clear hR3 hT3 KT HS
    go_wp2_with (go_at_call 29; refine KE.out.mono ?_)
    intro e W4 h4
    rcases h4 with ⟨hc4, rfl, hR4, hT4⟩ | ⟨hc4, hth⟩
    rotate_left
    . have HF : Hid (RQ w rb mv s fin.2 (SsR w fin.1) e W4) := RQ.bad hc4 hth HS3.out.old (by rw [HFn.out])
      obtain ⟨fb, rfl, -⟩ := hth
      go_wp2_with fail
      exact ⟨rfl, HF.out⟩
    have HF : Hid (RQ w rb mv s fin.2 (SsR w fin.1) (.returned (.slice A ls.length c)) W4) := by
     have hrow := HS3.out.row.touched (KL.keeps keep_StP _) hT4 hlt; obtain ⟨A', c', e', hL⟩ := GRow.strs (l := ls) hrow; injection e' with e1 e2 e3; subst e1; rw [HFn.out]
     exact .inl ⟨hc4, ⟨A, c, rfl, hL⟩, hR4, HS3.out.old.trans hT4⟩
    clear hR4 hT4 KE HS3
    go_wp2_with fail
    go_ret; exact HF.out
end
section
variable {s : ByteArray}
theorem moreN_fwd : ∀ (m : Nat) (l : List ByteArray), Fwd s (moreN s m l)
 | 0, _ => fun st h => Dn.refl h
 | m + 1, l => fun st h => by
   simp only [moreN]
   split
   . exact (moreN_fwd m _).dn (Dn.refl h).name
   . exact Dn.refl h
theorem commasN_fwd : ∀ (m : Nat) (l : List ByteArray), Fwd s (commasN s m l)
 | 0, _ => fun st h => Dn.refl h
 | m + 1, l => fun st h => by
   simp only [commasN]
   split
   . exact (commasN_fwd m _).dn (Dn.refl h).step.name
   . exact Dn.refl h
theorem paramsF_fwd (n : Nat) : Fwd s (paramsF s n) := fun st h => by
 unfold paramsF
 simp only
 split
 . exact ((commasN_fwd n _).dn (Dn.refl h).step.name).must
 . exact Dn.refl h
theorem tacticF_fwd (n : Nat) : Fwd s (tacticF s n) := fun st h => by
 unfold tacticF
 simp only
 generalize (if st.kin 1 = true then wordNo st.t.t tacWords 1 else 0) = k
 split
 . exact (Dn.refl h).fail
 split
 . exact (moreN_fwd n _).dn (Dn.refl h).step.name
 split
 . exact (Dn.refl h).step.name
 split
 . exact (exprN_fwd n).dn (Dn.refl h).step.name.must
 split
 . exact (exprN_fwd n).dn (Dn.refl h).step
 split
 . split
   . exact (Dn.refl h).step.step
   . exact (Dn.refl h).step.fail
 . exact (Dn.refl h).step
theorem tacticsN_fwd (n : Nat) : ∀ (m : Nat) (l : List Tc), Fwd s (tacticsN s n m l)
 | 0, _ => fun st h => Dn.refl h
 | m + 1, l => fun st h => by
   simp only [tacticsN]
   split
   . exact (tacticsN_fwd n m _).dn ((tacticF_fwd n).dn (Dn.refl h).step)
   . exact Dn.refl h
theorem ctorF_fwd (n : Nat) : Fwd s (ctorF s n) := fun _ h => (exprN_fwd n).dn (Dn.refl h).name.must
theorem ctorsN_fwd (n : Nat) : ∀ (m : Nat) (l : List Ct), Fwd s (ctorsN s n m l)
 | 0, _ => fun st h => Dn.refl h
 | m + 1, l => fun st h => by
   simp only [ctorsN]
   split
   . exact (ctorsN_fwd n m _).dn ((ctorF_fwd n).dn (Dn.refl h).step)
   . exact Dn.refl h
theorem commandF_fwd (n : Nat) : Fwd s (commandF s n) := fun st h => by
 have ht : Dn s st (exprN s n ((groupsN s n (exprN s n) n [] (paramsF s n ((st.step s).name s).2).2).2.must s sColon)).2 :=
  (exprN_fwd n).dn ((groupsN_fwd (exprN_fwd n) n []).dn ((paramsF_fwd n).dn (Dn.refl h).step.name)).must
 unfold commandF
 simp only
 generalize (if st.kin 3 = true then wordNo st.t.t kindWords 1 else 0) = k
 split
 . exact (Dn.refl h).fail
 generalize exprN s n ((groupsN s n (exprN s n) n [] (paramsF s n ((st.step s).name s).2).2).2.must s sColon) = t at ht ⊢
 split
 . exact ((exprN_fwd n).dn ht.must).must
 split
 . exact ((tacticsN_fwd n n _).dn ((tacticF_fwd n).dn ht.step)).must
 split
 . exact ((ctorsN_fwd n n _).dn ht).must
 . exact ht.must
theorem paramsF_bfw (n : Nat) : Bfw (paramsF s n) := fun st h => by
 unfold paramsF; rw [if_neg (by rw [h.is]; simp)]; exact ⟨h, rfl⟩
theorem tacticsN_bfw (n m : Nat) (l : List Tc) : Bfw (tacticsN s n m l) := fun st h => by
 cases m with
 | zero => exact ⟨h, rfl⟩
 | succ m => simp only [tacticsN]; rw [if_neg (by rw [h.is]; simp)]; exact ⟨h, rfl⟩
theorem ctorsN_bfw (n m : Nat) (l : List Ct) : Bfw (ctorsN s n m l) := fun st h => by
 cases m with
 | zero => exact ⟨h, rfl⟩
 | succ m => simp only [ctorsN]; rw [if_neg (by rw [h.is]; simp)]; exact ⟨h, rfl⟩
theorem commandF_bfw (n : Nat) : Bfw (commandF s n) := fun st h => by
 unfold commandF
 simp only [h.kin (show 3 ≠ 4 by decide), Bool.false_eq_true, if_false, if_true]
 exact bdn_fail st h
def restF (s : ByteArray) (n : Nat) (c : Cm) (st : FS) : Cm × FS :=
 if c.kd = 2 \/ (c.kd = 3 /\ st.is wBy = false) then ({ c with vl := (exprN s n (st.must s sBe)).1 }, (exprN s n (st.must s sBe)).2)
 else if c.kd = 3 then ({ c with tac := true, tcs := (tacticsN s n n [(tacticF s n (st.step s)).1] (tacticF s n (st.step s)).2).1 }, (tacticsN s n n [(tacticF s n (st.step s)).1] (tacticF s n (st.step s)).2).2)
 else if c.kd = 4 then ({ c with cts := (ctorsN s n n [] st).1 }, (ctorsN s n n [] st).2)
 else (c, st)
theorem restF_bfw (n : Nat) (c : Cm) : Bfw (restF s n c) := fun st h => by
 unfold restF
 split
 . exact ((bdn_must (s := s) st sBe).trans (exprN_bfw n _)) h
 . rename_i h1
   split
   . rename_i h2
     exact absurd (Or.inr ⟨h2, h.is _⟩) h1
   split
   . exact ctorsN_bfw n n [] st h
   . exact ⟨h, rfl⟩
theorem restF_fwd (n : Nat) (c : Cm) : Fwd s (restF s n c) := fun st h => by
 unfold restF
 split
 . exact (exprN_fwd n).dn (Dn.refl h).must
 split
 . exact (tacticsN_fwd n n _).dn ((tacticF_fwd n).dn (Dn.refl h).step)
 split
 . exact (ctorsN_fwd n n _).dn (Dn.refl h)
 . exact Dn.refl h
def kindNo (st : FS) : Nat := if st.kin 3 = true then wordNo st.t.t kindWords 1 else 0
theorem commandF_eq {n : Nat} {st : FS} (h : kindNo st ≠ 0) : commandF s n st =
 (let q := (st.step s).name s
  let p := paramsF s n q.2
  let b := groupsN s n (exprN s n) n [] p.2
  let t := exprN s n (b.2.must s sColon)
  let r := restF s n ⟨kindNo st, st.t.at_, q.1, p.1, b.1, t.1, zeroX, false, [], []⟩ t.2
  (r.1, r.2.must s sDot)) := by
 unfold commandF
 simp only
 rw [show (if st.kin 3 = true then wordNo st.t.t kindWords 1 else 0) = kindNo st from rfl, if_neg h]; unfold restF
 simp only
 split
 . rfl
 split
 . rfl
 split
 . rfl
 . rfl
theorem commandF_zero {n : Nat} {st : FS} (h : kindNo st = 0) : commandF s n st = (zeroC st.t.at_, st.fail) := by
 unfold commandF
 simp only
 rw [show (if st.kin 3 = true then wordNo st.t.t kindWords 1 else 0) = kindNo st from rfl, if_pos h]
end
def cwn : Nat -> ByteArray
 | 0 => ⟨#[]⟩
 | 1 => ⟨#[97, 120, 105, 111, 109]⟩
 | 2 => ⟨#[100, 101, 102]⟩
 | 3 => ⟨#[116, 104, 101, 111, 114, 101, 109]⟩
 | _ => ⟨#[105, 110, 100, 117, 99, 116, 105, 118, 101]⟩
theorem cwx0 (w : World) : (Instr.index 96 (.agg cwv.toArray) (.int .i64 0)).run Tryz.prog w = .ok (.string (cwn 0)) w := by kernel_rfl
theorem cwx1 (w : World) : (Instr.index 96 (.agg cwv.toArray) (.int .i64 1)).run Tryz.prog w = .ok (.string (cwn 1)) w := by kernel_rfl
theorem cwx2 (w : World) : (Instr.index 96 (.agg cwv.toArray) (.int .i64 2)).run Tryz.prog w = .ok (.string (cwn 2)) w := by kernel_rfl
theorem cwx3 (w : World) : (Instr.index 96 (.agg cwv.toArray) (.int .i64 3)).run Tryz.prog w = .ok (.string (cwn 3)) w := by kernel_rfl
theorem cwx4 (w : World) : (Instr.index 96 (.agg cwv.toArray) (.int .i64 4)).run Tryz.prog w = .ok (.string (cwn 4)) w := by kernel_rfl
theorem cwx (k : Nat) (hk : k < 5) (w : World) : (Instr.index 96 (.agg cwv.toArray) (.int .i64 (k : Nat))).run Tryz.prog w = .ok (.string (cwn k)) w := by
 match k, hk with
 | 0, _ => exact cwx0 w
 | 1, _ => exact cwx1 w
 | 2, _ => exact cwx2 w
 | 3, _ => exact cwx3 w
 | 4, _ => exact cwx4 w
 | k + 5, hk => omega
theorem cwn_zero {s : ByteArray} {st : FS} (h : st.Ok s) : st.is (cwn 0) = false := by
 cases hq : st.is (cwn 0) with
 | false => rfl
 | true =>
   exfalso
   obtain ⟨p, hf⟩ := h.tok; unfold FS.is at hq
   simp at hq
   obtain ⟨⟨_, h3⟩, h4⟩ := hq; have h5 : st.t.at_ < st.e := hf.more (by show 1 <= st.t.kd; omega) (by show st.t.kd <= 3; omega); have h6 : st.t.t.size = st.e - st.t.at_ := hf.text; rw [h4] at h6
   have h7 : (cwn 0).size = 0 := rfl; omega
theorem kindNo_at {st : FS} (k : Nat) (hk : k < 5) (h : st.is (cwn k) = true) (h0 : k ≠ 0) : kindNo st = k := by
 unfold FS.is at h
 simp at h
 obtain ⟨⟨h1, h2⟩, h3⟩ := h; unfold kindNo FS.kin; rw [h1, h2, h3]
 match k, hk with
 | 0, _ => exact absurd rfl h0
 | 1, _ => decide
 | 2, _ => decide
 | 3, _ => decide
 | 4, _ => decide
 | k + 5, hk => omega
theorem kindNo_none {st : FS} (h : ∀ k, k < 5 -> st.is (cwn k) = false) : kindNo st = 0 := by
 unfold kindNo
 split
 . rename_i hk
   unfold FS.kin at hk
   simp at hk
   have hq : ∀ k, k < 5 -> st.t.t ≠ cwn k := fun k hk' e => by
    have := h k hk'; unfold FS.is at this
    simp [hk.1, hk.2, e] at this
   have q1 : ¬ (⟨#[97, 120, 105, 111, 109]⟩ : ByteArray) = st.t.t := fun e => hq 1 (by omega) e.symm
   have q2 : ¬ (⟨#[100, 101, 102]⟩ : ByteArray) = st.t.t := fun e => hq 2 (by omega) e.symm
   have q3 : ¬ (⟨#[116, 104, 101, 111, 114, 101, 109]⟩ : ByteArray) = st.t.t := fun e => hq 3 (by omega) e.symm
   have q4 : ¬ (⟨#[105, 110, 100, 117, 99, 116, 105, 118, 101]⟩ : ByteArray) = st.t.t := fun e => hq 4 (by omega) e.symm
   simp only [kindWords, wordNo]
   rw [if_neg q1, if_neg q2, if_neg q3, if_neg q4]
 . rfl
section
variable {rb : Nat} {mv : Value} {s : ByteArray}
theorem commandKind_calls (st : FS) (w : World) (h : Rdy w rb mv s st) :
 Calls Tryz.prog 25 #[.pointer (some ⟨rb, 0, none⟩)] w fun e w' => RQ w rb mv s (if kindNo st = 0 then st.fail else st.step s) (fun e _ => e = .returned (.int .i64 (kindNo st : Nat))) e w' := by
 have H := hide h; have hlt := h.lt; have hc := h.code; have hr := hide h.tb.cw; obtain ⟨fin, hfin⟩ : ∃ fin, fin = if kindNo st = 0 then st.fail else st.step s := ⟨_, rfl⟩
 rw [<- hfin]; have HF := hide hfin; clear h hfin
 go_enter Tryz.func25, Tryz.ntmps25
 go_wp2_with (refine wpList_load_mid rfl 96 _ rfl 0 0 rfl cwv _ hr.out Tryz.underlying96 rfl (by kernel_rfl) ?_)
 go_loopg [6] 5 (fun g v wr => ∃ k : Nat, k + g = 5 /\ v = .int .i64 (k : Nat) /\ Hid (∀ j, j < k -> st.is (cwn j) = false) /\ Hid (Rdy wr rb mv s st) /\ Hid (Touched w rb wr))
 case atStart => exact ⟨0, by omega, rfl, fun j hj => absurd hj (by omega), H.out, Touched.refl _ _⟩
 case round =>
  obtain ⟨k, hkg, rfl, HJ, HR, HT⟩ := hrel
  by_cases hk : k < 5
  . have e1 : decide ((k : Int) < 5) = true := by simp; omega
    have hx := cwx k hk; have KT := hide (tookQ HR.out (cwn k))
    by_cases hq : st.is (cwn k) = true
    . have hk0 : k ≠ 0 := fun e => by rw [e, cwn_zero HR.out.ok] at hq; simp at hq
      have hkn := kindNo_at k hk hq hk0; rw [hq, if_pos rfl] at KT; have HKn := hide hkn; have HFn : Hid (fin = st.step s) := hide (by rw [HF.out, if_neg (by omega)])
      have hco : (st.step s).code = 0 := by unfold FS.step; rw [if_pos hc]; exact hc
      clear hq hkn hk0 HJ; generalize cwn k = q at *
      go_wp2_with (go_at_call 38; refine KT.out.mono ?_)
      rintro e W1 ⟨rfl, hR1, hT1⟩
      have HX : Hid (RQ w rb mv s fin (fun e _ => e = .returned (.int .i64 (kindNo st : Nat))) (.returned (.int .i64 (k : Nat))) W1) := by rw [HFn.out, HKn.out]; exact .inl ⟨hco, rfl, hR1, HT.out.trans hT1⟩
      clear hR1 hT1 KT
      go_wp2_with fail
      go_ret; exact HX.out
    . have hq' : st.is (cwn k) = false := by simpa using hq
      rw [hq', if_neg (by simp)] at KT
      have HJ2 : Hid (∀ j, j < k + 1 -> st.is (cwn j) = false) := hide fun j hj => by
       by_cases hjk : j < k
       . exact HJ.out j hjk
       . rw [show j = k by omega]; exact hq'
      clear hq hq' HJ; generalize cwn k = q at *
      go_wp2_with (go_at_call 38; refine KT.out.mono ?_)
      rintro e W1 ⟨rfl, hR1, hT1⟩; have HR1 := hide hR1; have HT1 := hide (HT.out.trans hT1); clear hR1 hT1 KT
      go_wp2_with fail
      go_roundg (4 - k)
      case measure => omega
      case rel => exact ⟨k + 1, by omega, by go_num, HJ2.out, HR1.out, HT1.out⟩
  . have e1 : decide ((k : Int) < 5) = false := by simp; omega
    have hk0 := kindNo_none (st := st) fun j hj => HJ.out j (by omega)
    have KR := hide (refuseQ HR.out); have HFn : Hid (fin = st.fail) := hide (by rw [HF.out, if_pos hk0])
    go_wp2_with (go_at_call 39; refine KR.out.mono ?_)
    intro e W1 hth
    have HX : Hid (RQ w rb mv s fin (fun e _ => e = .returned (.int .i64 (kindNo st : Nat))) e W1) := by
     rw [HFn.out]; have e2 : st.fail.fat = st.t.at_ := by unfold FS.fail; rw [if_pos hc]
     have e3 : st.fail.code ≠ 0 := by unfold FS.fail; rw [if_pos hc]; simp
     exact .inr ⟨e3, by rw [e2]; exact hth.from HT.out⟩
    obtain ⟨fb, rfl, -⟩ := hth
    go_wp2_with fail
    exact ⟨rfl, HX.out⟩
end
end Go.Proofs.YtockffblncdikaaGreatDoor
