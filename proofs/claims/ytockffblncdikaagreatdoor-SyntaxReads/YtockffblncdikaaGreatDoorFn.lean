/- The contract of funs: the binders of a fun. -/
import Derived.Test.YtockffblncdikaaGreatDoorIb
namespace Go.Proofs.YtockffblncdikaaGreatDoor
open Go.RowKit
set_option maxRecDepth 100000
set_option maxHeartbeats 16000000
theorem namesN_len (s : ByteArray) : ∀ (m : Nat) (l : List (ByteArray × Nat)) (st : FS), (namesN s m l st).1.length <= l.length + m /\ l.length <= (namesN s m l st).1.length /\ (0 < m -> l.length < (namesN s m l st).1.length)
 | 0, l, st => ⟨Nat.le_refl _, Nat.le_refl _, fun h => absurd h (by omega)⟩
 | m + 1, l, st => by
   simp only [namesN]
   split
   . have := namesN_len s m (l ++ [((st.name s).1, st.t.at_)]) (st.name s).2
     simp at this
     omega
   . simp
theorem groupF_len {s : ByteArray} {n : Nat} {E : FS -> Ex × FS} (st : FS) : (groupF s n E st).1.length <= n + 1 /\ 0 < (groupF s n E st).1.length := by
 unfold groupF
 simp only [List.length_map]
 have := namesN_len s (n + 1) [] (if st.is sBrace = true then st.step s else st.must s sOpen)
 simp only [List.length_nil] at this
 omega
theorem BdsIn.vals {w : World} {S : Nat -> Prop} {A : Option Addr} {l : List Bd} (h : BdsIn w S A l) (h0 : 0 < l.length) : ∃ (b : Nat) (vals : Nat -> Array Value), A = some ⟨b, 0, none⟩ /\ S b /\ (∀ i, i < l.length -> (vals i).size = 12 /\ (vals i).all (·.oneCell') = true) /\ (∀ i q, i < l.length -> q < 12 -> w.cell? ⟨b, i * 12 + q, none⟩ = (vals i)[q]?) /\ ∀ i (hi : i < l.length), BdP w S l[i] (.agg (vals i)) := by
 obtain ⟨b, x0, e0, hS, _⟩ := h 0 h0
 have hall : ∀ i (hi : i < l.length), ∃ v : Array Value, (v.size = 12 /\ v.all (·.oneCell') = true) /\ (∀ q, q < 12 -> w.cell? ⟨b, i * 12 + q, none⟩ = v[q]?) /\ BdP w S l[i] (.agg v) := fun i hi => by
  obtain ⟨b', xv, e, _, hx, hc⟩ := h i hi; rw [e0] at e; have := slice_inj e; subst this; refine ⟨bcs l[i].nm l[i].im xv (l[i].at_ : Nat), ⟨by simp [hx.size], ?_⟩, hc, xv, hx, rfl⟩
  obtain ⟨kd, a, nm, ex, gi, inf, im, A1, m1, c1, A2, m2, c2, rfl⟩ := hx.cells
  simp [Value.oneCell']
 refine ⟨b, fun i => if hi : i < l.length then (hall i hi).choose else #[], e0, hS, fun i hi => ?_, fun i q hi hq => ?_, fun i hi => ?_⟩
 . simp only [dif_pos hi]; exact (hall i hi).choose_spec.1
 . simp only [dif_pos hi]; exact (hall i hi).choose_spec.2.1 q hq
 . simp only [dif_pos hi]; exact (hall i hi).choose_spec.2.2
section
variable {rb : Nat} {mv : Value} {s : ByteArray}
theorem groups_stop {n : Nat} {E : FS -> Ex × FS} {st : FS} (h1 : st.is sOpen = false) (h2 : st.is sBrace = false) (m : Nat) (l : List Bd) : groupsN s n E m l st = (l, st) := by
 cases m with
 | zero => rfl
 | succ m => simp only [groupsN]; rw [if_neg (by rw [h1, h2]; simp)]
theorem RwSt.binders {w W w6 : World} {l l' : List Bd} {st st0 : FS} {A : Option Addr} {c : Nat} {ys : List Value} {rv : Value} {vals : Nat -> Array Value} (h0 : Rdy w rb mv s st0) (h : RwSt BdP 86 12 w rb mv s l st A c ys W) {m : Nat} (hm : m = l'.length) (hz : ∀ i, i < l'.length -> (vals i).size = 12 /\ (vals i).all (·.oneCell') = true)
 {n1 : Nat} (hn1 : w.heap.size <= n1) (ho : ∀ g, (Value.slice A l.length c).ownBlock = some g -> g < n1) (hx : ∀ i (hi : i < l'.length), BdP W (fun b => n1 <= b) l'[i] (.agg (vals i)))
 (hown : w6.ownsRow w.heap.size 86 12 rv (l.length + m) (flat ys ++ flat ((List.range m).map fun i => .agg (vals i)))) (hgr : W.grownBy w6 (Value.slice A l.length c).ownBlock) (hpl : rv.ownBlock = (Value.slice A l.length c).ownBlock \/ rv.ownBlock = some W.heap.size) :
 ∃ A6 c6, rv = .slice A6 (l ++ l').length c6 /\ RwSt BdP 86 12 w rb mv s (l ++ l') st A6 c6 (ys ++ (List.range m).map fun i => .agg (vals i)) w6 := by
 subst hm
 obtain ⟨A6, c6, e6, h6⟩ := RwSt.more keep_BdP (l' := l') (news := (List.range l'.length).map fun i => .agg (vals i)) (rv := rv) (w6 := w6) h0 h (by simp) (fun i hi => ⟨vals i, by simp, (hz i (by simpa using hi)).1⟩) (fun i hi => by
  have e : ((List.range l'.length).map fun i => Value.agg (vals i))[i]'(by simpa using hi) = .agg (vals i) := by simp
  rw [e]; exact keep_BdP _ _ _ _ _ _ (fun b _ hb => ⟨⟨by have : n1 <= b := hb; omega, fun eo => by have := ho b eo; have : n1 <= b := hb; omega⟩, rfl⟩) (hx i hi)) hown hgr hpl
 exact ⟨A6, c6, by rw [e6]; simp, h6⟩
theorem bounds_calls (n : Nat) (hn : n <= 900000) (ih : ExprC rb mv s n) (st : FS) (w : World) (h : Rdy w rb mv s st) (hl : st.left s < n) :
 Calls Tryz.prog 28 #[.pointer (some ⟨rb, 0, none⟩)] w fun e w' => RX w rb mv s (groupsN s n (exprN s n) n [] st).2 (BsR w (groupsN s n (exprN s n) n [] st).1) e w' := by
 have H := hide h; have hlt := h.lt; have hE := exprN_fwd (s := s) n; obtain ⟨fin, hfin⟩ : ∃ fin, fin = groupsN s n (exprN s n) n [] st := ⟨_, rfl⟩; rw [<- hfin]; have HFi := hide hfin; have HLe := hide hl
 have HSt : Hid (RwSt BdP 86 12 w rb mv s [] st none 0 [] w) := RwSt.nil h (Touched.refl _ _); obtain ⟨i0, hi, hz0, hz1, hz2⟩ := infoParts Tryz.info86'; have HBf : Hid (∀ y, Bdn y (exprN s n y).2) := exprN_bfw n
 have hbig : n * (n + 1) <= 900000 * 900001 := Nat.mul_le_mul hn (by omega); clear hfin h hl
 go_enter Tryz.func28, Tryz.ntmps28
 go_wp2_with fail
 go_loopg [3] n (fun g v wr => ∃ (l : List Bd) (st' : FS) (A : Option Addr) (c : Nat) (ys : List Value), v = .slice A l.length c /\ Hid (groupsN s n (exprN s n) g l st' = fin) /\ Hid (st'.left s < g) /\ g <= n /\ Hid (l.length + g * (n + 1) <= n * (n + 1)) /\ Hid (RwSt BdP 86 12 w rb mv s l st' A c ys wr))
 case atStart => exact ⟨[], st, none, 0, [], rfl, HFi.out.symm, HLe.out, Nat.le_refl _, hide (by simp), HSt.out⟩
 case round =>
  clear HSt HLe HFi; obtain ⟨l, st', A, c, ys, rfl, HE, HLt, hgn, HLen, HS⟩ := hrel; obtain ⟨g', rfl⟩ : ∃ g', gk = g' + 1 := ⟨gk - 1, by have := HLt.out; omega⟩; have hok := HS.out.rdy.ok; have hco := HS.out.rdy.code
  have KA := hide (atBracket_calls st' wr HS.out.rdy)
  by_cases hp : (st'.is sOpen || st'.is sBrace) = true
  . have hp2 : st'.is sOpen = true \/ st'.is sBrace = true := by simpa using hp
    have hkd : st'.t.kd = 3 := by rcases hp2 with h | h <;> exact (FS.is_kd h).2.1
    have hlef := FS.step_left hok hco (by omega) (by omega)
    have hgd : (groupF s n (exprN s n) st').2.left s <= (st'.step s).left s := by
     have hst1 : (if st'.is sBrace = true then st'.step s else st'.must s sOpen) = st'.step s := by
      split
      . rfl
      . rename_i h1
        unfold FS.must; rw [if_pos (by rcases hp2 with h | h; exact h; exact absurd h h1)]
     unfold groupF
     simp only [hst1]
     exact ((hE.dn ((namesN_fwd (s := s) (n + 1) []).dn (Dn.refl hok.step)).must).must).left
    have HE2 : Hid (groupsN s n (exprN s n) g' (l ++ (groupF s n (exprN s n) st').1) (groupF s n (exprN s n) st').2 = fin) := hide (by have := HE.out; simp only [groupsN] at this; rw [if_pos hp2] at this; exact this)
    have HL2 : Hid ((groupF s n (exprN s n) st').2.left s < g') := hide (by have := HLt.out; omega); have hgl := groupF_len (s := s) (n := n) (E := exprN s n) st'
    have HLe2 : Hid ((l ++ (groupF s n (exprN s n) st').1).length + g' * (n + 1) <= n * (n + 1)) := hide (by have := HLen.out; rw [Nat.succ_mul] at this; rw [List.length_append]; omega)
    have HIb : Hid (∀ W, Rdy W rb mv s st' -> Calls Tryz.prog 42 #[.pointer (some ⟨rb, 0, none⟩)] W fun e w' => RX W rb mv s (groupF s n (exprN s n) st').2 (BsR W (groupF s n (exprN s n) st').1) e w') := fun W hW => inBrackets_calls n hn ih st' W hW (by have := HLt.out; omega) hp2
    have hlb : l.length + (groupF s n (exprN s n) st').1.length <= 900000 * 900001 := by have := HLe2.out; rw [List.length_append] at this; omega
    have HBs : Hid (Bdn (groupF s n (exprN s n) st').2 fin.2) := by rw [<- HE2.out]; exact groupsN_bfw _ _ _ _
    rw [hp] at KA; clear hgd hlef hkd hp hp2 hok hco HE HLt HLen; generalize (groupF s n (exprN s n) st').1 = l2 at *; generalize (groupF s n (exprN s n) st').2 = st2 at *
    go_wp2_with (go_at_call 41; refine KA.out.mono ?_)
    first | (intro e W3 he hb3; subst he) | (rintro e W3 ⟨rfl, hb3⟩)
    have hR3 := HS.out.rdy.later hb3; have HS3 := hide (HS.out.touched keep_BdP hR3 (Touched.of_below hb3) hlt); have KI := hide (HIb.out W3 hR3); clear hR3 hb3 KA HIb HS
    go_wp2_with (go_at_call 42; refine KI.out.mono ?_)
    intro e W4 h4
    rcases h4 with ⟨hc4, ⟨A4, c4, rfl, hB4⟩, hR4, hT4⟩ | ⟨hc4, hth⟩
    rotate_left
    . have HF : Hid (RX w rb mv s fin.2 (BsR w fin.1) e W4) := RX.bad hc4 hth HS3.out.old HBs.out
      obtain ⟨fb, rfl, -⟩ := hth
      go_wp2_with fail
      exact ⟨rfl, HF.out⟩
    obtain ⟨sb, vals, rfl, hsb, hvz, hvc, hvp⟩ := hB4.vals hgl.2; have hz3 := HS3.out.old.size; have hz4 := hT4.size; have hs4 := HS3.out.touched keep_BdP hR4 hT4 hlt; have HO4 := hide hs4.row.own
    have hog : ∀ g, (Value.slice A l.length c).ownBlock = some g -> g < W3.heap.size := fun g e => (HS3.out.row.own.lt g e).2
    obtain ⟨m, hm⟩ : ∃ m, m = l2.length := ⟨_, rfl⟩; have HM := hide hm
    have HVc : Hid (∀ j u, (flat ((List.range m).map fun i => Value.agg (vals i)))[j]? = some u -> W4.cell? ((⟨sb, 0, none⟩ : Addr).add j) = some u) := hide (by rw [hm]; exact src_cells (by decide) (fun i hi => (hvz i hi).1) hvc)
    have HFl : Hid ((flat ((List.range m).map fun i => Value.agg (vals i))).length = m * 12) := hide (by
     rw [flat_len (z := 12) _ (fun i hi => by simp at hi; exact ⟨vals i, by simp, (hvz i (by omega)).1⟩)]
     simp)
    have HOc : Hid (∀ u ∈ flat ((List.range m).map fun i => Value.agg (vals i)), u.oneCell' = true) := hide (one_cells fun i hi => (hvz i (by omega)).2); have HVz := hide hvz; have HVp := hide hvp
    have HS4 := hide hs4; have HOg := hide hog; have hm0 : 0 < m := by omega
    rw [<- hm] at hlb hgl; rw [<- hm]; clear hvz hvc hvp hs4 hog hB4 hR4 hT4 hm KI hsb
    go_wp2_with (at_builtin; refine wpList_append_placed _ rfl _ _ 81 rfl w.heap.size 86 i0 _ 12 120 Tryz.underlying81 hi hz0 hz1 hz2 rfl (by decide) (.slice A l.length c) l.length (flat ys) rfl HO4.out ⟨sb, 0, none⟩ m c4 (flat ((List.range m).map fun i => Value.agg (vals i))) rfl HFl.out HVc.out HOc.out hm0 (by unfold maxLen; omega) (by omega) (by omega) ?_)
    intro v' w6 hown6 hgr6 hpl6; obtain ⟨A6, c6, hv6, hS6⟩ := RwSt.binders (l' := l2) H.out HS4.out HM.out HVz.out hz3 HOg.out HVp.out hown6 hgr6 hpl6; subst hv6; have HS6 := hide hS6
    clear hown6 hgr6 hpl6 hS6 HO4 HVc HFl HOc HVz HVp HS4 HOg HS3
    go_wp2_with fail
    go_roundg g'
    case measure => omega
    case rel => exact ⟨l ++ l2, st2, A6, c6, _, by simp, HE2.out, HL2.out, by omega, HLe2.out, HS6.out⟩
  . have hp' : (st'.is sOpen || st'.is sBrace) = false := by simpa using hp
    have hpo : st'.is sOpen = false /\ st'.is sBrace = false := by simpa using hp'
    have hfi : fin = (l, st') := by rw [<- HE.out, groups_stop hpo.1 hpo.2]
    rw [hp'] at KA; subst hfi; clear HE HLt hp hp' hpo hok
    go_wp2_with (go_at_call 41; refine KA.out.mono ?_)
    first | (intro e W3 he hb3; subst he) | (rintro e W3 ⟨rfl, hb3⟩)
    have HF : Hid (RX w rb mv s st' (BsR w l) (.returned (.slice A l.length c)) W3) := by
     have hrow := HS.out.row.touched (KL.keeps keep_BdP _) (Touched.of_below hb3) hlt; obtain ⟨A', c', e', hL⟩ := GRow.bds (l := l) hrow; injection e' with e1 e2 e3; subst e1
     exact .inl ⟨hco, ⟨A, c, rfl, hL⟩, HS.out.rdy.later hb3, HS.out.old.later hb3⟩
    clear hb3 KA HS
    go_wp2_with fail
    go_ret; exact HF.out
end
theorem bcs_lit (nm : ByteArray) (im : Bool) (kd a : Int) (n : ByteArray) (ex gi inf im' : Bool) (l x : Value) (p : Int) : bcs nm im (xcs kd a n ex gi inf im' l x) p = #[.string nm, .bool im, .int .i64 kd, .int .i64 a, .string n, .bool ex, .bool gi, .bool inf, .bool im', l, x, .int .i64 p] := Array.ext' (bcs_toList _ _ _ _ _ _ _ _ _ _ _ _)
section
variable {rb : Nat} {mv : Value} {s : ByteArray}
theorem funs_stop {n : Nat} {E : FS -> Ex × FS} {st : FS} (h0 : st.kin 1 = false) (h1 : st.is sOpen = false) (h2 : st.is sBrace = false) (m : Nat) (l : List Bd) : funsN s n E m l st = (l, st) := by
 cases m with
 | zero => rfl
 | succ m => simp only [funsN]; rw [if_neg (by rw [h0]; simp), if_neg (by rw [h1, h2]; simp)]
theorem funsN_bfw' {n : Nat} (E : FS -> Ex × FS) (m : Nat) (l : List Bd) : Bfw (funsN s n E m l) := fun st h => by
 rw [funs_stop (h.kin (by decide)) (h.is _) (h.is _)]; exact ⟨h, rfl⟩
theorem holeP {W : World} {S : Nat -> Prop} (nm : ByteArray) (a : Nat) : BdP W S ⟨nm, false, holeX a, a⟩ (.agg #[.string nm, .bool false, .int .i64 3, .int .i64 (a : Nat), .string ⟨#[]⟩, .bool false, .bool false, .bool false, .bool false, .slice none 0 0, .slice none 0 0, .int .i64 (a : Nat)]) :=
 ⟨xcs 3 (a : Nat) ⟨#[]⟩ false false false false (.slice none 0 0) (.slice none 0 0), InX.of (LvsIn.nil _ _ _) (XsIn.nil _ _ _), by rw [bcs_lit]⟩
theorem funs_calls (n : Nat) (hn : n <= 900000) (ih : ExprC rb mv s n) (st : FS) (w : World) (h : Rdy w rb mv s st) (hl : st.left s < n) :
 Calls Tryz.prog 44 #[.pointer (some ⟨rb, 0, none⟩)] w fun e w' => RX w rb mv s (funsN s n (exprN s n) n [] st).2 (BsR w (funsN s n (exprN s n) n [] st).1) e w' := by
 have H := hide h; have hlt := h.lt; have hE := exprN_fwd (s := s) n; obtain ⟨fin, hfin⟩ : ∃ fin, fin = funsN s n (exprN s n) n [] st := ⟨_, rfl⟩; rw [<- hfin]; have HFi := hide hfin; have HLe := hide hl
 have HSt : Hid (RwSt BdP 86 12 w rb mv s [] st none 0 [] w) := RwSt.nil h (Touched.refl _ _); obtain ⟨i0, hi, hz0, hz1, hz2⟩ := infoParts Tryz.info86'
 have hbig : n * (n + 1) <= 900000 * 900001 := Nat.mul_le_mul hn (by omega); clear hfin h hl
 go_enter Tryz.func44, Tryz.ntmps44
 go_wp2_with fail
 go_loopg [3] n (fun g v wr => ∃ (l : List Bd) (st' : FS) (A : Option Addr) (c : Nat) (ys : List Value), v = .slice A l.length c /\ Hid (funsN s n (exprN s n) g l st' = fin) /\ Hid (st'.left s < g) /\ g <= n /\ Hid (l.length + g * (n + 1) <= n * (n + 1)) /\ Hid (RwSt BdP 86 12 w rb mv s l st' A c ys wr))
 case atStart => exact ⟨[], st, none, 0, [], rfl, HFi.out.symm, HLe.out, Nat.le_refl _, hide (by simp), HSt.out⟩
 case round =>
  clear HSt HLe HFi; obtain ⟨l, st', A, c, ys, rfl, HE, HLt, hgn, HLen, HS⟩ := hrel; obtain ⟨g', rfl⟩ : ∃ g', gk = g' + 1 := ⟨gk - 1, by have := HLt.out; omega⟩; have hok := HS.out.rdy.ok; have hco := HS.out.rdy.code
  obtain ⟨k, t, q1, q2, q3, hk, hk3, _⟩ := HS.out.rdy.kind; have hk1 := hk 1 (by omega); have hke := kin_eq (k := 1) hco; have KA := hide (atBracket_calls st' wr HS.out.rdy)
  by_cases hp1 : st'.kin 1 = true
  . have hkd : st'.t.kd = 1 := by rw [hke] at hp1; simpa using hp1
    have hkq : ((k : Int) == (1 : Int)) = true := by rw [show ((1 : Int)) = ((1 : Nat) : Int) from rfl, hk1, hkd]; rfl
    have hnb : (st'.is sOpen || st'.is sBrace) = false := by
     have key : ∀ q, st'.is q = false := fun q => by unfold FS.is; rw [show (st'.t.kd == 3) = false from by rw [hkd]; rfl]; simp
     rw [key, key]; rfl
    have hlef := FS.step_left hok hco (by omega) (by omega)
    have HE2 : Hid (funsN s n (exprN s n) g' (l ++ [⟨st'.t.t, false, holeX st'.t.at_, st'.t.at_⟩]) (st'.step s) = fin) := hide (by
     have := HE.out
     simp only [funsN, name_kin hp1] at this
     rw [if_pos hp1] at this; exact this)
    have HL2 : Hid ((st'.step s).left s < g') := hide (by have := HLt.out; omega)
    have HLe2 : Hid ((l ++ [(⟨st'.t.t, false, holeX st'.t.at_, st'.t.at_⟩ : Bd)]).length + g' * (n + 1) <= n * (n + 1)) := hide (by have := HLen.out; rw [Nat.succ_mul] at this; rw [List.length_append]; simp; omega)
    have hlb : l.length + 1 <= 900000 * 900001 := by have := HLe2.out; rw [List.length_append] at this; simp at this; omega
    have HTk : Hid (∀ W, Rdy W rb mv s st' -> Calls Tryz.prog 40 #[.pointer (some ⟨rb, 0, none⟩)] W fun e w' => e = .returned (.agg #[.int .i64 1, .int .i64 (st'.t.at_ : Nat), .string st'.t.t]) /\ Rdy w' rb mv s (st'.step s) /\ Touched W rb w') := fun W hW => by
     have := takeQ hW (by omega); rw [hkd] at this; exact this
    rw [hnb] at KA; clear hlef hkd hok hco HE HLt HLen hk hk3 hk1 hke hp1 hnb; generalize st'.step s = st2 at *; generalize st'.t.t = nm2 at *; generalize st'.t.at_ = ta2 at *
    go_wp2_with (go_at_call 41; refine KA.out.mono ?_)
    first | (intro e W3 he hb3; subst he) | (rintro e W3 ⟨rfl, hb3⟩)
    have hR3 := HS.out.rdy.later hb3; have HS3 := hide (HS.out.touched keep_BdP hR3 (Touched.of_below hb3) hlt); have KT := hide (HTk.out W3 hR3); clear hR3 hb3 KA HTk HS q1 q2 q3
    go_wp2_with (go_at_call 40; refine KT.out.mono ?_)
    rintro e W4 ⟨rfl, hR4, hT4⟩; have hz3 := HS3.out.old.size; have hz4 := hT4.size
    have hT5 := (hT4.trans (Touched.alloc W4 rb (.cells #[.int .i64 1, .int .i64 (ta2 : Nat), .string nm2] 46))).trans (Touched.alloc (W4.alloc (.cells #[.int .i64 1, .int .i64 (ta2 : Nat), .string nm2] 46)) rb (.cells (xcs 3 (ta2 : Nat) ⟨#[]⟩ false false false false (.slice none 0 0) (.slice none 0 0)) 59))
    have hR5 := (hR4.alloc (.cells #[.int .i64 1, .int .i64 (ta2 : Nat), .string nm2] 46)).alloc (.cells (xcs 3 (ta2 : Nat) ⟨#[]⟩ false false false false (.slice none 0 0) (.slice none 0 0)) 59)
    have hs5 : ((W4.alloc (.cells #[.int .i64 1, .int .i64 (ta2 : Nat), .string nm2] 46)).alloc (.cells (xcs 3 (ta2 : Nat) ⟨#[]⟩ false false false false (.slice none 0 0) (.slice none 0 0)) 59)).heap.size = W4.heap.size + 2 := by
     show ((W4.heap.push _).push _).size = _; rw [Array.size_push, Array.size_push]
    have HCn := hide (cells_new ((W4.alloc (.cells #[.int .i64 1, .int .i64 (ta2 : Nat), .string nm2] 46)).alloc (.cells (xcs 3 (ta2 : Nat) ⟨#[]⟩ false false false false (.slice none 0 0) (.slice none 0 0)) 59)) [.string nm2, .bool false, .int .i64 3, .int .i64 (ta2 : Nat), .string ⟨#[]⟩, .bool false, .bool false, .bool false, .bool false, .slice none 0 0, .slice none 0 0, .int .i64 (ta2 : Nat)] 86)
    rw [hs5] at HCn
    have HO4 := hide ((HS3.out.row.touched (KL.keeps keep_BdP _) hT5 hlt).own.alloc (.cells #[.string nm2, .bool false, .int .i64 3, .int .i64 (ta2 : Nat), .string ⟨#[]⟩, .bool false, .bool false, .bool false, .bool false, .slice none 0 0, .slice none 0 0, .int .i64 (ta2 : Nat)] 86))
    have HR5 := hide hR5; have HT5 := hide hT5; clear hR4 hT4 hT5 hR5 hs5 KT
    go_wp2_with (at_builtin; refine wpList_append_placed _ rfl _ _ 81 rfl w.heap.size 86 i0 _ 12 120 Tryz.underlying81 hi hz0 hz1 hz2 rfl (by decide) (.slice A l.length c) l.length (flat ys) rfl HO4.out ⟨W4.heap.size + 2, 0, none⟩ 1 1 [.string nm2, .bool false, .int .i64 3, .int .i64 (ta2 : Nat), .string ⟨#[]⟩, .bool false, .bool false, .bool false, .bool false, .slice none 0 0, .slice none 0 0, .int .i64 (ta2 : Nat)] rfl rfl HCn.out (by intro u hu; simp at hu; rcases hu with rfl | rfl | rfl | rfl | rfl | rfl | rfl | rfl <;> rfl) (by decide) (by unfold maxLen; omega) (by omega) (by simp; omega) ?_)
    intro v' w6 hown6 hgr6 hpl6; obtain ⟨A6, c6, hv6, hS6⟩ := RwSt.snoc keep_BdP (x := (⟨nm2, false, holeX ta2, ta2⟩ : Bd)) H.out HS3.out HR5.out HT5.out (holeP nm2 ta2) rfl hown6 hgr6 (by simpa using hpl6); subst hv6
    have HS6 := hide hS6; clear hown6 hgr6 hpl6 hS6 HO4 HR5 HT5 HS3 HCn
    go_wp2_with fail
    go_roundg g'
    case measure => omega
    case rel => exact ⟨l ++ [(⟨nm2, false, holeX ta2, ta2⟩ : Bd)], st2, A6, c6, _, by simp, HE2.out, HL2.out, by omega, HLe2.out, HS6.out⟩
  . have hpk : st'.kin 1 = false := by simpa using hp1
    have hkq : ((k : Int) == (1 : Int)) = false := by rw [show ((1 : Int)) = ((1 : Nat) : Int) from rfl, hk1, <- hke, hpk]
    clear hk hk3 hk1 hke hp1
    by_cases hp : (st'.is sOpen || st'.is sBrace) = true
    . have hp2 : st'.is sOpen = true \/ st'.is sBrace = true := by simpa using hp
      have hkd : st'.t.kd = 3 := by rcases hp2 with h | h <;> exact (FS.is_kd h).2.1
      have hlef := FS.step_left hok hco (by omega) (by omega)
      have hgd : (groupF s n (exprN s n) st').2.left s <= (st'.step s).left s := by
       have hst1 : (if st'.is sBrace = true then st'.step s else st'.must s sOpen) = st'.step s := by
        split
        . rfl
        . rename_i h1
          unfold FS.must; rw [if_pos (by rcases hp2 with h | h; exact h; exact absurd h h1)]
       unfold groupF
       simp only [hst1]
       exact ((hE.dn ((namesN_fwd (s := s) (n + 1) []).dn (Dn.refl hok.step)).must).must).left
      have HE2 : Hid (funsN s n (exprN s n) g' (l ++ (groupF s n (exprN s n) st').1) (groupF s n (exprN s n) st').2 = fin) := hide (by have := HE.out; simp only [funsN] at this; rw [if_neg (by rw [hpk]; simp), if_pos hp2] at this; exact this)
      have HL2 : Hid ((groupF s n (exprN s n) st').2.left s < g') := hide (by have := HLt.out; omega); have hgl := groupF_len (s := s) (n := n) (E := exprN s n) st'
      have HLe2 : Hid ((l ++ (groupF s n (exprN s n) st').1).length + g' * (n + 1) <= n * (n + 1)) := hide (by have := HLen.out; rw [Nat.succ_mul] at this; rw [List.length_append]; omega)
      have HIb : Hid (∀ W, Rdy W rb mv s st' -> Calls Tryz.prog 42 #[.pointer (some ⟨rb, 0, none⟩)] W fun e w' => RX W rb mv s (groupF s n (exprN s n) st').2 (BsR W (groupF s n (exprN s n) st').1) e w') := fun W hW => inBrackets_calls n hn ih st' W hW (by have := HLt.out; omega) hp2
      have hlb : l.length + (groupF s n (exprN s n) st').1.length <= 900000 * 900001 := by have := HLe2.out; rw [List.length_append] at this; omega
      have HBs : Hid (Bdn (groupF s n (exprN s n) st').2 fin.2) := by rw [<- HE2.out]; exact funsN_bfw' _ _ _ _
      rw [hp] at KA; have hbr := hp; clear hgd hlef hkd hp hp2 hok hco HE HLt HLen; generalize (groupF s n (exprN s n) st').1 = l2 at *; generalize (groupF s n (exprN s n) st').2 = st2 at *
      go_wp2_with (go_at_call 41; refine KA.out.mono ?_)
      first | (intro e W3 he hb3; subst he) | (rintro e W3 ⟨rfl, hb3⟩)
      have HS2 := hide (HS.out.touched keep_BdP (HS.out.rdy.later hb3) (Touched.of_below hb3) hlt); have KA2 := hide (atBracket_calls st' W3 (HS.out.rdy.later hb3)); rw [hbr] at KA2; clear hb3 KA HS
      go_wp2_with (go_at_call 41; refine KA2.out.mono ?_)
      first | (intro e W3' he hb3; subst he) | (rintro e W3' ⟨rfl, hb3⟩)
      have hR3 := HS2.out.rdy.later hb3; have HS3 := hide (HS2.out.touched keep_BdP hR3 (Touched.of_below hb3) hlt); have KI := hide (HIb.out W3' hR3); clear hR3 hb3 KA2 HIb HS2
      go_wp2_with (go_at_call 42; refine KI.out.mono ?_)
      intro e W4 h4
      rcases h4 with ⟨hc4, ⟨A4, c4, rfl, hB4⟩, hR4, hT4⟩ | ⟨hc4, hth⟩
      rotate_left
      . have HF : Hid (RX w rb mv s fin.2 (BsR w fin.1) e W4) := RX.bad hc4 hth HS3.out.old HBs.out
        obtain ⟨fb, rfl, -⟩ := hth
        go_wp2_with fail
        exact ⟨rfl, HF.out⟩
      obtain ⟨sb, vals, rfl, hsb, hvz, hvc, hvp⟩ := hB4.vals hgl.2; have hz3 := HS3.out.old.size; have hz4 := hT4.size; have hs4 := HS3.out.touched keep_BdP hR4 hT4 hlt; have HO4 := hide hs4.row.own
      have hog : ∀ g, (Value.slice A l.length c).ownBlock = some g -> g < W3'.heap.size := fun g e => (HS3.out.row.own.lt g e).2
      obtain ⟨m, hm⟩ : ∃ m, m = l2.length := ⟨_, rfl⟩; have HM := hide hm
      have HVc : Hid (∀ j u, (flat ((List.range m).map fun i => Value.agg (vals i)))[j]? = some u -> W4.cell? ((⟨sb, 0, none⟩ : Addr).add j) = some u) := hide (by rw [hm]; exact src_cells (by decide) (fun i hi => (hvz i hi).1) hvc)
      have HFl : Hid ((flat ((List.range m).map fun i => Value.agg (vals i))).length = m * 12) := hide (by
       rw [flat_len (z := 12) _ (fun i hi => by simp at hi; exact ⟨vals i, by simp, (hvz i (by omega)).1⟩)]
       simp)
      have HOc : Hid (∀ u ∈ flat ((List.range m).map fun i => Value.agg (vals i)), u.oneCell' = true) := hide (one_cells fun i hi => (hvz i (by omega)).2); have HVz := hide hvz; have HVp := hide hvp
      have HS4 := hide hs4; have HOg := hide hog; have hm0 : 0 < m := by omega
      rw [<- hm] at hlb hgl; rw [<- hm]; clear hvz hvc hvp hs4 hog hB4 hR4 hT4 hm KI hsb
      go_wp2_with (at_builtin; refine wpList_append_placed _ rfl _ _ 81 rfl w.heap.size 86 i0 _ 12 120 Tryz.underlying81 hi hz0 hz1 hz2 rfl (by decide) (.slice A l.length c) l.length (flat ys) rfl HO4.out ⟨sb, 0, none⟩ m c4 (flat ((List.range m).map fun i => Value.agg (vals i))) rfl HFl.out HVc.out HOc.out hm0 (by unfold maxLen; omega) (by omega) (by omega) ?_)
      intro v' w6 hown6 hgr6 hpl6; obtain ⟨A6, c6, hv6, hS6⟩ := RwSt.binders (l' := l2) H.out HS4.out HM.out HVz.out hz3 HOg.out HVp.out hown6 hgr6 hpl6; subst hv6; have HS6 := hide hS6
      clear hown6 hgr6 hpl6 hS6 HO4 HVc HFl HOc HVz HVp HS4 HOg HS3
      go_wp2_with fail
      go_roundg g'
      case measure => omega
      case rel => exact ⟨l ++ l2, st2, A6, c6, _, by simp, HE2.out, HL2.out, by omega, HLe2.out, HS6.out⟩
    . have hp' : (st'.is sOpen || st'.is sBrace) = false := by simpa using hp
      have hpo : st'.is sOpen = false /\ st'.is sBrace = false := by simpa using hp'
      have hfi : fin = (l, st') := by rw [<- HE.out, funs_stop hpk hpo.1 hpo.2]
      rw [hp'] at KA; subst hfi; clear HE HLt hp hp' hpo hok
      go_wp2_with (go_at_call 41; refine KA.out.mono ?_)
      first | (intro e W3 he hb3; subst he) | (rintro e W3 ⟨rfl, hb3⟩)
      have HF : Hid (RX w rb mv s st' (BsR w l) (.returned (.slice A l.length c)) W3) := by
       have hrow := HS.out.row.touched (KL.keeps keep_BdP _) (Touched.of_below hb3) hlt; obtain ⟨A', c', e', hL⟩ := GRow.bds (l := l) hrow; injection e' with e1 e2 e3; subst e1
       exact .inl ⟨hco, ⟨A, c, rfl, hL⟩, HS.out.rdy.later hb3, HS.out.old.later hb3⟩
      clear hb3 KA HS
      go_wp2_with fail
      go_ret; exact HF.out
end
end Go.Proofs.YtockffblncdikaaGreatDoor
