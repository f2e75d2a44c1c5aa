/- The contract of inBrackets: the binders of one pair of brackets. -/
import Derived.Test.YtockffblncdikaaGreatDoorRw
import Derived.Deep.RegionHeld3
namespace Go.Proofs.YtockffblncdikaaGreatDoor
open Go.RowKit
set_option maxRecDepth 100000
set_option maxHeartbeats 16000000
section
variable {rb : Nat} {mv : Value} {s : ByteArray}
def BsR (w : World) (l : List Bd) (e : Ending) (w' : World) : Prop := ∃ (A : Option Addr) (c : Nat), e = .returned (.slice A l.length c) /\ BdsIn w' (fun b => w.heap.size <= b) A l
structure IbSt (w : World) (n1 : Nat) (rb : Nat) (mv : Value) (s : ByteArray) (ns : List (ByteArray × Nat)) (im : Bool) (x : Ex) (tb : Nat) (xv : Array Value) (An : Option Addr) (j : Nat) (st : FS) (A : Option Addr) (c : Nat) (ys : List Value) (W : World) : Prop where
 row : RwSt BdP 86 12 w rb mv s ((ns.take j).map fun y => ⟨y.1, im, x, y.2⟩) st A c ys W
 own : ∀ g, (Value.slice A j c).ownBlock = some g -> n1 <= g
 typ : W.heap[tb]? = some (.cells xv 59 (0, 0))
 inx : InX W (fun b => w.heap.size <= b /\ b < n1) x xv
 nms : NsIn W (fun b => w.heap.size <= b /\ b < n1) An ns
theorem bcs_toList (nm : ByteArray) (im : Bool) (kd a : Int) (n : ByteArray) (ex gi inf im' : Bool) (l x : Value) (p : Int) : (bcs nm im (xcs kd a n ex gi inf im' l x) p).toList = [.string nm, .bool im, .int .i64 kd, .int .i64 a, .string n, .bool ex, .bool gi, .bool inf, .bool im', l, x, .int .i64 p] := by simp
theorem IbSt.len {w : World} {n1 : Nat} {ns : List (ByteArray × Nat)} {jm : Bool} {x : Ex} {tb : Nat} {xv : Array Value} {An : Option Addr} {j : Nat} {st : FS} {A : Option Addr} {c : Nat} {ys : List Value} {W : World} (_ : IbSt w n1 rb mv s ns jm x tb xv An j st A c ys W) (hj : j <= ns.length) : ((ns.take j).map fun y => (⟨y.1, jm, x, y.2⟩ : Bd)).length = j := by simp; omega
theorem IbSt.owned {w : World} {n1 : Nat} {ns : List (ByteArray × Nat)} {jm : Bool} {x : Ex} {tb : Nat} {xv : Array Value} {An : Option Addr} {j : Nat} {st : FS} {A : Option Addr} {c : Nat} {ys : List Value} {W W' : World} (h : IbSt w n1 rb mv s ns jm x tb xv An j st A c ys W) (hj : j <= ns.length) (hT : Touched W rb W') (hlt : rb < w.heap.size) : W'.ownsRow w.heap.size 86 12 (.slice A j c) j (flat ys) := by
 have := (h.row.row.touched (KL.keeps keep_BdP _) hT hlt).own; rw [h.len hj] at this; exact this
theorem IbSt.next {w : World} {n1 : Nat} {ns : List (ByteArray × Nat)} {jm : Bool} {x : Ex} {tb : Nat} {xv : Array Value} {An : Option Addr} {j : Nat} {st st0 : FS} {A : Option Addr} {c : Nat} {ys : List Value} {wr W w6 : World} {xv' : Array Value} {rv : Value} (h : IbSt w n1 rb mv s ns jm x tb xv An j st A c ys wr) (h0 : Rdy w rb mv s st0) (hj : j < ns.length) (hn1 : n1 <= wr.heap.size) (hwn : w.heap.size <= n1) (htb : tb < n1) (htw : w.heap.size <= tb)
 (hR : Rdy W rb mv s st) (hT : Touched wr rb W) (hx : InX W (fun b => (w.heap.size <= b /\ b < n1) \/ wr.heap.size <= b) x xv') (hown : w6.ownsRow w.heap.size 86 12 rv (j + 1) (flat ys ++ (bcs ns[j].1 jm xv' (ns[j].2 : Nat)).toList)) (hgr : W.grownBy w6 (Value.slice A j c).ownBlock) (hpl : rv.ownBlock = (Value.slice A j c).ownBlock \/ rv.ownBlock = some W.heap.size) :
 ∃ A6 c6, rv = .slice A6 (j + 1) c6 /\ IbSt w n1 rb mv s ns jm x tb xv An (j + 1) st A6 c6 (ys ++ [.agg (bcs ns[j].1 jm xv' (ns[j].2 : Nat))]) w6 := by
 have hlt := h0.lt; have hlen := h.len (by omega); have hz := hT.size; have hro := h.row.touched keep_BdP hR hT hlt
 have hgo : ∀ g, (Value.slice A j c).ownBlock = some g -> g < wr.heap.size := fun g e => by
  have := h.owned (W' := wr) (by omega) (Touched.refl _ _) hlt; exact (this.lt g e).2
 have hownb : (Value.slice A ((ns.take j).map fun y => (⟨y.1, jm, x, y.2⟩ : Bd)).length c).ownBlock = (Value.slice A j c).ownBlock := by rw [hlen]
 obtain ⟨A6, c6, e6, h6⟩ := RwSt.more keep_BdP (l' := [⟨ns[j].1, jm, x, ns[j].2⟩]) (news := [.agg (bcs ns[j].1 jm xv' (ns[j].2 : Nat))]) (rv := rv) (w6 := w6) h0 hro rfl (fun i hi => by
  have : i = 0 := by simp at hi; omega
  subst this; exact ⟨_, rfl, by simp [hx.size]⟩) (fun i hi => by
  have : i = 0 := by simp at hi; omega
  subst this; refine ⟨xv', hx.keep fun b hb hs => ⟨⟨?_, ?_⟩, rfl⟩, rfl⟩
  . rcases hs with hs | hs <;> omega
  . rw [hownb]
    intro e; have h1 := h.own b e; have h2 := hgo b e
    rcases hs with hs | hs <;> omega) (by
    rw [hlen]
    simpa [flat] using hown) (by rw [hownb]; exact hgr) (by rw [hownb]; exact hpl)
 rw [hlen] at e6; have e6' : rv = .slice A6 (j + 1) c6 := e6
 have el : ((ns.take j).map fun y => (⟨y.1, jm, x, y.2⟩ : Bd)) ++ [⟨ns[j].1, jm, x, ns[j].2⟩] = (ns.take (j + 1)).map fun y => (⟨y.1, jm, x, y.2⟩ : Bd) := by
  rw [List.take_succ_eq_append_getElem hj, List.map_append]
  rfl
 rw [el] at h6
 have hk : ∀ b, w.heap.size <= b -> b < n1 -> w6.heap[b]? = wr.heap[b]? := fun b h1 h2 => by
  rw [hgr.block b (by omega) (fun e => by have := h.own b e.symm; omega)]; exact hT.at (by omega) (by omega)
 refine ⟨A6, c6, e6, h6, fun g e => ?_, (hk tb htw htb).trans h.typ, h.inx.keep fun b hb hs => ⟨hs, hk b hs.1 hs.2⟩, fun i hi => ?_⟩
 . rw [<- e6'] at e
   rcases hpl with hp | hp
   . exact h.own g (by rw [<- hp]; exact e)
   . rw [hp] at e
     have e' : W.heap.size = g := by injection e
     omega
 . obtain ⟨b, e, hs, i0, i1, i2⟩ := h.nms i hi
   have hkb := hk b hs.1 hs.2; exact ⟨b, e, hs, (World.cell?_of_block hkb).trans i0, (World.cell?_of_block hkb).trans i1, (World.cell?_of_block hkb).trans i2⟩
def ld64 (v : Value) : Sem Value := Instr.loadAt 84 v
theorem ld64_eq (v : Value) : Instr.loadAt 84 v = ld64 v := rfl
theorem ld64_run {W : World} {b o : Nat} {v : Array Value} (h : W.rangeAt b o v.toList) (hz : v.size = 11) : (ld64 (.pointer (some ⟨b, o, none⟩))).run Tryz.prog W = .ok (.agg v) W := by
 exact run_loadAt_mid (P := Tryz.prog) W b o 84 v.toList _ h Tryz.underlying84 rfl (by rw [Tryz.size64]; simp [hz])
attribute [local go_sem ↓] ld43_eq st43_eq ld64_eq
theorem inBrackets_calls (n : Nat) (hn : n <= 900000) (ih : ExprC rb mv s n) (st : FS) (w : World) (h : Rdy w rb mv s st) (hl : st.left s <= n) (hb : st.is sOpen = true \/ st.is sBrace = true) :
 Calls Tryz.prog 42 #[.pointer (some ⟨rb, 0, none⟩)] w fun e w' => RX w rb mv s (groupF s n (exprN s n) st).2 (BsR w (groupF s n (exprN s n) st).1) e w' := by
 have H := hide h; have hlt := h.lt; have hkd : st.t.kd = 3 := by rcases hb with hb | hb <;> exact (FS.is_kd hb).2.1
 have hlef := FS.step_left h.ok h.code (by omega) (by omega); have hE := exprN_fwd (s := s) n; obtain ⟨fin, hfin⟩ : ∃ fin, fin = groupF s n (exprN s n) st := ⟨_, rfl⟩
 have hst1 : (if st.is sBrace = true then st.step s else st.must s sOpen) = st.step s := by
  split
  . rfl
  . rename_i h1
    unfold FS.must; rw [if_pos (by rcases hb with hb | hb; exact hb; exact absurd hb h1)]
 have HFi : Hid (fin = ((namesN s (n + 1) [] (st.step s)).1.map fun y => ⟨y.1, st.is sBrace, (exprN s n ((namesN s (n + 1) [] (st.step s)).2.must s sColon)).1, y.2⟩, (exprN s n ((namesN s (n + 1) [] (st.step s)).2.must s sColon)).2.must s (if st.is sBrace = true then sUnbrace else sShut))) := hide (by
  rw [hfin]; unfold groupF
  simp only [hst1])
 rw [<- hfin]; obtain ⟨k, t, q1, q2, q3, KI⟩ := h.isq sBrace; have HKI := hide KI
 have HTk : Hid (∀ W, Rdy W rb mv s st -> Calls Tryz.prog 40 #[.pointer (some ⟨rb, 0, none⟩)] W fun e w' => e = .returned (.agg #[.int .i64 3, .int .i64 (st.t.at_ : Nat), .string st.t.t]) /\ Rdy w' rb mv s (st.step s) /\ Touched W rb w') := fun W hW => by
  have := takeQ hW (by omega); rw [hkd] at this; exact this
 have d0 : Dn s (st.step s) (st.step s) := Dn.refl h.ok.step; have d1 := (namesN_fwd (s := s) (n + 1) []).dn d0; have d2 := d1.must (q := sColon)
 have HNm : Hid (∀ W, Rdy W rb mv s (st.step s) -> Calls Tryz.prog 69 #[.pointer (some ⟨rb, 0, none⟩)] W fun e w' => RQ W rb mv s (namesN s (n + 1) [] (st.step s)).2 (NsR W (namesN s (n + 1) [] (st.step s)).1) e w') := fun W hW => names_calls n (by omega) _ W hW (by omega)
 have HX : Hid (∀ W, Rdy W rb mv s ((namesN s (n + 1) [] (st.step s)).2.must s sColon) -> Calls Tryz.prog 30 #[.pointer (some ⟨rb, 0, none⟩)] W fun e w' => RX W rb mv s (exprN s n ((namesN s (n + 1) [] (st.step s)).2.must s sColon)).2 (ExR W (exprN s n ((namesN s (n + 1) [] (st.step s)).2.must s sColon)).1) e w') := fun W hW => ih _ W hW (by have := d2.left; omega)
 have hfit := exprN_fit s n ((namesN s (n + 1) [] (st.step s)).2.must s sColon); have KC := hide (copied_calls (rb := rb) (mv := mv) (s := s) (n + 1) (by omega) hfit); have B6 : ∀ y, Bdn y (exprN s n y).2 := exprN_bfw n
 have HB2 : Hid (Bdn (exprN s n ((namesN s (n + 1) [] (st.step s)).2.must s sColon)).2 fin.2) := by rw [HFi.out]; exact bdn_must (s := s) _ _
 have HB1 : Hid (Bdn ((namesN s (n + 1) [] (st.step s)).2.must s sColon) fin.2) := by rw [HFi.out]; exact (B6 _).trans (bdn_must (s := s) _ _)
 have HB0 : Hid (Bdn (namesN s (n + 1) [] (st.step s)).2 fin.2) := by rw [HFi.out]; exact (bdn_must (s := s) _ _).trans ((B6 _).trans (bdn_must (s := s) _ _))
 have hnl : (namesN s (n + 1) [] (st.step s)).1.length <= n + 1 := by
  have key : ∀ (m : Nat) (l : List (ByteArray × Nat)) (st : FS), (namesN s m l st).1.length <= l.length + m := by
   intro m
   induction m with
   | zero => intro l st; simp [namesN]
   | succ m ih =>
     intro l st
     simp only [namesN]
     split
     . have := ih (l ++ [((st.name s).1, st.t.at_)]) (st.name s).2
       simp at this
       omega
     . simp
  have := key (n + 1) [] (st.step s)
  simpa using this
 have HM5 : Hid (∀ W, Rdy W rb mv s (exprN s n ((namesN s (n + 1) [] (st.step s)).2.must s sColon)).2 -> Calls Tryz.prog 29 #[.pointer (some ⟨rb, 0, none⟩), .string (if st.is sBrace = true then sUnbrace else sShut)] W fun e w' => RQ W rb mv s ((exprN s n ((namesN s (n + 1) [] (st.step s)).2.must s sColon)).2.must s (if st.is sBrace = true then sUnbrace else sShut)) (fun e _ => e = .returned (.tuple #[])) e w') := fun W hW => expectQ hW _
 have HM1 : Hid (∀ W, Rdy W rb mv s (namesN s (n + 1) [] (st.step s)).2 -> Calls Tryz.prog 29 #[.pointer (some ⟨rb, 0, none⟩), .string sColon] W fun e w' => RQ W rb mv s ((namesN s (n + 1) [] (st.step s)).2.must s sColon) (fun e _ => e = .returned (.tuple #[])) e w') := fun W hW => expectQ hW sColon
 clear d0 d1 d2 hfit B6 hE KI h hfin hst1 ih hb hl; generalize (exprN s n ((namesN s (n + 1) [] (st.step s)).2.must s sColon)).1 = x at *
 generalize (exprN s n ((namesN s (n + 1) [] (st.step s)).2.must s sColon)).2.must s (if st.is sBrace = true then sUnbrace else sShut) = s5 at *
 generalize (exprN s n ((namesN s (n + 1) [] (st.step s)).2.must s sColon)).2 = s4 at *; generalize (namesN s (n + 1) [] (st.step s)).2.must s sColon = s3 at *; generalize (namesN s (n + 1) [] (st.step s)).1 = ns at *
 generalize (namesN s (n + 1) [] (st.step s)).2 = s2 at *; generalize st.step s = s1 at *; generalize st.t.at_ = ta at *; generalize st.t.t = tt at *; obtain ⟨im, him⟩ : ∃ im, im = st.is sBrace := ⟨_, rfl⟩
 rw [<- him] at HKI HFi HM5; clear him hlef hkd
 go_enter Tryz.func42, Tryz.ntmps42
 go_wp2_with (go_at_call 68; refine HKI.out.mono ?_)
 first | (intro e W1 he hb1; subst he) | (rintro e W1 ⟨rfl, hb1⟩)
 have KT := hide (HTk.out W1 (H.out.later hb1)); have HT1 := hide (Touched.of_below (m := rb) hb1); clear hb1 HKI HTk q1 q2 q3; obtain ⟨i0, hi, hz0, hz1, hz2⟩ := infoParts Tryz.info86'
 cases im
 case false =>
  simp only [if_false, Bool.false_eq_true] at HM5
  go_wp2_with (go_at_call 40; refine KT.out.mono ?_)
  rintro e W2 ⟨rfl, hR2, hT2⟩; have KN := hide (HNm.out W2 hR2); have HT2 := hide (HT1.out.trans hT2); clear hR2 hT2 KT HNm HT1
  go_wp2_with (go_at_call 69; refine KN.out.mono ?_)
  intro e W3 h3
  rcases h3 with ⟨hc3, ⟨An, cn, rfl, hN3⟩, hR3, hT3⟩ | ⟨hc3, hth⟩
  rotate_left
  . have HF : Hid (RX w rb mv s fin.2 (BsR w fin.1) e W3) := RX.bad (lost_of hc3) (by rw [fp_of hc3]; exact hth) HT2.out HB0.out
    obtain ⟨fb, rfl, -⟩ := hth
    go_wp2_with fail
    exact ⟨rfl, HF.out⟩
  have KM := hide (HM1.out W3 hR3); have HT3 := hide (HT2.out.trans hT3)
  have HN3 : Hid (NsIn W3 (fun b => w.heap.size <= b) An ns) := fun i hi => by
   obtain ⟨b, e, hs, h0, h1, h2⟩ := hN3 i hi; have hs' : W2.heap.size <= b := hs; have := HT2.out.size; exact ⟨b, e, by omega, h0, h1, h2⟩
  clear hR3 hT3 KN HM1 HB0 hN3 HT2
  go_wp2_with (go_at_call 29; refine KM.out.mono ?_)
  intro e W4 h4
  rcases h4 with ⟨hc4, rfl, hR4, hT4⟩ | ⟨hc4, hth⟩
  rotate_left
  . have HF : Hid (RX w rb mv s fin.2 (BsR w fin.1) e W4) := RX.bad (lost_of hc4) (by rw [fp_of hc4]; exact hth) HT3.out HB1.out
    obtain ⟨fb, rfl, -⟩ := hth
    go_wp2_with fail
    exact ⟨rfl, HF.out⟩
  have KX := hide (HX.out W4 hR4); have HT4 := hide (HT3.out.trans hT4); have HN4 := hide (HN3.out.touched hT4 hlt); clear hR4 hT4 KM HX HB1 HT3 HN3
  go_wp2_with (go_at_call 30; refine KX.out.mono ?_)
  intro e W5 h5
  rcases h5 with ⟨hc5, ⟨tb, rfl, hl5, hx5⟩, hR5, hT5⟩ | ⟨hc5, hth⟩
  rotate_left
  . have HF : Hid (RX w rb mv s fin.2 (BsR w fin.1) e W5) := RX.bad hc5 hth HT4.out HB2.out
    obtain ⟨fb, rfl, -⟩ := hth
    go_wp2_with fail
    exact ⟨rfl, HF.out⟩
  have hz4 := HT4.out.size; have KM := hide (HM5.out W5 hR5); have HT5 := hide (HT4.out.trans hT5); have HN5 := hide (HN4.out.touched hT5 hlt); have HX5 := hide (hx5.wide hz4); have hl5' : w.heap.size <= tb := by omega
  clear hR5 hT5 KX HM5 HB2 HT4 HN4 hx5
  go_wp2_with (go_at_call 29; refine KM.out.mono ?_)
  intro e W6 h6
  rcases h6 with ⟨hc6, rfl, hR6, hT6⟩ | ⟨hc6, hth⟩
  rotate_left
  . have HF : Hid (RX w rb mv s fin.2 (BsR w fin.1) e W6) := RX.bad (lost_of hc6) (by rw [fp_of hc6]; exact hth) HT5.out (by rw [HFi.out]; exact Bdn.refl _)
    obtain ⟨fb, rfl, -⟩ := hth
    go_wp2_with fail
    exact ⟨rfl, HF.out⟩
  have HT6 := hide (HT5.out.trans hT6); have HN6 := hide (HN5.out.touched hT6 hlt); have HX6 := hide (HX5.out.rest hT6 hlt hl5'); have HR6 := hide hR6; clear hR6 hT6 KM HT5 HN5 HX5; obtain ⟨xv, hxb, hxi⟩ := HX6.out
  obtain ⟨kd, a, nm, ex, gi, inf, im, A1, m1, c1, A2, m2, c2, rfl⟩ := hxi.cells; obtain ⟨nl, hnl'⟩ : ∃ nl, nl = ns.length := ⟨_, rfl⟩; have HNl := hide hnl'; rw [<- hnl'] at hnl; rw [<- hnl']; have hz6 := HT6.out.size
  have htl : tb < W6.heap.size := (Array.getElem?_eq_some_iff.1 hxb).1
  have HSt : Hid (IbSt w W6.heap.size rb mv s ns false x tb (xcs kd a nm ex gi inf im (.slice A1 m1 c1) (.slice A2 m2 c2)) An 0 s5 none 0 [] W6) := by
   refine ⟨RwSt.nil HR6.out HT6.out, fun g e => by simp [Value.ownBlock] at e, hxb, hxi.keep fun b hb hs => ⟨⟨hs, hb⟩, rfl⟩, fun i hi => ?_⟩; obtain ⟨b, e, hs, h0, h1, h2⟩ := HN6.out i hi
   exact ⟨b, e, ⟨hs, World.block_lt_of_cell? _ _ h0⟩, h0, h1, h2⟩
  clear hnl' HN6 HX6 HR6 hxb hxi
  go_wp2_with fail
  go_loopg [7, 37] nl (fun g v i wr => ∃ (j : Nat) (A : Option Addr) (c : Nat) (ys : List Value), j + g = nl /\ v = .slice A j c /\ i = .int .i64 (j : Nat) /\ W6.heap.size <= wr.heap.size /\ Hid (IbSt w W6.heap.size rb mv s ns false x tb (xcs kd a nm ex gi inf im (.slice A1 m1 c1) (.slice A2 m2 c2)) An j s5 A c ys wr))
  case atStart => exact ⟨0, none, 0, [], by omega, rfl, rfl, Nat.le_refl _, HSt.out⟩
  case round =>
   clear HSt; obtain ⟨j, A, c, ys, hjg, rfl, rfl, hn1w, HS⟩ := hrel; have hll : ((ns.take j).map fun y => (⟨y.1, false, x, y.2⟩ : Bd)).length = j := by rw [HNl.out] at hjg; simp; omega
   by_cases hj : j < nl
   . have hjj : decide ((j : Int) < (nl : Int)) = true := by simp; omega
     have hjn : ((j : Nat) : Int) < ((nl : Nat) : Int) := by omega
     have hjl : j < ns.length := by rw [<- HNl.out]; exact hj
     obtain ⟨nb, rfl, hs3, n0, n1, n2⟩ := HS.out.nms j hjl; have hwz := HS.out.row.old.size; have htl' : tb < wr.heap.size := (Array.getElem?_eq_some_iff.1 HS.out.typ).1; generalize hnm1 : ns[j].1 = nm1 at *
     generalize hta1 : ns[j].2 = ta1 at *; have hbx := heap_alloc_new wr (.cells #[.int .i64 1, .int .i64 (ta1 : Nat), .string nm1] 46)
     have t1 : (wr.alloc (.cells #[.int .i64 1, .int .i64 (ta1 : Nat), .string nm1] 46)).cell? ⟨wr.heap.size, 1, none⟩ = some (.int .i64 (ta1 : Nat)) := cell_of hbx 1 rfl
     have t2 : (wr.alloc (.cells #[.int .i64 1, .int .i64 (ta1 : Nat), .string nm1] 46)).cell? ⟨wr.heap.size, 2, none⟩ = some (.string nm1) := cell_of hbx 2 rfl
     have hty := (Below.heap_alloc wr (.cells #[.int .i64 1, .int .i64 (ta1 : Nat), .string nm1] 46) tb htl').trans HS.out.typ
     have hB7 : Below wr.heap.size wr (wr.alloc (.cells #[.int .i64 1, .int .i64 (ta1 : Nat), .string nm1] 46)) := (Below.refl _ _).alloc (Nat.le_refl _) _
     have hsz : (wr.alloc (.cells #[.int .i64 1, .int .i64 (ta1 : Nat), .string nm1] 46)).heap.size = wr.heap.size + 1 := Array.size_push ..
     go_wp2_with fail
     clear n0 n1 n2; generalize (wr.alloc (.cells #[.int .i64 1, .int .i64 (ta1 : Nat), .string nm1] 46)) = W7 at *; have hszt : wr.heap.size < W7.heap.size := by omega
     have L1 : ∀ W, Below W7.heap.size W7 W -> (ld43 (.pointer (some ⟨tb, 0, none⟩))).run Tryz.prog W = .ok (.agg (xcs kd a nm ex gi inf im (.slice A1 m1 c1) (.slice A2 m2 c2))) W := fun W hW => ld43_run (block_range ((hW.block _ (by omega)).trans hty)) rfl
     have T2 : ∀ W, Below W7.heap.size W7 W -> W.cell? ⟨wr.heap.size, 2, none⟩ = some (.string nm1) := fun W hW => cell_later hW t2
     have hb7 := Below.refl W7.heap.size W7
     go_region_held3 (fun w' => w'.cell? ⟨wr.heap.size, 2, none⟩ = some (.string nm1) /\ (ld43 (.pointer (some ⟨tb, 0, none⟩))).run Tryz.prog w' = .ok (.agg (xcs kd a nm ex gi inf im (.slice A1 m1 c1) (.slice A2 m2 c2))) w') (first | assumption | exact ⟨T2 _ (Below.refl _ _), L1 _ (Below.refl _ _)⟩ | exact ⟨T2 _ (Below.refl _ _).drew, L1 _ (Below.refl _ _).drew⟩ | exact ⟨T2 _ ((Below.refl _ _).drew.alloc (Nat.le_refl _) _), L1 _ ((Below.refl _ _).drew.alloc (Nat.le_refl _) _)⟩ | exact ⟨T2 _ ((Below.refl _ _).alloc (Nat.le_refl _) _).drew, L1 _ ((Below.refl _ _).alloc (Nat.le_refl _) _).drew⟩) (fail)
     generalize hW8 : (W7.alloc _).drew = W8; have hB78 : Below W7.heap.size W7 W8 := by rw [<- hW8]; exact ((Below.refl _ _).alloc (Nat.le_refl _) _).drew
     have hB8 : Below wr.heap.size wr W8 := hB7.trans (hB78.mono hB7.size)
     have hbb8 : W8.heap[wr.heap.size + 1]? = some (.cells #[.string nm1, .bool false, .int .i64 kd, .int .i64 a, .string nm, .bool ex, .bool gi, .bool inf, .bool im, .slice A1 m1 c1, .slice A2 m2 c2] 84 (0, 0)) := by
      rw [<- hW8, <- hsz]; exact heap_alloc_new W7 _
     have hz8 : W8.heap.size = wr.heap.size + 2 := by
      rw [<- hW8]; show (W7.heap.push _).size = _; rw [Array.size_push]; omega
     have u1 : W8.cell? ⟨wr.heap.size, 1, none⟩ = some (.int .i64 (ta1 : Nat)) := cell_later hB78 t1; have hrd8 : Rdy W8 rb mv s s5 := HS.out.row.rdy.later hB8; have htc8 : Touched wr rb W8 := Touched.of_below hB8
     have hty8 := (hB8.block tb htl').trans HS.out.typ; have hix8 : InX W8 (fun b => w.heap.size <= b /\ b < W6.heap.size) x (xcs kd a nm ex gi inf im (.slice A1 m1 c1) (.slice A2 m2 c2)) := HS.out.inx.later hB8
     have L8 := ld43_run (block_range hty8) rfl; have hn1r : W6.heap.size <= wr.heap.size := hn1w; clear hW8 hB78 hB7 hbx hty hb7 hB8 hsz hszt hty8
     by_cases hj0 : j = 0
     . have hq0 : decide ((0 : Int) < ((j : Nat) : Int)) = false := by simp; omega
       have hq1 : decide (0 < j) = false := by simp; omega
       have hq2 : ¬ 0 < j := by omega
       clear hz8 hj0
       have HO := hide ((HS.out.owned (by omega) htc8 hlt).alloc (.cells #[.string nm1, .bool false, .int .i64 kd, .int .i64 a, .string nm, .bool ex, .bool gi, .bool inf, .bool im, .slice A1 m1 c1, .slice A2 m2 c2, .int .i64 (ta1 : Nat)] 86))
       have HRd := hide ((hrd8).alloc (.cells #[.string nm1, .bool false, .int .i64 kd, .int .i64 a, .string nm, .bool ex, .bool gi, .bool inf, .bool im, .slice A1 m1 c1, .slice A2 m2 c2, .int .i64 (ta1 : Nat)] 86))
       have HTd := hide ((htc8).trans (Touched.alloc W8 rb (.cells #[.string nm1, .bool false, .int .i64 kd, .int .i64 a, .string nm, .bool ex, .bool gi, .bool inf, .bool im, .slice A1 m1 c1, .slice A2 m2 c2, .int .i64 (ta1 : Nat)] 86)))
       have HXd := hide ((show InX W8 (fun b => (w.heap.size <= b /\ b < W6.heap.size) \/ wr.heap.size <= b) x (xcs kd a nm ex gi inf im (.slice A1 m1 c1) (.slice A2 m2 c2)) from hix8.mono fun b hb => Or.inl hb).later ((Below.refl W8.heap.size W8).alloc (Nat.le_refl _) (.cells #[.string nm1, .bool false, .int .i64 kd, .int .i64 a, .string nm, .bool ex, .bool gi, .bool inf, .bool im, .slice A1 m1 c1, .slice A2 m2 c2, .int .i64 (ta1 : Nat)] 86)))
       have HBB := hide hbb8; have u1' := u1; have hzW := (htc8).size; have L64 := ld64_run (block_range HBB.out) rfl; clear L1 T2 t1 t2
       go_wp2_with (first | (at_builtin; refine wpList_append_placed _ rfl _ _ 81 rfl w.heap.size 86 i0 _ 12 120 Tryz.underlying81 hi hz0 hz1 hz2 rfl (by decide) (.slice A j c) j (flat ys) rfl HO.out ⟨W8.heap.size, 0, none⟩ 1 1 [.string nm1, .bool false, .int .i64 kd, .int .i64 a, .string nm, .bool ex, .bool gi, .bool inf, .bool im, .slice A1 m1 c1, .slice A2 m2 c2, .int .i64 (ta1 : Nat)] rfl rfl (cells_new _ [.string nm1, .bool false, .int .i64 kd, .int .i64 a, .string nm, .bool ex, .bool gi, .bool inf, .bool im, .slice A1 m1 c1, .slice A2 m2 c2, .int .i64 (ta1 : Nat)] _) (by intro u hu; simp at hu; rcases hu with rfl | rfl | rfl | rfl | rfl | rfl | rfl | rfl | rfl | rfl | rfl | rfl <;> rfl) (by decide) (by unfold maxLen; omega) (by omega) (by simp; omega) ?_))
       intro v' w6 hown6 hgr6 hpl6
       obtain ⟨A6, c6, hv6, hS6⟩ := HS.out.next (xv' := xcs kd a nm ex gi inf im (.slice A1 m1 c1) (.slice A2 m2 c2)) (rv := v') (w6 := w6) H.out hjl (by omega) (by omega) (by omega) (by omega) HRd.out HTd.out HXd.out (by rw [hnm1, hta1, bcs_toList]; exact hown6) hgr6 (by simpa using hpl6)
       subst hv6; have hzz : W6.heap.size <= w6.heap.size := Nat.le_trans hn1w (Nat.le_trans HTd.out.size hgr6.size); have HS6 := hide hS6; clear hown6 hgr6 hpl6 hS6 HO HRd HTd HXd HBB HS
       go_wp2_with fail
       go_roundg (nl - (j + 1))
       case measure => omega
       case rel => exact ⟨j + 1, A6, c6, _, by omega, by simp, by go_num, by omega, HS6.out⟩
     . have hq0 : decide ((0 : Int) < ((j : Nat) : Int)) = true := by simp; omega
       have hq1 : decide (0 < j) = true := by simp; omega
       have hq2 : 0 < j := by omega
       clear hj0; have KC8 := hide (KC.out _ (fun b => w.heap.size <= b /\ b < W6.heap.size) (fun b hb => by have := hb.1; omega) s5 W8 hrd8 (hix8.keep fun b hb hs => ⟨⟨hs, hb⟩, rfl⟩)); have HTC8 := hide htc8
       have HBB8 := hide hbb8; clear hrd8 htc8 hix8 hbb8
       go_wp2_with (go_at_call 70; refine KC8.out.mono ?_)
       intro e W9 h9; obtain ⟨v9, rfl, hx9, hR9, hT9⟩ := h9; obtain ⟨kd', a', nm', ex', gi', inf', im', A1', m1', c1', A2', m2', c2', rfl⟩ := hx9.cells
       have hbb9 := (hT9.at (k := wr.heap.size + 1) (by omega) (by omega)).trans HBB8.out
       have hu9 : W9.cell? ⟨wr.heap.size, 1, none⟩ = some (.int .i64 (ta1 : Nat)) := (hT9.cell (p := ⟨wr.heap.size, 1, none⟩) (by show wr.heap.size < W8.heap.size; omega) (by show wr.heap.size ≠ rb; omega)).trans u1
       have hz9 := hT9.size; have htc9 : Touched wr rb W9 := HTC8.out.trans hT9; have hTw9 : Touched w rb W9 := HS.out.row.old.trans htc9
       have ST9 : (st43 (.pointer (some ⟨wr.heap.size + 1, 2, none⟩)) (.agg (xcs kd' a' nm' ex' gi' inf' im' (.slice A1' m1' c1') (.slice A2' m2' c2')))).run Tryz.prog W9 = .ok () (W9.setCells (wr.heap.size + 1) 2 (xcs kd' a' nm' ex' gi' inf' im' (.slice A1' m1' c1') (.slice A2' m2' c2')).toList) := st43_run (fun q hq => by
        have hq' : q < 9 := hq; refine ⟨?_, frozen_of hbb9 _⟩; rw [cell_of hbb9 (2 + q) (Array.getElem?_eq_getElem (by simp; omega))]
        rfl) rfl (by simp [Value.oneCell'])
       have hrdA := H.out.puts hR9 hTw9 (eb := wr.heap.size + 1) (by omega) 2 (xcs kd' a' nm' ex' gi' inf' im' (.slice A1' m1' c1') (.slice A2' m2' c2')).toList
       have htcA : Touched wr rb (W9.setCells (wr.heap.size + 1) 2 (xcs kd' a' nm' ex' gi' inf' im' (.slice A1' m1' c1') (.slice A2' m2' c2')).toList) := htc9.setsNew (b := wr.heap.size + 1) (by omega) _ 2
       have hneA : ∀ b, b ≠ wr.heap.size + 1 -> (W9.setCells (wr.heap.size + 1) 2 (xcs kd' a' nm' ex' gi' inf' im' (.slice A1' m1' c1') (.slice A2' m2' c2')).toList).heap[b]? = W9.heap[b]? := fun b hb => heap_setCells_ne hb _ _ _
       have hixA : InX (W9.setCells (wr.heap.size + 1) 2 (xcs kd' a' nm' ex' gi' inf' im' (.slice A1' m1' c1') (.slice A2' m2' c2')).toList) (fun b => (w.heap.size <= b /\ b < W6.heap.size) \/ wr.heap.size <= b) x (xcs kd' a' nm' ex' gi' inf' im' (.slice A1' m1' c1') (.slice A2' m2' c2')) := hx9.keep fun b hb hs => by
        rcases hs with hs | hs
        . exact ⟨.inl hs, hneA b (by omega)⟩
        . have hs' : W8.heap.size <= b := hs
          exact ⟨.inr (by omega), hneA b (by omega)⟩
       have hbbA := heap_setCells (xcs kd' a' nm' ex' gi' inf' im' (.slice A1' m1' c1') (.slice A2' m2' c2')).toList 2 _ W9 hbb9
       have hbbA' : (W9.setCells (wr.heap.size + 1) 2 (xcs kd' a' nm' ex' gi' inf' im' (.slice A1' m1' c1') (.slice A2' m2' c2')).toList).heap[wr.heap.size + 1]? = some (.cells #[.string nm1, .bool false, .int .i64 kd', .int .i64 a', .string nm', .bool ex', .bool gi', .bool inf', .bool im', .slice A1' m1' c1', .slice A2' m2' c2'] 84 (0, 0)) := by
        rw [hbbA]
        simp [wrote]
       have huA := (World.cell?_of_block (a := ⟨wr.heap.size, 1, none⟩) (hneA wr.heap.size (by omega))).trans hu9; clear hx9 hR9 hT9 hbb9 hu9 htc9 hTw9 hneA hbbA KC8 HTC8 HBB8 L8 u1
       generalize (W9.setCells (wr.heap.size + 1) 2 (xcs kd' a' nm' ex' gi' inf' im' (.slice A1' m1' c1') (.slice A2' m2' c2')).toList) = WA at *; clear hz8 hz9
       have HO := hide ((HS.out.owned (by omega) htcA hlt).alloc (.cells #[.string nm1, .bool false, .int .i64 kd', .int .i64 a', .string nm', .bool ex', .bool gi', .bool inf', .bool im', .slice A1' m1' c1', .slice A2' m2' c2', .int .i64 (ta1 : Nat)] 86))
       have HRd := hide ((hrdA).alloc (.cells #[.string nm1, .bool false, .int .i64 kd', .int .i64 a', .string nm', .bool ex', .bool gi', .bool inf', .bool im', .slice A1' m1' c1', .slice A2' m2' c2', .int .i64 (ta1 : Nat)] 86))
       have HTd := hide ((htcA).trans (Touched.alloc WA rb (.cells #[.string nm1, .bool false, .int .i64 kd', .int .i64 a', .string nm', .bool ex', .bool gi', .bool inf', .bool im', .slice A1' m1' c1', .slice A2' m2' c2', .int .i64 (ta1 : Nat)] 86)))
       have HXd := hide ((hixA).later ((Below.refl WA.heap.size WA).alloc (Nat.le_refl _) (.cells #[.string nm1, .bool false, .int .i64 kd', .int .i64 a', .string nm', .bool ex', .bool gi', .bool inf', .bool im', .slice A1' m1' c1', .slice A2' m2' c2', .int .i64 (ta1 : Nat)] 86)))
       have HBB := hide hbbA'; have u1' := huA; have hzW := (htcA).size; have L64 := ld64_run (block_range HBB.out) rfl; clear L1 T2 t1 t2
       go_wp2_with (first | (at_builtin; refine wpList_append_placed _ rfl _ _ 81 rfl w.heap.size 86 i0 _ 12 120 Tryz.underlying81 hi hz0 hz1 hz2 rfl (by decide) (.slice A j c) j (flat ys) rfl HO.out ⟨WA.heap.size, 0, none⟩ 1 1 [.string nm1, .bool false, .int .i64 kd', .int .i64 a', .string nm', .bool ex', .bool gi', .bool inf', .bool im', .slice A1' m1' c1', .slice A2' m2' c2', .int .i64 (ta1 : Nat)] rfl rfl (cells_new _ [.string nm1, .bool false, .int .i64 kd', .int .i64 a', .string nm', .bool ex', .bool gi', .bool inf', .bool im', .slice A1' m1' c1', .slice A2' m2' c2', .int .i64 (ta1 : Nat)] _) (by intro u hu; simp at hu; rcases hu with rfl | rfl | rfl | rfl | rfl | rfl | rfl | rfl | rfl | rfl | rfl | rfl <;> rfl) (by decide) (by unfold maxLen; omega) (by omega) (by simp; omega) ?_))
       intro v' w6 hown6 hgr6 hpl6
       obtain ⟨A6, c6, hv6, hS6⟩ := HS.out.next (xv' := xcs kd' a' nm' ex' gi' inf' im' (.slice A1' m1' c1') (.slice A2' m2' c2')) (rv := v') (w6 := w6) H.out hjl (by omega) (by omega) (by omega) (by omega) HRd.out HTd.out HXd.out (by rw [hnm1, hta1, bcs_toList]; exact hown6) hgr6 (by simpa using hpl6)
       subst hv6; have hzz : W6.heap.size <= w6.heap.size := Nat.le_trans hn1w (Nat.le_trans HTd.out.size hgr6.size); have HS6 := hide hS6; clear hown6 hgr6 hpl6 hS6 HO HRd HTd HXd HBB HS
       go_wp2_with fail
       go_roundg (nl - (j + 1))
       case measure => omega
       case rel => exact ⟨j + 1, A6, c6, _, by omega, by simp, by go_num, by omega, HS6.out⟩
   . have hje : j = ns.length := by rw [<- HNl.out]; omega
     have hjj : decide ((j : Int) < (nl : Int)) = false := by simp; omega
     have HF : Hid (RX w rb mv s fin.2 (BsR w fin.1) (.returned (.slice A j c)) wr) := by
      have hrow := HS.out.row.row; obtain ⟨A', c', e', hL⟩ := GRow.bds hrow; injection e' with e1 e2 e3; subst e1; have ht : ns.take j = ns := by rw [hje]; exact List.take_length
      rw [HFi.out]; rw [ht] at hL; exact .inl ⟨hc6, ⟨A, c, by rw [hje]; simp, hL⟩, HS.out.row.rdy, HS.out.row.old⟩
     clear HS HFi
     go_wp2_with fail
     go_ret; exact HF.out
 case true =>
  simp only [if_true] at HM5
  go_wp2_with (go_at_call 40; refine KT.out.mono ?_)
  rintro e W2 ⟨rfl, hR2, hT2⟩; have KN := hide (HNm.out W2 hR2); have HT2 := hide (HT1.out.trans hT2); clear hR2 hT2 KT HNm HT1
  go_wp2_with (go_at_call 69; refine KN.out.mono ?_)
  intro e W3 h3
  rcases h3 with ⟨hc3, ⟨An, cn, rfl, hN3⟩, hR3, hT3⟩ | ⟨hc3, hth⟩
  rotate_left
  . have HF : Hid (RX w rb mv s fin.2 (BsR w fin.1) e W3) := RX.bad (lost_of hc3) (by rw [fp_of hc3]; exact hth) HT2.out HB0.out
    obtain ⟨fb, rfl, -⟩ := hth
    go_wp2_with fail
    exact ⟨rfl, HF.out⟩
  have KM := hide (HM1.out W3 hR3); have HT3 := hide (HT2.out.trans hT3)
  have HN3 : Hid (NsIn W3 (fun b => w.heap.size <= b) An ns) := fun i hi => by
   obtain ⟨b, e, hs, h0, h1, h2⟩ := hN3 i hi; have hs' : W2.heap.size <= b := hs; have := HT2.out.size; exact ⟨b, e, by omega, h0, h1, h2⟩
  clear hR3 hT3 KN HM1 HB0 hN3 HT2
  go_wp2_with (go_at_call 29; refine KM.out.mono ?_)
  intro e W4 h4
  rcases h4 with ⟨hc4, rfl, hR4, hT4⟩ | ⟨hc4, hth⟩
  rotate_left
  . have HF : Hid (RX w rb mv s fin.2 (BsR w fin.1) e W4) := RX.bad (lost_of hc4) (by rw [fp_of hc4]; exact hth) HT3.out HB1.out
    obtain ⟨fb, rfl, -⟩ := hth
    go_wp2_with fail
    exact ⟨rfl, HF.out⟩
  have KX := hide (HX.out W4 hR4); have HT4 := hide (HT3.out.trans hT4); have HN4 := hide (HN3.out.touched hT4 hlt); clear hR4 hT4 KM HX HB1 HT3 HN3
  go_wp2_with (go_at_call 30; refine KX.out.mono ?_)
  intro e W5 h5
  rcases h5 with ⟨hc5, ⟨tb, rfl, hl5, hx5⟩, hR5, hT5⟩ | ⟨hc5, hth⟩
  rotate_left
  . have HF : Hid (RX w rb mv s fin.2 (BsR w fin.1) e W5) := RX.bad hc5 hth HT4.out HB2.out
    obtain ⟨fb, rfl, -⟩ := hth
    go_wp2_with fail
    exact ⟨rfl, HF.out⟩
  have hz4 := HT4.out.size; have KM := hide (HM5.out W5 hR5); have HT5 := hide (HT4.out.trans hT5); have HN5 := hide (HN4.out.touched hT5 hlt); have HX5 := hide (hx5.wide hz4); have hl5' : w.heap.size <= tb := by omega
  clear hR5 hT5 KX HM5 HB2 HT4 HN4 hx5
  go_wp2_with (go_at_call 29; refine KM.out.mono ?_)
  intro e W6 h6
  rcases h6 with ⟨hc6, rfl, hR6, hT6⟩ | ⟨hc6, hth⟩
  rotate_left
  . have HF : Hid (RX w rb mv s fin.2 (BsR w fin.1) e W6) := RX.bad (lost_of hc6) (by rw [fp_of hc6]; exact hth) HT5.out (by rw [HFi.out]; exact Bdn.refl _)
    obtain ⟨fb, rfl, -⟩ := hth
    go_wp2_with fail
    exact ⟨rfl, HF.out⟩
  have HT6 := hide (HT5.out.trans hT6); have HN6 := hide (HN5.out.touched hT6 hlt); have HX6 := hide (HX5.out.rest hT6 hlt hl5'); have HR6 := hide hR6; clear hR6 hT6 KM HT5 HN5 HX5; obtain ⟨xv, hxb, hxi⟩ := HX6.out
  obtain ⟨kd, a, nm, ex, gi, inf, im, A1, m1, c1, A2, m2, c2, rfl⟩ := hxi.cells; obtain ⟨nl, hnl'⟩ : ∃ nl, nl = ns.length := ⟨_, rfl⟩; have HNl := hide hnl'; rw [<- hnl'] at hnl; rw [<- hnl']; have hz6 := HT6.out.size
  have htl : tb < W6.heap.size := (Array.getElem?_eq_some_iff.1 hxb).1
  have HSt : Hid (IbSt w W6.heap.size rb mv s ns true x tb (xcs kd a nm ex gi inf im (.slice A1 m1 c1) (.slice A2 m2 c2)) An 0 s5 none 0 [] W6) := by
   refine ⟨RwSt.nil HR6.out HT6.out, fun g e => by simp [Value.ownBlock] at e, hxb, hxi.keep fun b hb hs => ⟨⟨hs, hb⟩, rfl⟩, fun i hi => ?_⟩; obtain ⟨b, e, hs, h0, h1, h2⟩ := HN6.out i hi
   exact ⟨b, e, ⟨hs, World.block_lt_of_cell? _ _ h0⟩, h0, h1, h2⟩
  clear hnl' HN6 HX6 HR6 hxb hxi
  go_wp2_with fail
  go_loopg [7, 37] nl (fun g v i wr => ∃ (j : Nat) (A : Option Addr) (c : Nat) (ys : List Value), j + g = nl /\ v = .slice A j c /\ i = .int .i64 (j : Nat) /\ W6.heap.size <= wr.heap.size /\ Hid (IbSt w W6.heap.size rb mv s ns true x tb (xcs kd a nm ex gi inf im (.slice A1 m1 c1) (.slice A2 m2 c2)) An j s5 A c ys wr))
  case atStart => exact ⟨0, none, 0, [], by omega, rfl, rfl, Nat.le_refl _, HSt.out⟩
  case round =>
   clear HSt; obtain ⟨j, A, c, ys, hjg, rfl, rfl, hn1w, HS⟩ := hrel; have hll : ((ns.take j).map fun y => (⟨y.1, true, x, y.2⟩ : Bd)).length = j := by rw [HNl.out] at hjg; simp; omega
   by_cases hj : j < nl
   . have hjj : decide ((j : Int) < (nl : Int)) = true := by simp; omega
     have hjn : ((j : Nat) : Int) < ((nl : Nat) : Int) := by omega
     have hjl : j < ns.length := by rw [<- HNl.out]; exact hj
     obtain ⟨nb, rfl, hs3, n0, n1, n2⟩ := HS.out.nms j hjl; have hwz := HS.out.row.old.size; have htl' : tb < wr.heap.size := (Array.getElem?_eq_some_iff.1 HS.out.typ).1; generalize hnm1 : ns[j].1 = nm1 at *
     generalize hta1 : ns[j].2 = ta1 at *; have hbx := heap_alloc_new wr (.cells #[.int .i64 1, .int .i64 (ta1 : Nat), .string nm1] 46)
     have t1 : (wr.alloc (.cells #[.int .i64 1, .int .i64 (ta1 : Nat), .string nm1] 46)).cell? ⟨wr.heap.size, 1, none⟩ = some (.int .i64 (ta1 : Nat)) := cell_of hbx 1 rfl
     have t2 : (wr.alloc (.cells #[.int .i64 1, .int .i64 (ta1 : Nat), .string nm1] 46)).cell? ⟨wr.heap.size, 2, none⟩ = some (.string nm1) := cell_of hbx 2 rfl
     have hty := (Below.heap_alloc wr (.cells #[.int .i64 1, .int .i64 (ta1 : Nat), .string nm1] 46) tb htl').trans HS.out.typ
     have hB7 : Below wr.heap.size wr (wr.alloc (.cells #[.int .i64 1, .int .i64 (ta1 : Nat), .string nm1] 46)) := (Below.refl _ _).alloc (Nat.le_refl _) _
     have hsz : (wr.alloc (.cells #[.int .i64 1, .int .i64 (ta1 : Nat), .string nm1] 46)).heap.size = wr.heap.size + 1 := Array.size_push ..
     go_wp2_with fail
     clear n0 n1 n2; generalize (wr.alloc (.cells #[.int .i64 1, .int .i64 (ta1 : Nat), .string nm1] 46)) = W7 at *; have hszt : wr.heap.size < W7.heap.size := by omega
     have L1 : ∀ W, Below W7.heap.size W7 W -> (ld43 (.pointer (some ⟨tb, 0, none⟩))).run Tryz.prog W = .ok (.agg (xcs kd a nm ex gi inf im (.slice A1 m1 c1) (.slice A2 m2 c2))) W := fun W hW => ld43_run (block_range ((hW.block _ (by omega)).trans hty)) rfl
     have T2 : ∀ W, Below W7.heap.size W7 W -> W.cell? ⟨wr.heap.size, 2, none⟩ = some (.string nm1) := fun W hW => cell_later hW t2
     have hb7 := Below.refl W7.heap.size W7
     go_region_held3 (fun w' => w'.cell? ⟨wr.heap.size, 2, none⟩ = some (.string nm1) /\ (ld43 (.pointer (some ⟨tb, 0, none⟩))).run Tryz.prog w' = .ok (.agg (xcs kd a nm ex gi inf im (.slice A1 m1 c1) (.slice A2 m2 c2))) w') (first | assumption | exact ⟨T2 _ (Below.refl _ _), L1 _ (Below.refl _ _)⟩ | exact ⟨T2 _ (Below.refl _ _).drew, L1 _ (Below.refl _ _).drew⟩ | exact ⟨T2 _ ((Below.refl _ _).drew.alloc (Nat.le_refl _) _), L1 _ ((Below.refl _ _).drew.alloc (Nat.le_refl _) _)⟩ | exact ⟨T2 _ ((Below.refl _ _).alloc (Nat.le_refl _) _).drew, L1 _ ((Below.refl _ _).alloc (Nat.le_refl _) _).drew⟩) (fail)
     generalize hW8 : (W7.alloc _).drew = W8; have hB78 : Below W7.heap.size W7 W8 := by rw [<- hW8]; exact ((Below.refl _ _).alloc (Nat.le_refl _) _).drew
     have hB8 : Below wr.heap.size wr W8 := hB7.trans (hB78.mono hB7.size)
     have hbb8 : W8.heap[wr.heap.size + 1]? = some (.cells #[.string nm1, .bool true, .int .i64 kd, .int .i64 a, .string nm, .bool ex, .bool gi, .bool inf, .bool im, .slice A1 m1 c1, .slice A2 m2 c2] 84 (0, 0)) := by
      rw [<- hW8, <- hsz]; exact heap_alloc_new W7 _
     have hz8 : W8.heap.size = wr.heap.size + 2 := by
      rw [<- hW8]; show (W7.heap.push _).size = _; rw [Array.size_push]; omega
     have u1 : W8.cell? ⟨wr.heap.size, 1, none⟩ = some (.int .i64 (ta1 : Nat)) := cell_later hB78 t1; have hrd8 : Rdy W8 rb mv s s5 := HS.out.row.rdy.later hB8; have htc8 : Touched wr rb W8 := Touched.of_below hB8
     have hty8 := (hB8.block tb htl').trans HS.out.typ; have hix8 : InX W8 (fun b => w.heap.size <= b /\ b < W6.heap.size) x (xcs kd a nm ex gi inf im (.slice A1 m1 c1) (.slice A2 m2 c2)) := HS.out.inx.later hB8
     have L8 := ld43_run (block_range hty8) rfl; have hn1r : W6.heap.size <= wr.heap.size := hn1w; clear hW8 hB78 hB7 hbx hty hb7 hB8 hsz hszt hty8
     by_cases hj0 : j = 0
     . have hq0 : decide ((0 : Int) < ((j : Nat) : Int)) = false := by simp; omega
       have hq1 : decide (0 < j) = false := by simp; omega
       have hq2 : ¬ 0 < j := by omega
       clear hz8 hj0
       have HO := hide ((HS.out.owned (by omega) htc8 hlt).alloc (.cells #[.string nm1, .bool true, .int .i64 kd, .int .i64 a, .string nm, .bool ex, .bool gi, .bool inf, .bool im, .slice A1 m1 c1, .slice A2 m2 c2, .int .i64 (ta1 : Nat)] 86))
       have HRd := hide ((hrd8).alloc (.cells #[.string nm1, .bool true, .int .i64 kd, .int .i64 a, .string nm, .bool ex, .bool gi, .bool inf, .bool im, .slice A1 m1 c1, .slice A2 m2 c2, .int .i64 (ta1 : Nat)] 86))
       have HTd := hide ((htc8).trans (Touched.alloc W8 rb (.cells #[.string nm1, .bool true, .int .i64 kd, .int .i64 a, .string nm, .bool ex, .bool gi, .bool inf, .bool im, .slice A1 m1 c1, .slice A2 m2 c2, .int .i64 (ta1 : Nat)] 86)))
       have HXd := hide ((show InX W8 (fun b => (w.heap.size <= b /\ b < W6.heap.size) \/ wr.heap.size <= b) x (xcs kd a nm ex gi inf im (.slice A1 m1 c1) (.slice A2 m2 c2)) from hix8.mono fun b hb => Or.inl hb).later ((Below.refl W8.heap.size W8).alloc (Nat.le_refl _) (.cells #[.string nm1, .bool true, .int .i64 kd, .int .i64 a, .string nm, .bool ex, .bool gi, .bool inf, .bool im, .slice A1 m1 c1, .slice A2 m2 c2, .int .i64 (ta1 : Nat)] 86)))
       have HBB := hide hbb8; have u1' := u1; have hzW := (htc8).size; have L64 := ld64_run (block_range HBB.out) rfl; clear L1 T2 t1 t2
       go_wp2_with (first | (at_builtin; refine wpList_append_placed _ rfl _ _ 81 rfl w.heap.size 86 i0 _ 12 120 Tryz.underlying81 hi hz0 hz1 hz2 rfl (by decide) (.slice A j c) j (flat ys) rfl HO.out ⟨W8.heap.size, 0, none⟩ 1 1 [.string nm1, .bool true, .int .i64 kd, .int .i64 a, .string nm, .bool ex, .bool gi, .bool inf, .bool im, .slice A1 m1 c1, .slice A2 m2 c2, .int .i64 (ta1 : Nat)] rfl rfl (cells_new _ [.string nm1, .bool true, .int .i64 kd, .int .i64 a, .string nm, .bool ex, .bool gi, .bool inf, .bool im, .slice A1 m1 c1, .slice A2 m2 c2, .int .i64 (ta1 : Nat)] _) (by intro u hu; simp at hu; rcases hu with rfl | rfl | rfl | rfl | rfl | rfl | rfl | rfl | rfl | rfl | rfl | rfl <;> rfl) (by decide) (by unfold maxLen; omega) (by omega) (by simp; omega) ?_))
       intro v' w6 hown6 hgr6 hpl6
       obtain ⟨A6, c6, hv6, hS6⟩ := HS.out.next (xv' := xcs kd a nm ex gi inf im (.slice A1 m1 c1) (.slice A2 m2 c2)) (rv := v') (w6 := w6) H.out hjl (by omega) (by omega) (by omega) (by omega) HRd.out HTd.out HXd.out (by rw [hnm1, hta1, bcs_toList]; exact hown6) hgr6 (by simpa using hpl6)
       subst hv6; have hzz : W6.heap.size <= w6.heap.size := Nat.le_trans hn1w (Nat.le_trans HTd.out.size hgr6.size); have HS6 := hide hS6; clear hown6 hgr6 hpl6 hS6 HO HRd HTd HXd HBB HS
       go_wp2_with fail
       go_roundg (nl - (j + 1))
       case measure => omega
       case rel => exact ⟨j + 1, A6, c6, _, by omega, by simp, by go_num, by omega, HS6.out⟩
     . have hq0 : decide ((0 : Int) < ((j : Nat) : Int)) = true := by simp; omega
       have hq1 : decide (0 < j) = true := by simp; omega
       have hq2 : 0 < j := by omega
       clear hj0; have KC8 := hide (KC.out _ (fun b => w.heap.size <= b /\ b < W6.heap.size) (fun b hb => by have := hb.1; omega) s5 W8 hrd8 (hix8.keep fun b hb hs => ⟨⟨hs, hb⟩, rfl⟩)); have HTC8 := hide htc8
       have HBB8 := hide hbb8; clear hrd8 htc8 hix8 hbb8
       go_wp2_with (go_at_call 70; refine KC8.out.mono ?_)
       intro e W9 h9; obtain ⟨v9, rfl, hx9, hR9, hT9⟩ := h9; obtain ⟨kd', a', nm', ex', gi', inf', im', A1', m1', c1', A2', m2', c2', rfl⟩ := hx9.cells
       have hbb9 := (hT9.at (k := wr.heap.size + 1) (by omega) (by omega)).trans HBB8.out
       have hu9 : W9.cell? ⟨wr.heap.size, 1, none⟩ = some (.int .i64 (ta1 : Nat)) := (hT9.cell (p := ⟨wr.heap.size, 1, none⟩) (by show wr.heap.size < W8.heap.size; omega) (by show wr.heap.size ≠ rb; omega)).trans u1
       have hz9 := hT9.size; have htc9 : Touched wr rb W9 := HTC8.out.trans hT9; have hTw9 : Touched w rb W9 := HS.out.row.old.trans htc9
       have ST9 : (st43 (.pointer (some ⟨wr.heap.size + 1, 2, none⟩)) (.agg (xcs kd' a' nm' ex' gi' inf' im' (.slice A1' m1' c1') (.slice A2' m2' c2')))).run Tryz.prog W9 = .ok () (W9.setCells (wr.heap.size + 1) 2 (xcs kd' a' nm' ex' gi' inf' im' (.slice A1' m1' c1') (.slice A2' m2' c2')).toList) := st43_run (fun q hq => by
        have hq' : q < 9 := hq; refine ⟨?_, frozen_of hbb9 _⟩; rw [cell_of hbb9 (2 + q) (Array.getElem?_eq_getElem (by simp; omega))]
        rfl) rfl (by simp [Value.oneCell'])
       have hrdA := H.out.puts hR9 hTw9 (eb := wr.heap.size + 1) (by omega) 2 (xcs kd' a' nm' ex' gi' inf' im' (.slice A1' m1' c1') (.slice A2' m2' c2')).toList
       have htcA : Touched wr rb (W9.setCells (wr.heap.size + 1) 2 (xcs kd' a' nm' ex' gi' inf' im' (.slice A1' m1' c1') (.slice A2' m2' c2')).toList) := htc9.setsNew (b := wr.heap.size + 1) (by omega) _ 2
       have hneA : ∀ b, b ≠ wr.heap.size + 1 -> (W9.setCells (wr.heap.size + 1) 2 (xcs kd' a' nm' ex' gi' inf' im' (.slice A1' m1' c1') (.slice A2' m2' c2')).toList).heap[b]? = W9.heap[b]? := fun b hb => heap_setCells_ne hb _ _ _
       have hixA : InX (W9.setCells (wr.heap.size + 1) 2 (xcs kd' a' nm' ex' gi' inf' im' (.slice A1' m1' c1') (.slice A2' m2' c2')).toList) (fun b => (w.heap.size <= b /\ b < W6.heap.size) \/ wr.heap.size <= b) x (xcs kd' a' nm' ex' gi' inf' im' (.slice A1' m1' c1') (.slice A2' m2' c2')) := hx9.keep fun b hb hs => by
        rcases hs with hs | hs
        . exact ⟨.inl hs, hneA b (by omega)⟩
        . have hs' : W8.heap.size <= b := hs
          exact ⟨.inr (by omega), hneA b (by omega)⟩
       have hbbA := heap_setCells (xcs kd' a' nm' ex' gi' inf' im' (.slice A1' m1' c1') (.slice A2' m2' c2')).toList 2 _ W9 hbb9
       have hbbA' : (W9.setCells (wr.heap.size + 1) 2 (xcs kd' a' nm' ex' gi' inf' im' (.slice A1' m1' c1') (.slice A2' m2' c2')).toList).heap[wr.heap.size + 1]? = some (.cells #[.string nm1, .bool true, .int .i64 kd', .int .i64 a', .string nm', .bool ex', .bool gi', .bool inf', .bool im', .slice A1' m1' c1', .slice A2' m2' c2'] 84 (0, 0)) := by
        rw [hbbA]
        simp [wrote]
       have huA := (World.cell?_of_block (a := ⟨wr.heap.size, 1, none⟩) (hneA wr.heap.size (by omega))).trans hu9; clear hx9 hR9 hT9 hbb9 hu9 htc9 hTw9 hneA hbbA KC8 HTC8 HBB8 L8 u1
       generalize (W9.setCells (wr.heap.size + 1) 2 (xcs kd' a' nm' ex' gi' inf' im' (.slice A1' m1' c1') (.slice A2' m2' c2')).toList) = WA at *; clear hz8 hz9
       have HO := hide ((HS.out.owned (by omega) htcA hlt).alloc (.cells #[.string nm1, .bool true, .int .i64 kd', .int .i64 a', .string nm', .bool ex', .bool gi', .bool inf', .bool im', .slice A1' m1' c1', .slice A2' m2' c2', .int .i64 (ta1 : Nat)] 86))
       have HRd := hide ((hrdA).alloc (.cells #[.string nm1, .bool true, .int .i64 kd', .int .i64 a', .string nm', .bool ex', .bool gi', .bool inf', .bool im', .slice A1' m1' c1', .slice A2' m2' c2', .int .i64 (ta1 : Nat)] 86))
       have HTd := hide ((htcA).trans (Touched.alloc WA rb (.cells #[.string nm1, .bool true, .int .i64 kd', .int .i64 a', .string nm', .bool ex', .bool gi', .bool inf', .bool im', .slice A1' m1' c1', .slice A2' m2' c2', .int .i64 (ta1 : Nat)] 86)))
       have HXd := hide ((hixA).later ((Below.refl WA.heap.size WA).alloc (Nat.le_refl _) (.cells #[.string nm1, .bool true, .int .i64 kd', .int .i64 a', .string nm', .bool ex', .bool gi', .bool inf', .bool im', .slice A1' m1' c1', .slice A2' m2' c2', .int .i64 (ta1 : Nat)] 86)))
       have HBB := hide hbbA'; have u1' := huA; have hzW := (htcA).size; have L64 := ld64_run (block_range HBB.out) rfl; clear L1 T2 t1 t2
       go_wp2_with (first | (at_builtin; refine wpList_append_placed _ rfl _ _ 81 rfl w.heap.size 86 i0 _ 12 120 Tryz.underlying81 hi hz0 hz1 hz2 rfl (by decide) (.slice A j c) j (flat ys) rfl HO.out ⟨WA.heap.size, 0, none⟩ 1 1 [.string nm1, .bool true, .int .i64 kd', .int .i64 a', .string nm', .bool ex', .bool gi', .bool inf', .bool im', .slice A1' m1' c1', .slice A2' m2' c2', .int .i64 (ta1 : Nat)] rfl rfl (cells_new _ [.string nm1, .bool true, .int .i64 kd', .int .i64 a', .string nm', .bool ex', .bool gi', .bool inf', .bool im', .slice A1' m1' c1', .slice A2' m2' c2', .int .i64 (ta1 : Nat)] _) (by intro u hu; simp at hu; rcases hu with rfl | rfl | rfl | rfl | rfl | rfl | rfl | rfl | rfl | rfl | rfl | rfl <;> rfl) (by decide) (by unfold maxLen; omega) (by omega) (by simp; omega) ?_))
       intro v' w6 hown6 hgr6 hpl6
       obtain ⟨A6, c6, hv6, hS6⟩ := HS.out.next (xv' := xcs kd' a' nm' ex' gi' inf' im' (.slice A1' m1' c1') (.slice A2' m2' c2')) (rv := v') (w6 := w6) H.out hjl (by omega) (by omega) (by omega) (by omega) HRd.out HTd.out HXd.out (by rw [hnm1, hta1, bcs_toList]; exact hown6) hgr6 (by simpa using hpl6)
       subst hv6; have hzz : W6.heap.size <= w6.heap.size := Nat.le_trans hn1w (Nat.le_trans HTd.out.size hgr6.size); have HS6 := hide hS6; clear hown6 hgr6 hpl6 hS6 HO HRd HTd HXd HBB HS
       go_wp2_with fail
       go_roundg (nl - (j + 1))
       case measure => omega
       case rel => exact ⟨j + 1, A6, c6, _, by omega, by simp, by go_num, by omega, HS6.out⟩
   . have hje : j = ns.length := by rw [<- HNl.out]; omega
     have hjj : decide ((j : Int) < (nl : Int)) = false := by simp; omega
     have HF : Hid (RX w rb mv s fin.2 (BsR w fin.1) (.returned (.slice A j c)) wr) := by
      have hrow := HS.out.row.row; obtain ⟨A', c', e', hL⟩ := GRow.bds hrow; injection e' with e1 e2 e3; subst e1; have ht : ns.take j = ns := by rw [hje]; exact List.take_length
      rw [HFi.out]; rw [ht] at hL; exact .inl ⟨hc6, ⟨A, c, by rw [hje]; simp, hL⟩, HS.out.row.rdy, HS.out.row.old⟩
     clear HS HFi
     go_wp2_with fail
     go_ret; exact HF.out
end
end Go.Proofs.YtockffblncdikaaGreatDoor
