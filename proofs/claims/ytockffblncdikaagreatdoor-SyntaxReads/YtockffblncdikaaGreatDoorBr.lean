/- The contracts of the reader's bracketed and atom. -/
import Derived.Test.YtockffblncdikaaGreatDoorUn
namespace Go.Proofs.YtockffblncdikaaGreatDoor
open Go.RowKit
set_option maxRecDepth 100000
set_option maxHeartbeats 16000000
section
variable {rb : Nat} {mv : Value} {s : ByteArray}
theorem nil_made (kd a : Nat) (nm : ByteArray) (w : World) : Calls Tryz.prog 71 #[.int .i64 (kd : Nat), .int .i64 (a : Nat), .string nm, .slice none 0 0] w fun e w' => MadeX w (fun _ => False) kd a nm [] e w' :=
 made_calls kd a nm [] (fun _ => 0) none 0 w (by simp) (fun i hi => absurd hi (by simp)) _ (fun i hi => absurd hi (by simp))
theorem one_level {W : World} {S S' : Nat -> Prop} {l : LvB} {k : Int} {nm : ByteArray} {A : Option Addr} {n c : Nat} (h : InP W S l (.agg #[.int .i64 k, .string nm, .slice A n c])) (hS : ∀ b, b < W.heap.size -> S b -> S' b) (hn : S' W.heap.size) : LvsIn (W.alloc (.cells #[.int .i64 k, .string nm, .slice A n c] 164)) S' (some ⟨W.heap.size, 0, none⟩) [l] := fun i hi => by
 match i, hi with
 | 0, _ => exact ⟨W.heap.size, _, rfl, hn, three_at (heap_alloc_new _ _), h.keep fun b hb hs => ⟨hS b hb hs, Below.heap_alloc _ _ _ hb⟩⟩
theorem sort_calls (n a : Nat) (st : FS) (w : World) (h : Rdy w rb mv s st) (hl : st.left s <= n) :
 Calls Tryz.prog 118 #[.pointer (some ⟨rb, 0, none⟩), .int .i64 (a : Nat)] w fun e w' => RX w rb mv s (univF s n st).2 (ExR w (sortX a (univF s n st).1)) e w' := by
 have H := hide h; have hlt := h.lt; have KM := hide (nil_made 2 a ⟨#[]⟩ w)
 have HU : Hid (∀ W, Rdy W rb mv s st -> Calls Tryz.prog 124 #[.pointer (some ⟨rb, 0, none⟩)] W fun e w' => RX W rb mv s (univF s n st).2 (LvR (fun b => W.heap.size <= b) (univF s n st).1) e w') := fun W hW => universe_calls n st W hW hl
 clear h hl; generalize (univF s n st).1 = l at *; generalize (univF s n st).2 = st1 at *
 go_enter Tryz.func118, Tryz.ntmps118
 go_wp2_with (go_at_call 71; refine KM.out.mono ?_)
 rintro e W1 ⟨eb, A, c, rfl, hle, hblk, -, hB1⟩; have KU := hide (HU.out W1 (H.out.later hB1)); have HB1 := hide hB1; have HBk := hide hblk; have hel : eb < W1.heap.size := (Array.getElem?_eq_some_iff.1 hblk).1
 clear hB1 hblk KM HU
 go_wp2_with (go_at_call 124; refine KU.out.mono ?_)
 intro e W2 h2
 rcases h2 with ⟨hc2, ⟨k2, nm2, A2, n2, c2, rfl, hI2⟩, hR2, hT2⟩ | ⟨hc2, hth⟩
 rotate_left
 . have HF : Hid (RX w rb mv s st1 (ExR w (sortX a l)) e W2) := RX.bad hc2 hth (Touched.of_below HB1.out) (Bdn.refl _)
   obtain ⟨fb, rfl, -⟩ := hth
   go_wp2_with fail
   exact ⟨rfl, HF.out⟩
 have hblk := (hT2.at hel (by omega)).trans HBk.out; have z7 : W2.cell? ⟨eb, 7, none⟩ = some (.slice none 0 0) := cell_of hblk 7 rfl; have zf : ∀ i, W2.frozen? ⟨eb, i, none⟩ = false := fun i => frozen_of hblk i
 have zl : eb < W2.heap.size := (Array.getElem?_eq_some_iff.1 hblk).1; have hz1 := HB1.out.size; have hz2 := hT2.size
 have HF : Hid (RX w rb mv s st1 (ExR w (sortX a l)) (.returned (.pointer (some ⟨eb, 0, none⟩))) ((W2.setCell ⟨eb, 7, none⟩ (.slice (some ⟨W2.heap.size, 0, none⟩) 1 1)).alloc (.cells #[.int .i64 k2, .string nm2, .slice A2 n2 c2] 164))) := by
  have hzs : (W2.setCell ⟨eb, 7, none⟩ (.slice (some ⟨W2.heap.size, 0, none⟩) 1 1)).heap.size = W2.heap.size := by simp [World.setCell]
  have hT : Touched w rb ((W2.setCell ⟨eb, 7, none⟩ (.slice (some ⟨W2.heap.size, 0, none⟩) 1 1)).alloc (.cells #[.int .i64 k2, .string nm2, .slice A2 n2 c2] 164)) := ((((Touched.of_below HB1.out).trans hT2).setNew (a := ⟨eb, 7, none⟩) hle _)).trans (Touched.alloc _ _ _)
  refine .inl ⟨hc2, ⟨eb, rfl, hle, ⟨xcs 2 (a : Nat) ⟨#[]⟩ false false false false (.slice (some ⟨W2.heap.size, 0, none⟩) 1 1) (.slice A 0 c), ?_, ?_⟩⟩, H.out.next (hR2.rd.of_block ?_) hR2.ok hT, hT⟩
  . rw [Below.heap_alloc _ _ _ (by rw [hzs]; exact zl)]
    simp [World.setCell, Array.getElem?_modify, hblk]
  . refine InX.of (ls := [l]) (xs := []) ?_ (XsIn.nil _ _ _)
    have hI3 : InP (W2.setCell ⟨eb, 7, none⟩ (.slice (some ⟨W2.heap.size, 0, none⟩) 1 1)) (fun b => W1.heap.size <= b) l (.agg #[.int .i64 k2, .string nm2, .slice A2 n2 c2]) := hI2.keep fun b hb hS => ⟨hS, Below.heap_setCell _ _ _ _ (by show b ≠ eb; have : W1.heap.size <= b := hS; omega)⟩
    have := one_level (S' := fun b => w.heap.size <= b) hI3 (fun b _ hs => by have : W1.heap.size <= b := hs; omega) (by rw [hzs]; omega); rw [hzs] at this; exact this
  . rw [Below.heap_alloc _ _ _ (by rw [hzs]; exact hR2.lt), Below.heap_setCell _ _ _ _ (by show rb ≠ eb; omega)]
 clear hI2 hR2 hT2 hblk KU
 go_wp2_with fail
 go_ret; exact HF.out
theorem atBracket_calls (st : FS) (w : World) (h : Rdy w rb mv s st) : Calls Tryz.prog 41 #[.pointer (some ⟨rb, 0, none⟩)] w fun e w' => e = .returned (.bool (st.is sOpen || st.is sBrace)) /\ Below w.heap.size w w' := by
 obtain ⟨h0, c, k, t, r, hw, hp, hz⟩ := h.rd
 have hq : ∀ q, st.is q = (decide ((k : Int) = 3) && decide (t = q)) := fun q => by
  rw [hp.is h.ok.kd]; unfold FS.is; rw [h0]
  rfl
 have c1 := hw.c1; have c2 := hw.c2; have c3 := hw.c3; have K1 := hide (is_calls (k : Nat) (st.t.at_ : Nat) t sOpen w); have K2 := hide (fun W => is_calls (k : Nat) (st.t.at_ : Nat) t sBrace W)
 have hlat : ∀ W, Below w.heap.size w W -> W.cell? ⟨rb, 1, none⟩ = some (.int .i64 (k : Nat)) /\ W.cell? ⟨rb, 2, none⟩ = some (.int .i64 (st.t.at_ : Nat)) /\ W.cell? ⟨rb, 3, none⟩ = some (.string t) := fun W hb => ⟨cell_later hb c1, cell_later hb c2, cell_later hb c3⟩
 have HLa := hide hlat; rw [<- hq] at K1 K2; clear hw hp hq hlat h; generalize st.is sOpen = b1 at *; generalize st.is sBrace = b2 at *
 cases b1 with
 | true =>
   go_enter Tryz.func41, Tryz.ntmps41
   go_wp2_with (go_at_call 68; refine K1.out.mono ?_)
   first | (intro e W1 he hb1; subst he) | (rintro e W1 ⟨rfl, hb1⟩)
   have HB := hide hb1; clear hb1
   go_wp2_with fail
   go_ret; exact ⟨rfl, HB.out⟩
 | false =>
   go_enter Tryz.func41, Tryz.ntmps41
   go_wp2_with (go_at_call 68; refine K1.out.mono ?_)
   first | (intro e W1 he hb1; subst he) | (rintro e W1 ⟨rfl, hb1⟩)
   obtain ⟨d1, d2, d3⟩ := HLa.out W1 hb1; have HB := hide hb1; clear hb1 K1
   go_wp2_with (go_at_call 68; refine (K2.out _).mono ?_)
   first | (intro e W2 he hb2; subst he) | (rintro e W2 ⟨rfl, hb2⟩)
   have HB2 := hide (HB.out.trans (hb2.mono HB.out.size)); clear hb2
   go_wp2_with fail
   go_ret; exact ⟨by rw [Bool.false_or]; rfl, HB2.out⟩
theorem begins_eq {st : FS} (hc : st.code = 0) : begins st = (st.t.kd == 1 || (st.t.kd == 3 && (decide (st.t.t = sAt) || decide (st.t.t = sHole) || decide (st.t.t = wProp) || decide (st.t.t = wType) || decide (st.t.t = wSort) || decide (st.t.t = sOpen)))) := by
 unfold begins FS.is; rw [kin_eq hc, hc]
 cases (st.t.kd == 1) <;> cases (st.t.kd == 3) <;> simp
theorem digs_odd {t : ByteArray} (hd : Digs t) (h0 : 0 < t.size) : Odd t := by
 apply odd_digit
 have := hd (t.data.toList[0]'(by simpa using h0)) (List.getElem_mem _); rw [at_data t 0 h0]
 simpa [digitB] using this
theorem Rdy.odd {w : World} {st : FS} (h : Rdy w rb mv s st) : ∃ (k : Nat) (t : ByteArray), w.cell? ⟨rb, 1, none⟩ = some (.int .i64 (k : Nat)) /\ w.cell? ⟨rb, 3, none⟩ = some (.string t) /\ ((k : Int) == 1) = (st.t.kd == 1) /\ ((Odd t /\ st.t.kd ≠ 1 /\ st.t.kd ≠ 3) \/ ((st.t.kd = 1 \/ st.t.kd = 3) /\ t = st.t.t)) /\ t.size <= 200000 := by
 have hk4 := h.ok.kd; obtain ⟨h0, c, k, t, r, hw, hp, hz⟩ := h.rd; refine ⟨k, t, hw.c1, hw.c3, ?_, ?_, by have := h.hs; omega⟩
 . by_cases h3 : st.t.kd <= 3
   . rw [(hp.good h3).1, Bool.eq_iff_iff]; simp; omega
   . have := (hp.bad (by omega)).1
     rw [Bool.eq_iff_iff]; simp; omega
 . by_cases h13 : st.t.kd = 1 \/ st.t.kd = 3
   . exact .inr ⟨h13, (hp.good (by omega)).2.1⟩
   . refine .inl ⟨?_, by omega, by omega⟩
     by_cases h4 : st.t.kd = 4
     . exact (hp.bad h4).2
     . obtain ⟨rfl, rfl, _⟩ := hp.good (by omega)
       by_cases h2 : st.t.kd = 2
       . have := hp.num h2
         exact digs_odd this.1 this.2.1
       . obtain ⟨p, hf⟩ := h.ok.tok
         have h0 : st.t.kd = 0 := by omega
         have e1 : st.t.at_ = s.size := hf.fin h0; have e2 : st.t.t.size = st.e - st.t.at_ := hf.text; have e3 : st.e <= s.size := hf.le; have e4 : st.t.t.size = 0 := by omega
         refine ⟨?_, ?_, ?_, ?_, ?_, ?_, fun q hq e => ?_⟩
         any_goals (intro e; rw [e] at e4; revert e4; decide)
         have := tac_size hq; rw [<- e] at this; omega
theorem beforeAtom_calls (st : FS) (w : World) (h : Rdy w rb mv s st) : Calls Tryz.prog 108 #[.pointer (some ⟨rb, 0, none⟩)] w fun e w' => e = .returned (.bool (begins st)) /\ w' = w := by
 obtain ⟨k, t, c1, c3, hk, hcase, _⟩ := h.odd; have hb := begins_eq h.code
 by_cases hsix : t = sAt \/ t = sHole \/ t = wProp \/ t = wType \/ t = wSort \/ t = sOpen
 . have hbt : begins st = true := by
    rcases hcase with ⟨ho, _⟩ | ⟨h13, rfl⟩
    . obtain ⟨o1, o2, o3, o4, o5, o6, _⟩ := ho
      rcases hsix with e | e | e | e | e | e
      . exact absurd e o1
      . exact absurd e o2
      . exact absurd e o3
      . exact absurd e o4
      . exact absurd e o5
      . exact absurd e o6
    . rw [hb]
      rcases h13 with h1 | h1
      . rw [h1]; rfl
      . rw [h1]
        rcases hsix with e | e | e | e | e | e <;> (rw [e]; rfl)
   rw [hbt]; clear hb hcase hbt hk h
   rcases hsix with rfl | rfl | rfl | rfl | rfl | rfl <;>
   (go_enter Tryz.func108, Tryz.ntmps108
    go_wp2_with fail
    go_ret; exact ⟨rfl, rfl⟩)
 . have hbf : begins st = ((k : Int) == 1) := by
    rw [hb, hk]
    rcases hcase with ⟨_, h1, h3⟩ | ⟨h13, rfl⟩
    . rw [show (st.t.kd == 3) = false from by simpa using h3]; simp
    . simp only [not_or] at hsix
      obtain ⟨n1, n2, n3, n4, n5, n6⟩ := hsix
      simp [n1, n2, n3, n4, n5, n6]
   rw [hbf]
   simp only [not_or] at hsix
   obtain ⟨n1, n2, n3, n4, n5, n6⟩ := hsix; have m1 := sameLit_neg (l := [64]) n1; have m2 := sameLit_neg (l := [95]) n2; have m3 := sameLit_neg (l := [80, 114, 111, 112]) n3
   have m4 := sameLit_neg (l := [84, 121, 112, 101]) n4; have m5 := sameLit_neg (l := [83, 111, 114, 116]) n5; have m6 := sameLit_neg (l := [40]) n6; clear hb hcase hbf hk h n1 n2 n3 n4 n5 n6
   go_enter Tryz.func108, Tryz.ntmps108
   go_wp2_with fail
   go_ret; exact ⟨rfl, rfl⟩
end
def KL {α : Type} (P : World -> (Nat -> Prop) -> α -> Value -> Prop) (l : List α) (W : World) (S : Nat -> Prop) (j : Nat) (v : Value) : Prop := ∃ h : j < l.length, P W S l[j] v
def Keep1 {α : Type} (P : World -> (Nat -> Prop) -> α -> Value -> Prop) : Prop := ∀ W W' S S' x v, (∀ b, b < W.heap.size -> S b -> S' b /\ W'.heap[b]? = W.heap[b]?) -> P W S x v -> P W' S' x v
theorem KL.keeps {α : Type} {P : World -> (Nat -> Prop) -> α -> Value -> Prop} (hP : Keep1 P) (l : List α) : Keeps (KL P l) := fun _ _ _ _ _ _ h ⟨hj, hp⟩ => ⟨hj, hP _ _ _ _ _ _ h hp⟩
section
variable {α : Type} {P : World -> (Nat -> Prop) -> α -> Value -> Prop} {W w5 w6 : World} {T z n0 rb : Nat} {rv rv' : Value} {xs : List Value} {l : List α} {x : α} {a : Array Value} {o : Obj}
theorem GRow.snoc (hP : Keep1 P) (h : GRow (KL P l) W T z 0 n0 l.length rv xs) (hT : Touched W rb w5) (hrb : rb < n0) (hn0 : n0 <= W.heap.size) (hx : P w5 (fun b => W.heap.size <= b) x (.agg a)) (ha : a.size = z)
 (hown : w6.ownsRow n0 T z rv' (l.length + 1) (flat xs ++ a.toList)) (hgr : (w5.alloc o).grownBy w6 rv.ownBlock) (hpl : rv'.ownBlock = rv.ownBlock \/ rv'.ownBlock = some (w5.alloc o).heap.size) :
 GRow (KL P (l ++ [x])) w6 T z 0 n0 (l ++ [x]).length rv' (xs ++ [.agg a]) := by
 have h1 : GRow (KL P (l ++ [x])) w5 T z 0 n0 l.length rv xs := (h.touched (KL.keeps hP _) hT hrb).imp fun S j v hj ⟨hj', hv⟩ => ⟨by simp; omega, by rw [List.getElem_append_left hj']; exact hv⟩
 have hl : (l ++ [x]).length = l.length + 1 := by simp
 rw [hl]; refine GRow.pushO (KL.keeps hP _) h1 (m := W.heap.size) (w5 := w5) (o := o) (Nat.zero_le _) hn0 (fun g e => (h.own.lt g e).2) (Below.refl _ _) ⟨by simp, ?_⟩ ha hown hgr hpl
 have e1 : (l ++ [x])[l.length]'(by simp) = x := by rw [List.getElem_append_right (Nat.le_refl _)]; simp
 rw [e1]; exact hP _ _ _ _ _ _ (fun b _ hb => ⟨.inr hb, rfl⟩) hx
theorem GRow.one (hP : Keep1 P) (hn0 : n0 <= W.heap.size) (hx : P W (fun b => n0 <= b) x (.agg a)) (ha : a.size = z) : GRow (KL P [x]) (W.alloc (.cells a T)) T z 0 n0 1 (.slice (some ⟨W.heap.size, 0, none⟩) 1 1) [.agg a] := by
 refine ⟨?_, rfl, fun i hi => ?_, fun j hj => ?_⟩
 . have := World.ownsRow_lit (base := n0) (e := T) (size := z) W a 1 hn0 (by unfold maxLen; omega) (by omega)
   simpa [flat] using this
 . have : i = 0 := by simp at hi; omega
   subst this; exact ⟨a, rfl, ha⟩
 . have : j = 0 := by simp at hj; omega
   subst this; refine ⟨by simp, ?_⟩; refine hP _ _ _ _ _ _ (fun b hb hS => ⟨⟨.inr hS, ?_⟩, Below.heap_alloc _ _ _ hb⟩) hx; intro e; injection e with e; have e' : W.heap.size = b := e; omega
end
theorem keep_InP : Keep1 InP := fun _ _ _ _ _ _ h hp => hp.keep h
theorem Tryz.info164' : (Tryz.prog.info? 164).map (fun i => (i.zero, i.size, i.bytes)) = some (some (.agg #[.int .i64 0, .string ⟨#[]⟩, .slice none 0 0]), 3, 48) := by kernel_rfl
section
variable {rb : Nat} {mv : Value} {s : ByteArray}
def LsR (w : World) (ls : List LvB) (e : Ending) (w' : World) : Prop := ∃ (A : Option Addr) (c : Nat), e = .returned (.slice A ls.length c) /\ LvsIn w' (fun b => w.heap.size <= b) A ls
theorem levels_stop {n : Nat} {st : FS} (h : st.is sComma = false) (m : Nat) (ls : List LvB) : levelsN s n m ls st = (ls, st) := by
 cases m with
 | zero => rfl
 | succ m => simp only [levelsN]; rw [if_neg (by rw [h]; simp)]
structure LsSt (w : World) (rb : Nat) (mv : Value) (s : ByteArray) (ls : List LvB) (st : FS) (A : Option Addr) (c : Nat) (ys : List Value) (W : World) : Prop where
 row : GRow (KL InP ls) W 164 3 0 w.heap.size ls.length (.slice A ls.length c) ys
 rdy : Rdy W rb mv s st
 old : Touched w rb W
theorem LsSt.touched {w : World} {ls : List LvB} {st st' : FS} {A : Option Addr} {c : Nat} {ys : List Value} {W W' : World} (h : LsSt w rb mv s ls st A c ys W) (hR : Rdy W' rb mv s st') (hT : Touched W rb W') (h2 : rb < w.heap.size) : LsSt w rb mv s ls st' A c ys W' :=
 ⟨h.row.touched (KL.keeps keep_InP _) hT h2, hR, h.old.trans hT⟩
theorem levels_calls (n : Nat) (hn : n <= 1000000) (st : FS) (w : World) (h : Rdy w rb mv s st) (hl : st.left s < n) :
 Calls Tryz.prog 123 #[.pointer (some ⟨rb, 0, none⟩)] w fun e w' => RQ w rb mv s ((levelsN s n n [(levelN s n st).1] (levelN s n st).2).2.must s sUnbrace) (LsR w (levelsN s n n [(levelN s n st).1] (levelN s n st).2).1) e w' := by
 have H := hide h; have hlt := h.lt; have KL0 := hide (level_all n st w h hl); have hd := levelN_fwd n st h.ok; have HLe : Hid ((levelN s n st).2.left s < n) := hide (Nat.lt_of_le_of_lt hd.left hl); clear h hd hl
 generalize (levelN s n st).1 = l0 at *; generalize (levelN s n st).2 = st1 at *; obtain ⟨fin, hfin⟩ : ∃ fin, fin = levelsN s n n [l0] st1 := ⟨_, rfl⟩; rw [<- hfin]; have HFi := hide hfin
 obtain ⟨i0, hi, hz0, hz1, hz2⟩ := infoParts Tryz.info164'; clear hfin
 go_enter Tryz.func123, Tryz.ntmps123
 go_wp2_with (go_at_call 134; refine KL0.out.mono ?_)
 intro e W1 h1
 rcases h1 with ⟨hc1, ⟨k1, nm1, A1, n1, c1, rfl, hI1⟩, hR1, hT1⟩ | ⟨hc1, hth⟩
 rotate_left
 . have HF : Hid (RQ w rb mv s (fin.2.must s sUnbrace) (LsR w fin.1) e W1) := RQ.bad hc1 hth (Touched.refl _ _) (by rw [HFi.out, levels_stop (is_bad hc1 _), must_bad hc1])
   obtain ⟨fb, rfl, -⟩ := hth
   go_wp2_with fail
   exact ⟨rfl, HF.out⟩
 have HS : Hid (LsSt w rb mv s [l0] st1 (some ⟨W1.heap.size, 0, none⟩) 1 [.agg #[.int .i64 k1, .string nm1, .slice A1 n1 c1]] (W1.alloc (.cells #[.int .i64 k1, .string nm1, .slice A1 n1 c1] 164))) :=
  ⟨GRow.one keep_InP hT1.size hI1 rfl, hR1.alloc _, hT1.trans (Touched.alloc _ _ _)⟩
 clear hI1 hR1 hT1 KL0
 go_wp2_with fail
 go_loopg [3] n (fun g v wr => ∃ (ls : List LvB) (st' : FS) (A : Option Addr) (c : Nat) (ys : List Value), v = .slice A ls.length c /\ Hid (levelsN s n g ls st' = fin) /\ Hid (st'.left s < g) /\ ls.length + g = n + 1 /\ Hid (LsSt w rb mv s ls st' A c ys wr))
 case atStart => exact ⟨[l0], st1, _, _, _, rfl, HFi.out.symm, HLe.out, by simp; omega, HS.out⟩
 case round =>
  clear HS HLe HFi; obtain ⟨ls, st', A, c, ys, rfl, HE, HLt, hlen, HS⟩ := hrel; obtain ⟨g', rfl⟩ : ∃ g', gk = g' + 1 := ⟨gk - 1, by have := HLt.out; omega⟩; have hok := HS.out.rdy.ok; have hco := HS.out.rdy.code
  have KT := hide (tookQ HS.out.rdy sComma)
  by_cases hp : st'.is sComma = true
  . have hkd := (FS.is_kd hp).2.1
    have hlef := FS.step_left hok hco (by omega) (by omega)
    have HE2 : Hid (levelsN s n g' (ls ++ [(levelN s n (st'.step s)).1]) (levelN s n (st'.step s)).2 = fin) := hide (by have := HE.out; simp only [levelsN] at this; rw [if_pos hp] at this; exact this)
    have hdn := levelN_fwd n (st'.step s) hok.step; have HL2 : Hid ((levelN s n (st'.step s)).2.left s < g') := hide (by have := hdn.left; have := HLt.out; omega)
    have HLv : Hid (∀ W, Rdy W rb mv s (st'.step s) -> Calls Tryz.prog 134 #[.pointer (some ⟨rb, 0, none⟩)] W fun e w' => RQ W rb mv s (levelN s n (st'.step s)).2 (LvR (fun b => W.heap.size <= b) (levelN s n (st'.step s)).1) e w') := fun W hW => level_all n _ W hW (by have := HLt.out; omega)
    rw [hp, if_pos rfl] at KT; clear hdn hlef hkd hp hok hco HE HLt; generalize (levelN s n (st'.step s)).1 = l2 at *; generalize (levelN s n (st'.step s)).2 = st2 at *; generalize st'.step s = sta at *
    go_wp2_with (go_at_call 38; refine KT.out.mono ?_)
    rintro e W3 ⟨rfl, hR3, hT3⟩; have HS3 := hide (HS.out.touched hR3 hT3 hlt); have KV := hide (HLv.out W3 hR3); clear hR3 hT3 KT HLv HS
    go_wp2_with (go_at_call 134; refine KV.out.mono ?_)
    intro e W4 h4
    rcases h4 with ⟨hc4, ⟨k4, nm4, A4, n4, c4, rfl, hI4⟩, hR4, hT4⟩ | ⟨hc4, hth⟩
    rotate_left
    . have HF : Hid (RQ w rb mv s (fin.2.must s sUnbrace) (LsR w fin.1) e W4) := RQ.bad hc4 hth HS3.out.old (by rw [<- HE2.out, levels_stop (is_bad hc4 _), must_bad hc4])
      obtain ⟨fb, rfl, -⟩ := hth
      go_wp2_with fail
      exact ⟨rfl, HF.out⟩
    have HO4 := hide ((HS3.out.row.touched (KL.keeps keep_InP _) hT4 hlt).own.alloc (.cells #[.int .i64 k4, .string nm4, .slice A4 n4 c4] 164)); have hz3 := HS3.out.old.size; have hz4 := hT4.size; have HI4 := hide hI4
    have HR4 := hide hR4; have HT4 := hide hT4; clear hI4 hR4 hT4 KV
    go_wp2_with (at_builtin; refine wpList_append_placed _ rfl _ _ 56 rfl w.heap.size 164 i0 _ 3 48 Tryz.underlying56 hi hz0 hz1 hz2 rfl (by decide) (.slice A ls.length c) ls.length (flat ys) rfl HO4.out ⟨W4.heap.size, 0, none⟩ 1 1 [.int .i64 k4, .string nm4, .slice A4 n4 c4] rfl rfl (cells_new _ [.int .i64 k4, .string nm4, .slice A4 n4 c4] _) (by intro u hu; simp at hu; rcases hu with rfl | rfl | rfl <;> rfl) (by decide) (by unfold maxLen; omega) (by omega) (by simp; omega) ?_)
    intro v' w6 hown6 hgr6 hpl6; have hG := GRow.snoc keep_InP HS3.out.row HT4.out hlt hz3 HI4.out rfl hown6 hgr6 (by simpa using hpl6); obtain ⟨A6, c6, hv6⟩ := own_row_slice hown6; subst hv6
    have HS6 : Hid (LsSt w rb mv s (ls ++ [l2]) st2 A6 c6 (ys ++ [.agg #[.int .i64 k4, .string nm4, .slice A4 n4 c4]]) w6) := by
     have hT6 : Touched w rb w6 := by
      refine ⟨hgr6.os.trans (HT4.out.os.trans HS3.out.old.os), hgr6.tape.trans (HT4.out.tape.trans HS3.out.old.tape), hgr6.output.trans (HT4.out.output.trans HS3.out.old.output), by have := hgr6.size; simp at this; omega, fun b hb hne => ?_⟩
      rw [hgr6.block b (by simp; omega) (fun e => by have := (HS3.out.row.own.lt _ e.symm).1; omega), Below.heap_alloc _ _ _ (by omega), HT4.out.block b (by omega) hne]; exact HS3.out.old.block b hb hne
     refine ⟨by have := hG; simpa using this, H.out.next (HR4.out.rd.of_block ?_) HR4.out.ok hT6, hT6⟩
     rw [hgr6.block rb (by simp; omega) (fun e => by have := (HS3.out.row.own.lt _ e.symm).1; omega), Below.heap_alloc _ _ _ HR4.out.lt]
    clear hown6 hgr6 hpl6 hG HO4 HI4 HR4 HT4
    go_wp2_with fail
    go_roundg g'
    case measure => omega
    case rel => exact ⟨ls ++ [l2], st2, A6, c6, _, by simp, HE2.out, HL2.out, by simp; omega, HS6.out⟩
  . have hp' : st'.is sComma = false := by simpa using hp
    have hfi : fin = (ls, st') := by rw [<- HE.out, levels_stop hp']
    rw [hp', if_neg (by simp)] at KT; subst hfi; clear HE HLt hp hp' hok hco
    go_wp2_with (go_at_call 38; refine KT.out.mono ?_)
    rintro e W3 ⟨rfl, hR3, hT3⟩; have HS3 := hide (HS.out.touched hR3 hT3 hlt); have KE := hide (expectQ hR3 sUnbrace); clear hR3 hT3 KT HS
    go_wp2_with (go_at_call 29; refine KE.out.mono ?_)
    intro e W4 h4
    rcases h4 with ⟨hc4, rfl, hR4, hT4⟩ | ⟨hc4, hth⟩
    rotate_left
    . have HF : Hid (RQ w rb mv s (st'.must s sUnbrace) (LsR w ls) e W4) := RQ.bad hc4 hth HS3.out.old rfl
      obtain ⟨fb, rfl, -⟩ := hth
      go_wp2_with fail
      exact ⟨rfl, HF.out⟩
    have HF : Hid (RQ w rb mv s (st'.must s sUnbrace) (LsR w ls) (.returned (.slice A ls.length c)) W4) := by
     have hrow := HS3.out.row.touched (KL.keeps keep_InP _) hT4 hlt; obtain ⟨A', c', e', hL⟩ := GRow.levels (ls := ls) hrow; injection e' with e1 e2 e3; subst e1
     exact .inl ⟨hc4, ⟨A, c, rfl, hL.keep fun b _ hb => ⟨by rcases hb with hb | hb; omega; exact hb, rfl⟩⟩, hR4, HS3.out.old.trans hT4⟩
    clear hR4 hT4 KE HS3
    go_wp2_with fail
    go_ret; exact HF.out
end
section
variable {rb : Nat} {mv : Value} {s : ByteArray}
theorem Rdy.put {w W : World} {st0 st : FS} (h0 : Rdy w rb mv s st0) (h : Rdy W rb mv s st) (hT : Touched w rb W) {eb : Nat} (hle : w.heap.size <= eb) (i : Nat) (u : Value) : Rdy (W.setCell ⟨eb, i, none⟩ u) rb mv s st :=
 h0.next (h.rd.of_block (Below.heap_setCell _ _ _ _ (by show rb ≠ eb; have := h0.lt; omega))) h.ok (hT.setNew (a := ⟨eb, i, none⟩) hle u)
theorem set_xcs {W : World} {eb i : Nat} {v : Array Value} (h : W.heap[eb]? = some (.cells v 59 (0, 0))) (u : Value) : (W.setCell ⟨eb, i, none⟩ u).heap[eb]? = some (.cells (v.setIfInBounds i u) 59 (0, 0)) := by
 simp [World.setCell, Array.getElem?_modify, h]
theorem called_calls (n a : Nat) (hn : n <= 1000000) (st : FS) (w : World) (h : Rdy w rb mv s st) (hl : st.left s <= n) :
 Calls Tryz.prog 117 #[.pointer (some ⟨rb, 0, none⟩), .int .i64 (a : Nat)] w fun e w' => RQ w rb mv s (nameX s n a (st.is sAt) (if st.is sAt = true then st.step s else st)).2 (ExR w (nameX s n a (st.is sAt) (if st.is sAt = true then st.step s else st)).1) e w' := by
 have H := hide h; have hlt := h.lt; have KT := hide (tookQ h sAt); have hok0 : (if st.is sAt = true then st.step s else st).Ok s := by split; exact h.ok.step; exact h.ok
 have hle0 : (if st.is sAt = true then st.step s else st).left s <= n := by
  split
  . exact Nat.le_trans (FS.step_le h.ok) hl
  . exact hl
 generalize st.is sAt = ex at *; generalize (if ex = true then st.step s else st) = st0 at *
 have HNm : Hid (∀ W, Rdy W rb mv s st0 -> Calls Tryz.prog 26 #[.pointer (some ⟨rb, 0, none⟩)] W fun e w' => RQ W rb mv s (st0.name s).2 (fun e _ => e = .returned (.agg #[.int .i64 1, .int .i64 (st0.t.at_ : Nat), .string (st0.name s).1])) e w') := fun W hW => nameQ hW
 have hdn : Dn s st0 (st0.name s).2 := (Dn.refl hok0).name; have hle1 : (st0.name s).2.left s <= n := Nat.le_trans hdn.left hle0; have hok1 := hdn.ok; obtain ⟨fin, hfin⟩ : ∃ fin, fin = nameX s n a ex st0 := ⟨_, rfl⟩
 have HFin : Hid (fin = if (st0.name s).2.is sLevels = true then (.node 1 a (st0.name s).1 ex true false false (levelsN s n n [(levelN s n ((st0.name s).2.step s)).1] (levelN s n ((st0.name s).2.step s)).2).1 [], (levelsN s n n [(levelN s n ((st0.name s).2.step s)).1] (levelN s n ((st0.name s).2.step s)).2).2.must s sUnbrace) else (.node 1 a (st0.name s).1 ex false false false [] [], (st0.name s).2)) := hfin
 rw [<- hfin]; clear h hfin hdn hok0 hle0 hl; generalize (st0.name s).1 = nm at *; generalize (st0.name s).2 = st1 at *; generalize st0.t.at_ = ta at *
 have hfd : ∀ (w : World), (Instr.field 46 (.agg #[.int .i64 1, .int .i64 (ta : Nat), .string nm]) 2).run Tryz.prog w = .ok (.string nm) w := fun w => by kernel_rfl
 go_enter Tryz.func117, Tryz.ntmps117
 go_wp2_with (go_at_call 38; refine KT.out.mono ?_)
 rintro e W0 ⟨rfl, hR0, hT0⟩; have KN := hide (HNm.out W0 hR0); have HT0 := hide hT0; clear hR0 hT0 KT HNm
 go_wp2_with (go_at_call 26; refine KN.out.mono ?_)
 intro e W1 h1
 rcases h1 with ⟨hc1, rfl, hR1, hT1⟩ | ⟨hc1, hth⟩
 rotate_left
 . have HF : Hid (RQ w rb mv s fin.2 (ExR w fin.1) e W1) := RQ.bad hc1 hth HT0.out (by rw [HFin.out, if_neg (by rw [is_bad hc1]; simp)])
   obtain ⟨fb, rfl, -⟩ := hth
   go_wp2_with fail
   exact ⟨rfl, HF.out⟩
 have KM := hide (nil_made 1 a nm W1); have HT1 := hide (HT0.out.trans hT1); have HR1 := hide hR1; have hz1 := HT1.out.size; clear hR1 hT1 KN HT0
 go_wp2_with (go_at_call 71; refine KM.out.mono ?_)
 rintro e W2 ⟨eb, A, c, rfl, hle, hblk, -, hB2⟩; have hle' : w.heap.size <= eb := by omega
 have z3 : W2.cell? ⟨eb, 3, none⟩ = some (.bool false) := cell_of hblk 3 rfl; have zf : ∀ i, W2.frozen? ⟨eb, i, none⟩ = false := fun i => frozen_of hblk i
 have zl : eb < W2.heap.size := (Array.getElem?_eq_some_iff.1 hblk).1; have hT2 := HT1.out.later hB2; have hR3 := H.out.put (HR1.out.later hB2) hT2 hle' 3 (.bool ex)
 have hT3 := hT2.setNew (a := ⟨eb, 3, none⟩) hle' (.bool ex); have hblk3 := set_xcs (i := 3) hblk (.bool ex); have hrb : rb ≠ eb := by omega
 clear hblk hB2 hT2 KM HT1 HR1
 go_wp2_with fail
 generalize W2.setCell ⟨eb, 3, none⟩ (.bool ex) = W3 at *; have KT4 := hide (tookQ hR3 sLevels); have HT3 := hide hT3; have HB3 := hide hblk3; have hel3 : eb < W3.heap.size := (Array.getElem?_eq_some_iff.1 hblk3).1
 clear hR3 hT3 hblk3 z3 zf zl
 by_cases hq : st1.is sLevels = true
 . have hkd := (FS.is_kd hq).2.1
   have hlef := FS.step_left hok1 hc1 (by omega) (by omega)
   have HFi : Hid (fin = (.node 1 a nm ex true false false (levelsN s n n [(levelN s n (st1.step s)).1] (levelN s n (st1.step s)).2).1 [], (levelsN s n n [(levelN s n (st1.step s)).1] (levelN s n (st1.step s)).2).2.must s sUnbrace)) := hide (by rw [HFin.out, if_pos hq])
   have HLs : Hid (∀ W, Rdy W rb mv s (st1.step s) -> Calls Tryz.prog 123 #[.pointer (some ⟨rb, 0, none⟩)] W fun e w' => RQ W rb mv s ((levelsN s n n [(levelN s n (st1.step s)).1] (levelN s n (st1.step s)).2).2.must s sUnbrace) (LsR W (levelsN s n n [(levelN s n (st1.step s)).1] (levelN s n (st1.step s)).2).1) e w') := fun W hW => levels_calls n hn _ W hW (by omega)
   rw [hq, if_pos rfl] at KT4; clear HFin hkd hlef hq hok1 hle1; generalize (levelsN s n n [(levelN s n (st1.step s)).1] (levelN s n (st1.step s)).2).1 = ls at *
   generalize (levelsN s n n [(levelN s n (st1.step s)).1] (levelN s n (st1.step s)).2).2.must s sUnbrace = st3 at *; generalize st1.step s = st2 at *
   go_wp2_with (go_at_call 38; refine KT4.out.mono ?_)
   rintro e W4 ⟨rfl, hR4, hT4⟩; have hblk4 := (hT4.at hel3 (Ne.symm hrb)).trans HB3.out; have z4 : W4.cell? ⟨eb, 4, none⟩ = some (.bool false) := cell_of hblk4 4 rfl
   have zf : ∀ i, W4.frozen? ⟨eb, i, none⟩ = false := fun i => frozen_of hblk4 i
   have zl : eb < W4.heap.size := (Array.getElem?_eq_some_iff.1 hblk4).1; have hT4' := HT3.out.trans hT4; have hR5 := H.out.put hR4 hT4' hle' 4 (.bool true)
   have hT5 := hT4'.setNew (a := ⟨eb, 4, none⟩) hle' (.bool true); have hblk5 := set_xcs (i := 4) hblk4 (.bool true); clear hblk4 hR4 hT4 hT4' KT4 HT3 HB3
   go_wp2_with fail
   generalize W4.setCell ⟨eb, 4, none⟩ (.bool true) = W5 at *; have KLs := hide (HLs.out W5 hR5); have HT5 := hide hT5; have HB5 := hide hblk5; have hel5 : eb < W5.heap.size := (Array.getElem?_eq_some_iff.1 hblk5).1
   clear hR5 hT5 hblk5 HLs z4 zf zl
   go_wp2_with (go_at_call 123; refine KLs.out.mono ?_)
   intro e W6 h6
   rcases h6 with ⟨hc6, ⟨A6, c6, rfl, hL6⟩, hR6, hT6⟩ | ⟨hc6, hth⟩
   rotate_left
   . have HF : Hid (RQ w rb mv s fin.2 (ExR w fin.1) e W6) := RQ.bad hc6 hth HT5.out (by rw [HFi.out])
     obtain ⟨fb, rfl, -⟩ := hth
     go_wp2_with fail
     exact ⟨rfl, HF.out⟩
   have hblk6 := (hT6.at hel5 (Ne.symm hrb)).trans HB5.out; have z7 : W6.cell? ⟨eb, 7, none⟩ = some (.slice none 0 0) := cell_of hblk6 7 rfl
   have zf : ∀ i, W6.frozen? ⟨eb, i, none⟩ = false := fun i => frozen_of hblk6 i
   have zl : eb < W6.heap.size := (Array.getElem?_eq_some_iff.1 hblk6).1; have hz5 := HT5.out.size
   have HF : Hid (RQ w rb mv s fin.2 (ExR w fin.1) (.returned (.pointer (some ⟨eb, 0, none⟩))) (W6.setCell ⟨eb, 7, none⟩ (.slice A6 ls.length c6))) := by
    rw [HFi.out]; have hT7 := HT5.out.trans hT6; refine .inl ⟨hc6, ⟨eb, rfl, hle', ⟨_, set_xcs hblk6 _, ?_⟩⟩, H.out.put hR6 hT7 hle' 7 _, hT7.setNew (a := ⟨eb, 7, none⟩) hle' _⟩
    exact InX.of (xs := []) (hL6.keep fun b hb hs => ⟨by have : W5.heap.size <= b := hs; omega, Below.heap_setCell _ _ _ _ (by show b ≠ eb; have : W5.heap.size <= b := hs; omega)⟩) (XsIn.nil _ _ _)
   clear hL6 hR6 hT6 hblk6 KLs
   go_wp2_with fail
   go_ret; exact HF.out
 . have hq' : st1.is sLevels = false := by simpa using hq
   have HFi : Hid (fin = (.node 1 a nm ex false false false [] [], st1)) := hide (by rw [HFin.out, if_neg hq]); rw [hq', if_neg (by simp)] at KT4; clear HFin hq hq' hok1 hle1
   go_wp2_with (go_at_call 38; refine KT4.out.mono ?_)
   rintro e W4 ⟨rfl, hR4, hT4⟩
   have HF : Hid (RQ w rb mv s fin.2 (ExR w fin.1) (.returned (.pointer (some ⟨eb, 0, none⟩))) W4) := by
    rw [HFi.out]; refine .inl ⟨hc1, ⟨eb, rfl, hle', ⟨_, (hT4.at hel3 (Ne.symm hrb)).trans HB3.out, ?_⟩⟩, hR4, HT3.out.trans hT4⟩; exact InX.of (ls := []) (xs := []) (LvsIn.nil _ _ _) (XsIn.nil _ _ _)
   clear hR4 hT4 KT4
   go_wp2_with fail
   go_ret; exact HF.out
end
section
variable {rb : Nat} {mv : Value} {s : ByteArray}
def ExprC (rb : Nat) (mv : Value) (s : ByteArray) (n : Nat) : Prop := ∀ (st : FS) (w : World), Rdy w rb mv s st -> st.left s < n -> Calls Tryz.prog 30 #[.pointer (some ⟨rb, 0, none⟩)] w fun e w' => RX w rb mv s (exprN s n st).2 (ExR w (exprN s n st).1) e w'
theorem ExR.ret {w : World} {x : Ex} (e : Ending) (w' : World) (h : ExR w x e w') : ∃ v, e = .returned v := by obtain ⟨_, h, _⟩ := h; exact ⟨_, h⟩
theorem XP.rest {w W W' : World} {eb : Nat} {x : Ex} (h : XP W (fun b => w.heap.size <= b) eb x) (hT : Touched W rb W') (hr : rb < w.heap.size) (he : w.heap.size <= eb) : XP W' (fun b => w.heap.size <= b) eb x :=
 h.keep (hT.at h.lt (by omega)) fun b hb hs => ⟨hs, hT.at hb (by have : w.heap.size <= b := hs; omega)⟩
theorem XP.wide {w w0 W : World} {eb : Nat} {x : Ex} (h : XP W (fun b => w.heap.size <= b) eb x) (hz : w0.heap.size <= w.heap.size) : XP W (fun b => w0.heap.size <= b) eb x :=
 h.keep rfl fun b _ hs => ⟨by have : w.heap.size <= b := hs; omega, rfl⟩
theorem bracketed_calls (n a : Nat) (ih : ExprC rb mv s n) (st : FS) (w : World) (h : Rdy w rb mv s st) (hl : st.left s < n) :
 Calls Tryz.prog 116 #[.pointer (some ⟨rb, 0, none⟩), .int .i64 (a : Nat)] w fun e w' => RX w rb mv s (bracketX s (exprN s n) a st).2 (ExR w (bracketX s (exprN s n) a st).1) e w' := by
 have H := hide h; have hlt := h.lt; have KE := hide (ih st w h hl); have hd := exprN_fwd n st h.ok; have hok1 := hd.ok; have hle1 : (exprN s n st).2.left s < n := Nat.lt_of_le_of_lt hd.left hl
 obtain ⟨fin, hfin⟩ : ∃ fin, fin = bracketX s (exprN s n) a st := ⟨_, rfl⟩
 have HBad : Hid (Bdn (exprN s n st).2 fin.2) := hide (fun hb => by
  rw [hfin]; unfold bracketX
  simp only
  rw [if_neg (by rw [hb.is]; simp)]; exact bdn_must (s := s) _ _ hb)
 have HFin : Hid (fin = if (exprN s n st).2.is sColon = true then (.node 8 a ⟨#[]⟩ false false false false [] [(exprN s n st).1, (exprN s n ((exprN s n st).2.step s)).1], (exprN s n ((exprN s n st).2.step s)).2.must s sShut) else ((exprN s n st).1, (exprN s n st).2.must s sShut)) := hfin
 rw [<- hfin]; clear h hfin hd hl; generalize (exprN s n st).1 = x1 at *; generalize (exprN s n st).2 = st1 at *
 go_enter Tryz.func116, Tryz.ntmps116
 go_wp2_with (go_at_call 30; refine KE.out.mono ?_)
 intro e W1 h1
 rcases h1 with ⟨hc1, ⟨e1, rfl, hl1, hx1⟩, hR1, hT1⟩ | ⟨hc1, hth⟩
 rotate_left
 . have HF : Hid (RX w rb mv s fin.2 (ExR w fin.1) e W1) := RX.bad hc1 hth (Touched.refl _ _) HBad.out
   obtain ⟨fb, rfl, -⟩ := hth
   go_wp2_with fail
   exact ⟨rfl, HF.out⟩
 have KT := hide (tookQ hR1 sColon); have HX1 := hide hx1; have HT1 := hide hT1; clear hx1 hR1 hT1 KE
 by_cases hq : st1.is sColon = true
 . have hkd := (FS.is_kd hq).2.1
   have hlef := FS.step_left hok1 hc1 (by omega) (by omega)
   have HFi : Hid (fin = (.node 8 a ⟨#[]⟩ false false false false [] [x1, (exprN s n (st1.step s)).1], (exprN s n (st1.step s)).2.must s sShut)) := hide (by rw [HFin.out, if_pos hq])
   have HIH : Hid (∀ W, Rdy W rb mv s (st1.step s) -> Calls Tryz.prog 30 #[.pointer (some ⟨rb, 0, none⟩)] W fun e w' => RX W rb mv s (exprN s n (st1.step s)).2 (ExR W (exprN s n (st1.step s)).1) e w') := fun W hW => ih _ W hW (by omega)
   rw [hq, if_pos rfl] at KT; clear HFin HBad hq hkd hlef hok1 hle1 ih; generalize (exprN s n (st1.step s)).1 = x2 at *; generalize (exprN s n (st1.step s)).2 = st2 at *; generalize st1.step s = sta at *
   go_wp2_with (go_at_call 38; refine KT.out.mono ?_)
   rintro e W2 ⟨rfl, hR2, hT2⟩; have KE := hide (HIH.out W2 hR2); have HT2 := hide (HT1.out.trans hT2); have HX2 := hide (HX1.out.rest hT2 hlt hl1); clear hR2 hT2 KT HIH HX1 HT1
   go_wp2_with (go_at_call 30; refine KE.out.mono ?_)
   intro e W3 h3
   rcases h3 with ⟨hc3, ⟨e3, rfl, hl3, hx3⟩, hR3, hT3⟩ | ⟨hc3, hth⟩
   rotate_left
   . have HF : Hid (RX w rb mv s fin.2 (ExR w fin.1) e W3) := RX.bad hc3 hth HT2.out (by rw [HFi.out]; exact bdn_must (s := s) _ _)
     obtain ⟨fb, rfl, -⟩ := hth
     go_wp2_with fail
     exact ⟨rfl, HF.out⟩
   have hz2 := HT2.out.size; have hz3 := hT3.size; have hB : Below W3.heap.size W3 (W3.alloc (.cells #[.pointer (some ⟨e1, 0, none⟩), .pointer (some ⟨e3, 0, none⟩)] 88)) := (Below.refl _ _).alloc (Nat.le_refl _) _
   have KM := hide (made_calls 8 a ⟨#[]⟩ [x1, x2] (fun i => if i = 0 then e1 else e3) (some ⟨W3.heap.size, 0, none⟩) 2 (W3.alloc (.cells #[.pointer (some ⟨e1, 0, none⟩), .pointer (some ⟨e3, 0, none⟩)] 88)) (by simp) (fun i hi => ⟨W3.heap.size, rfl, two_ptrs i hi⟩) (fun b => w.heap.size <= b) (fun i hi => by
    match i, hi with
    | 0, _ => exact (HX2.out.rest hT3 hlt hl1).later hB
    | 1, _ => exact (hx3.wide hz2).later hB))
   have HR3 := hide (hR3.later hB); have HT3 := hide ((HT2.out.trans hT3).later hB); clear hx3 hR3 hT3 hB KE HX2 HT2
   go_wp2_with (go_at_call 71; refine KM.out.mono ?_)
   intro e W4 h4; obtain ⟨e4, rfl, hl4, hx4, hB4⟩ := h4.xp; have hl4' : w.heap.size <= e4 := by simp at hl4; omega
   have KX := hide (expectQ (HR3.out.later hB4) sShut); have HT4 := hide (HT3.out.later hB4)
   have HX4 : Hid (XP W4 (fun b => w.heap.size <= b) e4 (.node 8 a ⟨#[]⟩ false false false false [] [x1, x2])) := hx4.keep rfl fun b _ hs => ⟨by rcases hs with hs | hs; exact hs; simp at hs; omega, rfl⟩
   clear h4 hx4 hB4 KM HR3 HT3
   go_wp2_with (go_at_call 29; refine KX.out.mono ?_)
   intro e W5 h5
   rcases h5 with ⟨hc5, rfl, hR5, hT5⟩ | ⟨hc5, hth⟩
   rotate_left
   . have HF : Hid (RX w rb mv s fin.2 (ExR w fin.1) e W5) := RX.bad (lost_of hc5) (by rw [fp_of hc5]; exact hth) HT4.out (by rw [HFi.out]; exact Bdn.refl _)
     obtain ⟨fb, rfl, -⟩ := hth
     go_wp2_with fail
     exact ⟨rfl, HF.out⟩
   have HF : Hid (RX w rb mv s fin.2 (ExR w fin.1) (.returned (.pointer (some ⟨e4, 0, none⟩))) W5) := by
    rw [HFi.out]; exact .inl ⟨hc5, ⟨e4, rfl, hl4', HX4.out.rest hT5 hlt hl4'⟩, hR5, HT4.out.trans hT5⟩
   clear hR5 hT5 KX HX4 HT4
   go_wp2_with fail
   go_ret; exact HF.out
 . have hq' : st1.is sColon = false := by simpa using hq
   have HFi : Hid (fin = (x1, st1.must s sShut)) := hide (by rw [HFin.out, if_neg hq]); rw [hq', if_neg (by simp)] at KT; clear HFin HBad hq hq' hok1 hle1 ih
   go_wp2_with (go_at_call 38; refine KT.out.mono ?_)
   rintro e W4 ⟨rfl, hR4, hT4⟩; have KX := hide (expectQ hR4 sShut); have HT4 := hide (HT1.out.trans hT4); have HX4 := hide (HX1.out.rest hT4 hlt hl1); clear hR4 hT4 KT HX1 HT1
   go_wp2_with (go_at_call 29; refine KX.out.mono ?_)
   intro e W5 h5
   rcases h5 with ⟨hc5, rfl, hR5, hT5⟩ | ⟨hc5, hth⟩
   rotate_left
   . have HF : Hid (RX w rb mv s fin.2 (ExR w fin.1) e W5) := RX.bad (lost_of hc5) (by rw [fp_of hc5]; exact hth) HT4.out (by rw [HFi.out]; exact Bdn.refl _)
     obtain ⟨fb, rfl, -⟩ := hth
     go_wp2_with fail
     exact ⟨rfl, HF.out⟩
   have HF : Hid (RX w rb mv s fin.2 (ExR w fin.1) (.returned (.pointer (some ⟨e1, 0, none⟩))) W5) := by
    rw [HFi.out]; exact .inl ⟨hc5, ⟨e1, rfl, hl1, HX4.out.rest hT5 hlt hl1⟩, hR5, HT4.out.trans hT5⟩
   clear hR5 hT5 KX HX4 HT4
   go_wp2_with fail
   go_ret; exact HF.out
theorem atom_cases {n : Nat} {E : FS -> Ex × FS} {st : FS} (hc : st.code = 0) :
 (st.is sOpen = true -> atomF s n E st = bracketX s E st.t.at_ (st.step s)) /\
 (st.is sOpen = false -> st.is sHole = true -> atomF s n E st = (holeX st.t.at_, st.step s)) /\
 (st.is sOpen = false -> st.is sHole = false -> (st.kin 1 = true \/ st.is sAt = true) -> atomF s n E st = nameX s n st.t.at_ (st.is sAt) (if st.is sAt = true then st.step s else st)) /\
 (st.is sOpen = false -> st.is sHole = false -> st.kin 1 = false -> st.is sAt = false -> (atomF s n E st).2 = (univF s n st).2 /\ ((univF s n st).2.code = 0 -> (atomF s n E st).1 = sortX st.t.at_ (univF s n st).1)) := by
 have key : ∀ q r : ByteArray, st.is q = true -> q ≠ r -> st.is r = false := fun q r h hne => is_other h hne
 have k1 : ∀ q, st.is q = true -> st.kin 1 = false := fun q h => by rw [kin_eq hc, (FS.is_kd h).2.1]; rfl
 refine ⟨fun h => ?_, fun h0 h => ?_, fun h0 h1 h => ?_, fun h0 h1 h2 h3 => ?_⟩
 . unfold atomF
   simp only [k1 _ h, key _ sAt h (by decide), key _ sHole h (by decide), key _ wProp h (by decide), key _ wType h (by decide), key _ wSort h (by decide), h]
   rfl
 . unfold atomF
   simp only [k1 _ h, key _ sAt h (by decide), h]
   rfl
 . unfold atomF
   by_cases hk : st.kin 1 = true
   . have hA : st.is sAt = false := by
      cases e : st.is sAt
      . rfl
      . rw [k1 _ e] at hk; cases hk
     rw [if_pos hk, hA, if_neg (by simp)]
   . have hA : st.is sAt = true := by rcases h with h | h; exact absurd h hk; exact h
     rw [if_neg hk, if_pos hA, hA, if_pos rfl]
 . unfold atomF univF
   simp only [h0, h1, h2, h3]
   by_cases hp : st.is wProp = true
   . simp [hp]
   . have hp' : st.is wProp = false := by simpa using hp
     by_cases ht : st.is wType = true
     . simp only [hp', ht]
       by_cases hk : (st.step s).kin 2 = true
       . simp [hk]
       . have hk' : (st.step s).kin 2 = false := by simpa using hk
         simp [hk']
     . have ht' : st.is wType = false := by simpa using ht
       by_cases hs' : st.is wSort = true
       . simp [hp', ht', hs']
       . have hs'' : st.is wSort = false := by simpa using hs'
         simp only [hp', ht', hs'']
         refine ⟨rfl, fun h => ?_⟩
         simp [FS.fail, hc] at h
end
end Go.Proofs.YtockffblncdikaaGreatDoor
