/- The contract of expr. -/
import Derived.Test.YtockffblncdikaaGreatDoorMd
import Derived.Test.YtockffblncdikaaGreatDoorFn
import Derived.Deep.RegionHeld3
namespace Go.Proofs.YtockffblncdikaaGreatDoor
open Go.RowKit Go.Shelf
set_option maxRecDepth 100000
set_option maxHeartbeats 16000000
theorem range_block {w W : World} {b o : Nat} {l : List Value} (hb : W.heap[b]? = w.heap[b]?) (h : w.rangeAt b o l) : W.rangeAt b o l := fun j u hj => (World.cell?_of_block hb).trans (h j u hj)
attribute [local go_sem ↓] ld43_eq st43_eq
theorem made2_calls (kd a : Nat) (nm : ByteArray) (xs : List Ex) (pb po : Nat -> Nat) (P : Option Addr) (pc : Nat) (w : World) (hn : xs.length <= 3) (hP : ∀ i, i < xs.length -> ∃ vb, P = some ⟨vb, 0, none⟩ /\ w.cell? ⟨vb, i, none⟩ = some (.pointer (some ⟨pb i, po i, none⟩)))
 (S : Nat -> Prop) (hx : ∀ i (h : i < xs.length), ∃ pv : Array Value, w.rangeAt (pb i) (po i) pv.toList /\ pb i < w.heap.size /\ InX w S xs[i] pv) :
 Calls Tryz.prog 71 #[.int .i64 (kd : Nat), .int .i64 (a : Nat), .string nm, .slice P xs.length pc] w fun e w' => MadeX w S kd a nm xs e w' := by
 have HP := hide hP; have HX := hide hx; have KG := hide (xgrow_calls xs.length (w.alloc (.cells (xcs (kd : Nat) (a : Nat) nm false false false false (.slice none 0 0) (.slice none 0 0)) 59)) (by omega)); clear hP hx
 go_enter Tryz.func71, Tryz.ntmps71
 go_wp2_with (go_at_call 86; refine KG.out.mono ?_)
 rintro e W1 ⟨A0, c0, rfl, hrow0, hB0⟩; have hblk := (hB0.block w.heap.size (by simp)).trans (heap_alloc_new w (.cells (xcs (kd : Nat) (a : Nat) nm false false false false (.slice none 0 0) (.slice none 0 0)) 59))
 have e8 : W1.cell? ⟨w.heap.size, 8, none⟩ = some (.slice none 0 0) := cell_of hblk 8 rfl; have ef : ∀ i, W1.frozen? ⟨w.heap.size, i, none⟩ = false := fun i => frozen_of hblk i
 have el : w.heap.size < W1.heap.size := (Array.getElem?_eq_some_iff.1 hblk).1
 have HSt : Hid (MdSt w S kd a nm xs pb P 0 A0 c0 [] (W1.setCell ⟨w.heap.size, 8, none⟩ (.slice A0 0 c0))) := by
  refine ⟨?_, ?_, ?_⟩
  . simp [World.setCell, Array.getElem?_modify, hblk]
  . refine GRow.set (XKR.keeps _ _) (GRow.begin ?_) (by omega) (Nat.le_refl _) _
    have := hrow0
    simpa using this
  . exact (((Below.refl _ _).alloc (Nat.le_refl _) _).trans (hB0.mono (by simp))).setCell (p := ⟨w.heap.size, 8, none⟩) (Nat.le_refl _) _
 obtain ⟨i0, hi, hz0, hz1, hz2⟩ := infoParts Tryz.info59'; clear hrow0 hB0 hblk KG
 go_wp2_with fail
 go_loopg [29] xs.length (fun g v wr => ∃ (k : Nat) (A : Option Addr) (c : Nat) (ys : List Value), k + g = xs.length /\ v = .int .i64 (k : Nat) /\ Hid (MdSt w S kd a nm xs pb P k A c ys wr))
 case atStart => exact ⟨0, A0, c0, [], by omega, rfl, HSt.out⟩
 case round =>
  clear HSt e8 ef el; obtain ⟨k, A, c, ys, hkg, rfl, HS⟩ := hrel; have hblk := HS.out.blk; have e8 : wr.cell? ⟨w.heap.size, 8, none⟩ = some (.slice A k c) := cell_of hblk 8 rfl
  have ef : ∀ i, wr.frozen? ⟨w.heap.size, i, none⟩ = false := fun i => frozen_of hblk i
  have el := HS.out.lt
  by_cases hk : k < xs.length
  . have hq : decide ((k : Int) < (xs.length : Int)) = true := by simp; omega
    obtain ⟨vb, rfl, hpv⟩ := HP.out k hk; have hpv' := cell_later (w := w) (W := wr) (HS.out.old) hpv; obtain ⟨pv, hpb, hpl, hpx⟩ := HX.out k hk; have hpb' := HS.out.old.block _ hpl; have hz9 := hpx.size
    have h1c := hpx.one
    go_wp2_with fail
    have L1 : (ld43 (.pointer (some ⟨pb k, po k, none⟩))).run Tryz.prog wr.drew = .ok (.agg pv) wr.drew := ld43_run (W := wr.drew) (range_block hpb' hpb) hz9
    have L2 : (ld43 (.pointer (some ⟨pb k, po k, none⟩))).run Tryz.prog (wr.alloc (.cells (xcs 0 0 ⟨#[]⟩ false false false false (.slice none 0 0) (.slice none 0 0)) 59)).drew = .ok (.agg pv) (wr.alloc (.cells (xcs 0 0 ⟨#[]⟩ false false false false (.slice none 0 0) (.slice none 0 0)) 59)).drew := ld43_run (W := (wr.alloc (.cells (xcs 0 0 ⟨#[]⟩ false false false false (.slice none 0 0) (.slice none 0 0)) 59)).drew) (range_block ((Below.heap_alloc _ _ _ (by have := HS.out.old.size; omega)).trans hpb') hpb) hz9
    have HO := hide HS.out.row.own.drew
    go_region_law (first
     | (refine step_append_own rfl (.tmp 36) (.tmp 41) 57 rfl (w.heap.size + 1) 59 i0 _ 9 88 Tryz.underlying57 hi hz0 hz1 hz2 rfl (by decide) (.slice A k c) k (flat ys) ?_ ?_ ⟨wr.heap.size, 0, none⟩ 1 1 [.int .i64 0, .int .i64 0, .string ⟨#[]⟩, .bool false, .bool false, .bool false, .bool false, .slice none 0 0, .slice none 0 0] ?_ rfl ?_ ?_ (by decide) ?_ ?_ ?_ ?_
        . rfl
        . exact HO.out.alloc _
        . rfl
        . exact cells_new _ _ _
        . intro u hu; simp at hu; rcases hu with rfl | rfl | rfl | rfl | rfl | rfl | rfl | rfl | rfl <;> rfl
        . unfold maxLen; omega
        . omega
        . simp; omega
        intro v' w6 hown6 hgr6 hpl6
        obtain ⟨g, cap', rfl, hgb⟩ : ∃ g cap', v' = .slice (some ⟨g, 0, none⟩) (k + 1) cap' /\ w.heap.size + 1 <= g := by
         rcases hown6.2 with ⟨_, h0⟩ | ⟨g, cap, _, e, hb, _⟩
         . omega
         . exact ⟨g, cap, e, hb⟩
        have hblk6 := (hgr6.block w.heap.size (by simp; omega) (fun e => by have := (HO.out.lt _ e.symm).1; omega)).trans ((Below.heap_alloc _ _ _ el).trans hblk)
        have z8 : w6.cell? ⟨w.heap.size, 8, none⟩ = some (.slice A k c) := cell_of hblk6 8 rfl; have zf : ∀ i, w6.frozen? ⟨w.heap.size, i, none⟩ = false := fun i => frozen_of hblk6 i
        have zl : w.heap.size < w6.heap.size := (Array.getElem?_eq_some_iff.1 hblk6).1; have hth : w6.there g (k * 9) pv.size := row_there hown6 (by omega); have ST1 := st43_run hth hz9 h1c
        have hpb6 := (hgr6.block (pb k) (by simp; have := HS.out.old.size; omega) (fun e => by have := (HO.out.lt _ e.symm).1; omega)).trans ((Below.heap_alloc _ _ _ (by have := HS.out.old.size; omega)).trans hpb')
        have L6 := ld43_run (W := w6) (range_block hpb6 hpb) hz9; have hkk : ((k : Nat) : Int) < ((k : Nat) : Int) + 1 := by omega
        have hth2 : (w6.setCell ⟨w.heap.size, 8, none⟩ (.slice (some ⟨g, 0, none⟩) (k + 1) cap')).there g (k * 9) pv.size := fun j hj => by
         have := hth j hj; have hb : (w6.setCell ⟨w.heap.size, 8, none⟩ (.slice (some ⟨g, 0, none⟩) (k + 1) cap')).heap[g]? = w6.heap[g]? := Below.heap_setCell _ _ _ _ (by show g ≠ w.heap.size; omega)
         rw [World.cell?_of_block hb, World.frozen?_of_block hb]; exact this
        have ST2 := st43_run hth2 hz9 h1c
        have hbs : (w6.setCells g (k * 9) pv.toList).heap[w.heap.size]? = w6.heap[w.heap.size]? := (setCells_below (B := w.heap.size + 1) (by omega) pv.toList (k * 9) (Below.refl _ w6)).block _ (by omega)
        have y8 : (w6.setCells g (k * 9) pv.toList).cell? ⟨w.heap.size, 8, none⟩ = some (.slice A k c) := (World.cell?_of_block hbs).trans z8
        have yf : ∀ i, (w6.setCells g (k * 9) pv.toList).frozen? ⟨w.heap.size, i, none⟩ = false := fun i => (World.frozen?_of_block hbs).trans (zf i)))
    all_goals
     have HN := hide (HS.out.next (w5 := wr.drew) hk hpx (Below.refl _ _).drew rfl hown6 hgr6 (by simpa using hpl6)); clear hown6 hgr6 hpl6 hblk6 L6 ST1 ST2 hth hth2 hpb6 hbs
     try rw [setCells_comm ⟨w.heap.size, 8, none⟩ _ g (by show w.heap.size ≠ g; omega)]
     go_wp2_with fail
     go_roundg (xs.length - (k + 1))
     case measure => omega
     case rel => exact ⟨k + 1, _, _, _, by omega, by go_num, HN.out⟩
  . have hke : k = xs.length := by omega
    subst hke
    go_wp2_with fail
    go_ret; obtain ⟨A', c', e', hX⟩ := HS.out.row.exprsR (fun b hb => .inr (by omega)); injection e' with e1 e2 e3; subst e1; refine ⟨w.heap.size, A, c, rfl, Nat.le_refl _, HS.out.blk, ?_, HS.out.old⟩
    exact hX.keep fun b hb hs => ⟨⟨hs.2, by omega⟩, rfl⟩
section
variable {rb : Nat} {mv : Value} {s : ByteArray}
def ExQ (n0 : Nat) (x : Ex) (e : Ending) (w' : World) : Prop := ∃ eb, e = .returned (.pointer (some ⟨eb, 0, none⟩)) /\ n0 <= eb /\ XP w' (fun b => n0 <= b) eb x
def underF (s : ByteArray) (n kd : Nat) (q : ByteArray) (p : List Bd × FS) : Ex × FS := (underX kd (some1 p).1 (exprN s n ((some1 p).2.must s q)).1, (exprN s n ((some1 p).2.must s q)).2)
theorem underX_drop (kd : Nat) (l : List Bd) (e : Ex) {m : Nat} (hm : m < l.length) : underX kd (l.drop m) e = .node kd l[m].at_ l[m].nm false false false l[m].im [] [l[m].ty, underX kd (l.drop (m + 1)) e] := by
 rw [List.drop_eq_getElem_cons hm]
 rfl
structure UdSt (w : World) (n0 : Nat) (rb : Nat) (mv : Value) (s : ByteArray) (l : List Bd) (A : Option Addr) (x : Ex) (st : FS) (eb : Nat) (W : World) : Prop where
 xp : XP W (fun b => n0 <= b) eb x
 le : n0 <= eb
 bds : BdsIn W (fun b => n0 <= b) A l
 rdy : Rdy W rb mv s st
 old : Touched w rb W
 big : w.heap.size <= W.heap.size
theorem under_calls (n kd n0 : Nat) (ih : ExprC rb mv s n) (q : ByteArray) (l : List Bd) (hlen : l.length <= 900000 * 900001) (A : Option Addr) (c : Nat) (st : FS) (w : World) (h : Rdy w rb mv s st) (hl : st.left s < n) (hn0 : rb < n0) (hn1 : n0 <= w.heap.size) (hB : BdsIn w (fun b => n0 <= b) A l) :
 Calls Tryz.prog 43 #[.pointer (some ⟨rb, 0, none⟩), .int .i64 (kd : Nat), .slice A l.length c, .string q] w fun e w' => RX w rb mv s (underF s n kd q (l, st)).2 (ExQ n0 (underF s n kd q (l, st)).1) e w' := by
 have H := hide h; have hlt := h.lt; have hc := h.code; have HBd := hide hB; have hE := exprN_fwd (s := s) n; obtain ⟨fin, hfin⟩ : ∃ fin, fin = underF s n kd q (l, st) := ⟨_, rfl⟩; rw [<- hfin]
 by_cases h0 : l = []
 . subst h0
   have KR := hide (refuseQ h); have hfl : st.fail.code ≠ 0 := by unfold FS.fail; rw [if_pos hc]; simp
   have hff : fin.2 = st.fail := by
    rw [hfin]; show (exprN s n (st.fail.must s q)).2 = st.fail; rw [must_bad hfl]; exact (hE _ h.ok.fail).code hfl
   have hfa : st.fail.fat = st.t.at_ := by unfold FS.fail; rw [if_pos hc]
   clear hB h
   go_enter Tryz.func43, Tryz.ntmps43
   go_wp2_with (go_at_call 39; refine KR.out.mono ?_)
   intro e W1 hth
   have HF : Hid (RX w rb mv s fin.2 (ExQ n0 fin.1) e W1) := by
    rw [hff]; exact .inr ⟨lost_of hfl, by rw [fp_of hfl, hfa]; exact hth⟩
   obtain ⟨fb, rfl, -⟩ := hth
   go_wp2_with fail
   exact ⟨rfl, HF.out⟩
 have hlp : 0 < l.length := List.length_pos_iff.2 h0; have hs1 : some1 (l, st) = (l, st) := by unfold some1; rw [if_neg (by simp [h0])]
 have HFi : Hid (fin = (underX kd l (exprN s n (st.must s q)).1, (exprN s n (st.must s q)).2)) := hide (by rw [hfin]; unfold underF; rw [hs1]); have KM := hide (expectQ h q)
 have d1 : Dn s st (st.must s q) := (Dn.refl h.ok).must
 have HX : Hid (∀ W, Rdy W rb mv s (st.must s q) -> Calls Tryz.prog 30 #[.pointer (some ⟨rb, 0, none⟩)] W fun e w' => RX W rb mv s (exprN s n (st.must s q)).2 (ExR W (exprN s n (st.must s q)).1) e w') := fun W hW => ih _ W hW (Nat.lt_of_le_of_lt d1.left hl)
 have HB1 : Hid (Bdn (st.must s q) fin.2) := by rw [HFi.out]; exact exprN_bfw n _
 clear hfin hs1 d1 hE ih hB h hl; generalize (exprN s n (st.must s q)).1 = x0 at *; generalize (exprN s n (st.must s q)).2 = s2 at *; generalize st.must s q = s1 at *
 obtain ⟨len, hle⟩ : ∃ len, len = l.length := ⟨_, rfl⟩; have HLn := hide hle; rw [<- hle] at hlen hlp; rw [<- hle]; have hle0 : ((len : Nat) : Int) ≠ 0 := by omega
 have hle1 : len ≠ 0 := by omega
 clear hle h0
 go_enter Tryz.func43, Tryz.ntmps43
 go_wp2_with (go_at_call 29; refine KM.out.mono ?_)
 intro e W2 h2
 rcases h2 with ⟨hc2, rfl, hR2, hT2⟩ | ⟨hc2, hth⟩
 rotate_left
 . have HF : Hid (RX w rb mv s fin.2 (ExQ n0 fin.1) e W2) := RX.bad (lost_of hc2) (by rw [fp_of hc2]; exact hth) (Touched.refl _ _) HB1.out
   obtain ⟨fb, rfl, -⟩ := hth
   go_wp2_with fail
   exact ⟨rfl, HF.out⟩
 have KX := hide (HX.out W2 hR2); have HT2 := hide hT2; clear hR2 hT2 KM HX HB1
 go_wp2_with (go_at_call 30; refine KX.out.mono ?_)
 intro e W3 h3
 rcases h3 with ⟨hc3, ⟨e3, rfl, hl3, hx3⟩, hR3, hT3⟩ | ⟨hc3, hth⟩
 rotate_left
 . have HF : Hid (RX w rb mv s fin.2 (ExQ n0 fin.1) e W3) := RX.bad hc3 hth HT2.out (by rw [HFi.out]; exact Bdn.refl _)
   obtain ⟨fb, rfl, -⟩ := hth
   go_wp2_with fail
   exact ⟨rfl, HF.out⟩
 have hz2 := HT2.out.size; have hz3 := hT3.size
 have HSt : Hid (UdSt w n0 rb mv s l A (underX kd (l.drop len) x0) s2 e3 W3) := by
  have hd : l.drop len = [] := by rw [HLn.out]; exact List.drop_length
  rw [hd]; have hT := HT2.out.trans hT3
  exact ⟨hx3.keep rfl fun b _ hb => ⟨by have : W2.heap.size <= b := hb; omega, rfl⟩, by omega, HBd.out.keep fun b hb hs => ⟨hs, hT.at hb (by have : n0 <= b := hs; omega)⟩, hR3, hT, by omega⟩
 clear hx3 hR3 hT3 KX HT2 HBd
 go_wp2_with fail
 go_loopg [9, 10] len (fun g v i wr => ∃ (eb : Nat) (z : Int), g <= len /\ v = .pointer (some ⟨eb, 0, none⟩) /\ i = .int .i64 z /\ z + 1 = (g : Nat) /\ Hid (UdSt w n0 rb mv s l A (underX kd (l.drop g) x0) s2 eb wr))
 case atStart => exact ⟨e3, (len : Int) - 1, Nat.le_refl _, rfl, by go_num, by omega, HSt.out⟩
 case round =>
  clear HSt; obtain ⟨eb, z, hgl, rfl, rfl, hzg, HS⟩ := hrel
  rcases gk with _ | m
  . have hz : z = -1 := by simp at hzg; omega
    subst hz
    have HF : Hid (RX w rb mv s fin.2 (ExQ n0 fin.1) (.returned (.pointer (some ⟨eb, 0, none⟩))) wr) := by
     rw [HFi.out]; exact .inl ⟨hc3, ⟨eb, rfl, HS.out.le, HS.out.xp⟩, HS.out.rdy, HS.out.old⟩
    clear HS
    go_wp2_with fail
    go_ret; exact HF.out
  . have hz : z = (m : Nat) := by simp at hzg; omega
    subst hz; have hml : m < l.length := by rw [<- HLn.out]; omega
    obtain ⟨b, xv, rfl, hsb, hxi, hcs⟩ := HS.out.bds m hml; obtain ⟨kd', a', nm', ex', gi', inf', im', A1', m1', c1', A2', m2', c2', rfl⟩ := hxi.cells; rw [bcs_lit] at hcs
    have hq : decide ((0 : Int) <= ((m : Nat) : Int)) = true := by simp
    have hmn : ((m : Nat) : Int) < ((len : Nat) : Int) := by omega
    have f0 : wr.cell? ⟨b, m * 12, none⟩ = some (.string l[m].nm) := hcs 0 (by omega); have f1 : wr.cell? ⟨b, m * 12 + 1, none⟩ = some (.bool l[m].im) := hcs 1 (by omega)
    have f11 : wr.cell? ⟨b, m * 12 + 11, none⟩ = some (.int .i64 (l[m].at_ : Nat)) := hcs 11 (by omega); have hbl := World.block_lt_of_cell? _ _ f0
    have hxr : wr.rangeAt b (m * 12 + 2) (xcs kd' a' nm' ex' gi' inf' im' (.slice A1' m1' c1') (.slice A2' m2' c2')).toList := fun q u hq => by
     have hq9 : q < 9 := by
      rcases Nat.lt_or_ge q 9 with h | h
      . exact h
      . rw [List.getElem?_eq_none (by simpa using h)] at hq; cases hq
     rw [Nat.add_assoc, hcs (2 + q) (by omega)]
     match q, hq9 with
     | 0, _ => exact hq
     | 1, _ => exact hq
     | 2, _ => exact hq
     | 3, _ => exact hq
     | 4, _ => exact hq
     | 5, _ => exact hq
     | 6, _ => exact hq
     | 7, _ => exact hq
     | 8, _ => exact hq
    have HEx : Hid (underX kd (l.drop m) x0 = .node kd l[m].at_ l[m].nm false false false l[m].im [] [l[m].ty, underX kd (l.drop (m + 1)) x0]) := underX_drop kd l x0 hml
    generalize hX1 : underX kd (l.drop (m + 1)) x0 = X1 at *; generalize hX0 : underX kd (l.drop m) x0 = X0 at *; generalize l[m].nm = nm1 at *; generalize l[m].im = im1 at *; generalize l[m].at_ = ta1 at *
    generalize l[m].ty = ty1 at *
    have hB7 : Below wr.heap.size wr ((wr.alloc (.cells #[.pointer (some ⟨b, m * 12 + 2, none⟩), .pointer (some ⟨eb, 0, none⟩)] 88)).drew) := ((Below.refl _ _).alloc (Nat.le_refl _) _).drew
    have KQ := hide (made2_calls kd ta1 nm1 [ty1, X1] (fun i => if i = 0 then b else eb) (fun i => if i = 0 then m * 12 + 2 else 0) (some ⟨wr.heap.size, 0, none⟩) 2 ((wr.alloc (.cells #[.pointer (some ⟨b, m * 12 + 2, none⟩), .pointer (some ⟨eb, 0, none⟩)] 88)).drew) (by simp) (fun i hi => ⟨wr.heap.size, rfl, by
     have h := heap_alloc_new wr (.cells #[.pointer (some ⟨b, m * 12 + 2, none⟩), .pointer (some ⟨eb, 0, none⟩)] 88)
     match i, hi with
     | 0, _ => exact cell_of h 0 rfl
     | 1, _ => exact cell_of h 1 rfl⟩) (fun b => n0 <= b) (fun i hi => by
     match i, hi with
     | 0, _ => exact ⟨_, range_block (hB7.block _ hbl) hxr, Nat.lt_of_lt_of_le hbl hB7.size, hxi.later hB7⟩
     | 1, _ =>
       obtain ⟨v, hv, hvx⟩ := HS.out.xp; exact ⟨v, block_range ((hB7.block _ HS.out.xp.lt).trans hv), Nat.lt_of_lt_of_le HS.out.xp.lt hB7.size, hvx.later hB7⟩))
    have F0 : ∀ W, Below wr.heap.size wr W -> W.cell? ⟨b, m * 12, none⟩ = some (.string nm1) /\ W.cell? ⟨b, m * 12 + 11, none⟩ = some (.int .i64 (ta1 : Nat)) := fun W hW => ⟨cell_later hW f0, cell_later hW f11⟩
    clear hcs hxr hxi
    go_wp2_with fail
    go_region_held3 (fun w' => w'.cell? ⟨b, m * 12, none⟩ = some (.string nm1) /\ w'.cell? ⟨b, m * 12 + 11, none⟩ = some (.int .i64 (ta1 : Nat))) (first | assumption | exact F0 _ (Below.refl _ _) | exact F0 _ (Below.refl _ _).drew | exact F0 _ ((Below.refl _ _).drew.alloc (Nat.le_refl _) _) | exact F0 _ hB7) (first
     | (go_at_call 71; refine KQ.out.mono ?_; intro e w8 h8; obtain ⟨e8, A8, c8, rfl, hl8, hb8, hX8, hB8⟩ := h8; have S8 := F0 _ (hB7.trans (hB8.mono hB7.size))))
    have hBw : Below wr.heap.size wr w8 := hB7.trans (hB8.mono hB7.size); have y1 : w8.cell? ⟨b, m * 12 + 1, none⟩ = some (.bool im1) := cell_later hBw f1
    have y6 : w8.cell? ⟨e8, 6, none⟩ = some (.bool false) := cell_of hb8 6 rfl; have yf : ∀ i, w8.frozen? ⟨e8, i, none⟩ = false := fun i => frozen_of hb8 i
    have hbig := HS.out.big; have hz7 : wr.heap.size <= ((wr.alloc (.cells #[.pointer (some ⟨b, m * 12 + 2, none⟩), .pointer (some ⟨eb, 0, none⟩)] 88)).drew).heap.size := hB7.size; have hzw := hBw.size
    have HN : Hid (UdSt w n0 rb mv s l (some ⟨b, 0, none⟩) X0 s2 e8 (w8.setCell ⟨e8, 6, none⟩ (.bool im1))) := by
     have hT8 : Touched w rb w8 := HS.out.old.later hBw; have hke : ∀ b, b ≠ e8 -> (w8.setCell ⟨e8, 6, none⟩ (.bool im1)).heap[b]? = w8.heap[b]? := fun b hb => Below.heap_setCell _ _ _ _ hb
     refine ⟨?_, by omega, HS.out.bds.keep fun b hb hs => ⟨hs, (hke b (by omega)).trans (hBw.block b hb)⟩, H.out.put (HS.out.rdy.later hBw) hT8 (by omega) _ _, hT8.setNew (a := ⟨e8, 6, none⟩) (by show w.heap.size <= e8; omega) _, by simp [World.setCell]; omega⟩
     rw [HEx.out]; refine ⟨_, set_xcs hb8 _, ?_⟩; exact InX.of (LvsIn.nil _ _ _) (hX8.keep fun b hb hs => ⟨by rcases hs.1 with h | h; exact h; have h' : _ <= b := h; omega, hke b hs.2⟩)
    clear hX8 hB8 hb8 S8 F0 KQ hB7 hBw f0 f1 f11
    go_wp2_with fail
    go_roundg m
    case measure => omega
    case rel => exact ⟨e8, (m : Int) - 1, by omega, rfl, by go_num, by omega, by rw [hX0]; exact HN.out⟩
end
section
variable {rb : Nat} {mv : Value} {s : ByteArray}
theorem groupsN_len {n : Nat} {E : FS -> Ex × FS} : ∀ (m : Nat) (l : List Bd) (st : FS), (groupsN s n E m l st).1.length <= l.length + m * (n + 1)
 | 0, _, _ => by simp [groupsN]
 | m + 1, l, st => by
   simp only [groupsN]
   split
   . have h1 := groupsN_len (n := n) (E := E) m (l ++ (groupF s n E st).1) (groupF s n E st).2
     have h2 := (groupF_len (s := s) (n := n) (E := E) st).1; rw [List.length_append] at h1; rw [Nat.succ_mul]; omega
   . simp
theorem funsN_len {n : Nat} {E : FS -> Ex × FS} : ∀ (m : Nat) (l : List Bd) (st : FS), (funsN s n E m l st).1.length <= l.length + m * (n + 1)
 | 0, _, _ => by simp [funsN]
 | m + 1, l, st => by
   simp only [funsN]
   split
   . have h1 := funsN_len (n := n) (E := E) m (l ++ [(⟨(st.name s).1, false, holeX st.t.at_, st.t.at_⟩ : Bd)]) (st.name s).2
     rw [List.length_append, List.length_singleton] at h1; rw [Nat.succ_mul]; omega
   . split
     . have h1 := funsN_len (n := n) (E := E) m (l ++ (groupF s n E st).1) (groupF s n E st).2
       have h2 := (groupF_len (s := s) (n := n) (E := E) st).1; rw [List.length_append] at h1; rw [Nat.succ_mul]; omega
     . simp
theorem exprF_fun {n : Nat} {st : FS} (h : st.is wFun = true) : exprN s (n + 1) st = underF s n 5 sTo (funsN s n (exprN s n) n [] (st.step s)) := by
 show exprF s n (exprN s n) st = _; unfold exprF underF
 simp only
 rw [if_pos h]
theorem exprF_forall {n : Nat} {st : FS} (h0 : st.is wFun = false) (h : st.is wForall = true) : exprN s (n + 1) st = underF s n 6 sComma (groupsN s n (exprN s n) n [] (st.step s)) := by
 show exprF s n (exprN s n) st = _; unfold exprF underF
 simp only
 rw [if_neg (by rw [h0]; simp), if_pos h]
theorem exprF_let {n : Nat} {st : FS} (h0 : st.is wFun = false) (h1 : st.is wForall = false) (h : st.is wLet = true) : exprN s (n + 1) st = letX s (exprN s n) (st.step s) := by
 show exprF s n (exprN s n) st = _; unfold exprF
 simp only
 rw [if_neg (by rw [h0]; simp), if_neg (by rw [h1]; simp), if_pos h]
theorem exprF_arrow {n : Nat} {st : FS} (h0 : st.is wFun = false) (h1 : st.is wForall = false) (h2 : st.is wLet = false) : exprN s (n + 1) st = arrowF s n (exprN s n) st := by
 show exprF s n (exprN s n) st = _; unfold exprF arrowF
 simp only
 rw [if_neg (by rw [h0]; simp), if_neg (by rw [h1]; simp), if_neg (by rw [h2]; simp)]
theorem underF_bdn (n kd : Nat) (q : ByteArray) (p : List Bd × FS) : Bdn p.2 (underF s n kd q p).2 := by
 have h1 : Bdn p.2 (some1 p).2 := by
  unfold some1
  split
  . exact bdn_fail _
  . exact Bdn.refl _
 exact h1.trans ((bdn_must (s := s) _ _).trans (exprN_bfw n _))
theorem RX.from {w W : World} {st : FS} {G G' : Ending -> World -> Prop} {e : Ending} {w' : World} (h : RX W rb mv s st G e w') (hT : Touched w rb W) (hG : ∀ e w', G e w' -> G' e w') : RX w rb mv s st G' e w' := by
 rcases h with ⟨h1, h2, h3, h4⟩ | ⟨h1, h2⟩
 . exact .inl ⟨h1, hG _ _ h2, h3, hT.trans h4⟩
 . exact RX.bad h1 h2 hT (Bdn.refl _)
theorem expr_step (n : Nat) (hn : n <= 900000) (ih : ExprC rb mv s n) : ExprC rb mv s (n + 1) := by
 intro st w h hl; have H := hide h; have hlt := h.lt; have hc := h.code; have hok := h.ok; have hE := exprN_fwd (s := s) n; obtain ⟨fin, hfin⟩ : ∃ fin, fin = exprN s (n + 1) st := ⟨_, rfl⟩; rw [<- hfin]
 have hbig : n * (n + 1) <= 900000 * 900001 := Nat.mul_le_mul hn (by omega)
 have hstep : ∀ q, st.is q = true -> (st.step s).left s < n := fun q hq => by
  have hkd := (FS.is_kd hq).2.1; have := FS.step_left hok hc (by omega) (by omega); omega
 have K1 := hide (tookQ h wFun)
 by_cases q1 : st.is wFun = true
 . have hs := hstep _ q1
   have HFi := hide (hfin.trans (exprF_fun q1)); have hfw := funsN_fwd (n := n) hE n [] (st.step s) hok.step
   have HFn : Hid (∀ W, Rdy W rb mv s (st.step s) -> Calls Tryz.prog 44 #[.pointer (some ⟨rb, 0, none⟩)] W fun e w' => RX W rb mv s (funsN s n (exprN s n) n [] (st.step s)).2 (BsR W (funsN s n (exprN s n) n [] (st.step s)).1) e w') := fun W hW => funs_calls n hn ih _ W hW hs
   have hln := funsN_len (s := s) (n := n) (E := exprN s n) n [] (st.step s)
   have HUd : Hid (∀ (A : Option Addr) (c : Nat) (W : World), Rdy W rb mv s (funsN s n (exprN s n) n [] (st.step s)).2 -> w.heap.size <= W.heap.size -> BdsIn W (fun b => w.heap.size <= b) A (funsN s n (exprN s n) n [] (st.step s)).1 -> Calls Tryz.prog 43 #[.pointer (some ⟨rb, 0, none⟩), .int .i64 (5 : Nat), .slice A (funsN s n (exprN s n) n [] (st.step s)).1.length c, .string sTo] W fun e w' => RX W rb mv s (underF s n 5 sTo (funsN s n (exprN s n) n [] (st.step s))).2 (ExQ w.heap.size (underF s n 5 sTo (funsN s n (exprN s n) n [] (st.step s))).1) e w') := fun A c W hW hz hB => under_calls n 5 w.heap.size ih sTo _ (by simp at hln; omega) A c _ W hW (by have := hfw.left; omega) hlt hz hB
   have HBd : Hid (Bdn (funsN s n (exprN s n) n [] (st.step s)).2 fin.2) := by rw [HFi.out]; exact underF_bdn n 5 sTo _
   rw [<- HFi.out] at HUd; rw [q1, if_pos rfl] at K1; clear hfin hstep hs hfw hln ih hE h hl; generalize (funsN s n (exprN s n) n [] (st.step s)).1 = l1 at *
   generalize (funsN s n (exprN s n) n [] (st.step s)).2 = s2 at *; generalize st.step s = s1 at *
   go_enter Tryz.func30, Tryz.ntmps30
   go_wp2_with (go_at_call 38; refine K1.out.mono ?_)
   rintro e W1 ⟨rfl, hR1, hT1⟩; have KF := hide (HFn.out W1 hR1); have HT1 := hide hT1; clear hR1 hT1 K1 HFn
   go_wp2_with (go_at_call 44; refine KF.out.mono ?_)
   intro e W2 h2
   rcases h2 with ⟨hc2, ⟨A2, c2, rfl, hB2⟩, hR2, hT2⟩ | ⟨hc2, hth⟩
   rotate_left
   . have HF : Hid (RX w rb mv s fin.2 (ExR w fin.1) e W2) := RX.bad hc2 hth HT1.out HBd.out
     obtain ⟨fb, rfl, -⟩ := hth
     go_wp2_with fail
     exact ⟨rfl, HF.out⟩
   have hz1 := HT1.out.size; have KU := hide (HUd.out A2 c2 W2 hR2 (by have := hT2.size; omega) (hB2.keep fun b hb hs => ⟨by have : W1.heap.size <= b := hs; omega, rfl⟩)); have HT2 := hide (HT1.out.trans hT2)
   clear hB2 hR2 hT2 KF HUd
   go_wp2_with (go_at_call 43; refine KU.out.mono ?_)
   intro e W3 h3; have HF : Hid (RX w rb mv s fin.2 (ExR w fin.1) e W3) := RX.from h3 HT2.out fun _ _ h => h
   rcases h3 with ⟨hc3, ⟨e3, rfl, -, -⟩, -, -⟩ | ⟨-, hth⟩
   . go_wp2_with fail
     go_ret; exact HF.out
   . obtain ⟨fb, rfl, -⟩ := hth
     go_wp2_with fail
     exact ⟨rfl, HF.out⟩
 . have q1' : st.is wFun = false := by simpa using q1
   have HK2 : Hid (∀ W, Rdy W rb mv s st -> Calls Tryz.prog 38 #[.pointer (some ⟨rb, 0, none⟩), .string wForall] W fun e w' => e = .returned (.bool (st.is wForall)) /\ Rdy w' rb mv s (if st.is wForall = true then st.step s else st) /\ Touched W rb w') := fun W hW => tookQ hW wForall
   have HK3 : Hid (∀ W, Rdy W rb mv s st -> Calls Tryz.prog 38 #[.pointer (some ⟨rb, 0, none⟩), .string wLet] W fun e w' => e = .returned (.bool (st.is wLet)) /\ Rdy w' rb mv s (if st.is wLet = true then st.step s else st) /\ Touched W rb w') := fun W hW => tookQ hW wLet
   rw [q1', if_neg (by simp)] at K1
   by_cases q2 : st.is wForall = true
   . have hs := hstep _ q2
     have HFi := hide (hfin.trans (exprF_forall q1' q2)); have hfw := groupsN_fwd (n := n) hE n [] (st.step s) hok.step
     have HFn : Hid (∀ W, Rdy W rb mv s (st.step s) -> Calls Tryz.prog 28 #[.pointer (some ⟨rb, 0, none⟩)] W fun e w' => RX W rb mv s (groupsN s n (exprN s n) n [] (st.step s)).2 (BsR W (groupsN s n (exprN s n) n [] (st.step s)).1) e w') := fun W hW => bounds_calls n hn ih _ W hW hs
     have hln := groupsN_len (s := s) (n := n) (E := exprN s n) n [] (st.step s)
     have HUd : Hid (∀ (A : Option Addr) (c : Nat) (W : World), Rdy W rb mv s (groupsN s n (exprN s n) n [] (st.step s)).2 -> w.heap.size <= W.heap.size -> BdsIn W (fun b => w.heap.size <= b) A (groupsN s n (exprN s n) n [] (st.step s)).1 -> Calls Tryz.prog 43 #[.pointer (some ⟨rb, 0, none⟩), .int .i64 (6 : Nat), .slice A (groupsN s n (exprN s n) n [] (st.step s)).1.length c, .string sComma] W fun e w' => RX W rb mv s (underF s n 6 sComma (groupsN s n (exprN s n) n [] (st.step s))).2 (ExQ w.heap.size (underF s n 6 sComma (groupsN s n (exprN s n) n [] (st.step s))).1) e w') := fun A c W hW hz hB => under_calls n 6 w.heap.size ih sComma _ (by simp at hln; omega) A c _ W hW (by have := hfw.left; omega) hlt hz hB
     have HBd : Hid (Bdn (groupsN s n (exprN s n) n [] (st.step s)).2 fin.2) := by rw [HFi.out]; exact underF_bdn n 6 sComma _
     rw [<- HFi.out] at HUd; rw [q2, if_pos rfl] at HK2; clear hfin hstep hs hfw hln ih hE h hl; generalize (groupsN s n (exprN s n) n [] (st.step s)).1 = l1 at *
     generalize (groupsN s n (exprN s n) n [] (st.step s)).2 = s2 at *; generalize st.step s = s1 at *
     go_enter Tryz.func30, Tryz.ntmps30
     go_wp2_with (go_at_call 38; refine K1.out.mono ?_)
     rintro e W0 ⟨rfl, hR0, hT0⟩; have K2 := hide (HK2.out W0 hR0); have HT0 := hide hT0; clear hR0 hT0 K1 HK2
     go_wp2_with (go_at_call 38; refine K2.out.mono ?_)
     rintro e W1 ⟨rfl, hR1, hT1'⟩; have hT1 := HT0.out.trans hT1'; have KF := hide (HFn.out W1 hR1); have HT1 := hide hT1; clear hR1 hT1 hT1' K2 HT0 HFn
     go_wp2_with (go_at_call 28; refine KF.out.mono ?_)
     intro e W2 h2
     rcases h2 with ⟨hc2, ⟨A2, c2, rfl, hB2⟩, hR2, hT2⟩ | ⟨hc2, hth⟩
     rotate_left
     . have HF : Hid (RX w rb mv s fin.2 (ExR w fin.1) e W2) := RX.bad hc2 hth HT1.out HBd.out
       obtain ⟨fb, rfl, -⟩ := hth
       go_wp2_with fail
       exact ⟨rfl, HF.out⟩
     have hz1 := HT1.out.size; have KU := hide (HUd.out A2 c2 W2 hR2 (by have := hT2.size; omega) (hB2.keep fun b hb hs => ⟨by have : W1.heap.size <= b := hs; omega, rfl⟩)); have HT2 := hide (HT1.out.trans hT2)
     clear hB2 hR2 hT2 KF HUd
     go_wp2_with (go_at_call 43; refine KU.out.mono ?_)
     intro e W3 h3; have HF : Hid (RX w rb mv s fin.2 (ExR w fin.1) e W3) := RX.from h3 HT2.out fun _ _ h => h
     rcases h3 with ⟨hc3, ⟨e3, rfl, -, -⟩, -, -⟩ | ⟨-, hth⟩
     . go_wp2_with fail
       go_ret; exact HF.out
     . obtain ⟨fb, rfl, -⟩ := hth
       go_wp2_with fail
       exact ⟨rfl, HF.out⟩
   have q2' : st.is wForall = false := by simpa using q2
   by_cases q3 : st.is wLet = true
   . have hs := hstep _ q3
     have HFi := hide (hfin.trans (exprF_let q1' q2' q3))
     have HLt : Hid (∀ W, Rdy W rb mv s (st.step s) -> Calls Tryz.prog 45 #[.pointer (some ⟨rb, 0, none⟩)] W fun e w' => RX W rb mv s fin.2 (ExR W fin.1) e w') := fun W hW => by rw [HFi.out]; exact let_calls n ih _ W hW hs
     rw [q2', if_neg (by simp)] at HK2; rw [q3, if_pos rfl] at HK3; clear hfin hstep hs ih hE h hl; generalize st.step s = s1 at *
     go_enter Tryz.func30, Tryz.ntmps30
     go_wp2_with (go_at_call 38; refine K1.out.mono ?_)
     rintro e W0 ⟨rfl, hR0, hT0⟩; have K2 := hide (HK2.out W0 hR0); have HT0 := hide hT0; clear hR0 hT0 K1 HK2
     go_wp2_with (go_at_call 38; refine K2.out.mono ?_)
     rintro e W1 ⟨rfl, hR1, hT1⟩; have K3 := hide (HK3.out W1 hR1); have HT1 := hide (HT0.out.trans hT1); clear hR1 hT1 K2 HK3 HT0
     go_wp2_with (go_at_call 38; refine K3.out.mono ?_)
     rintro e W2 ⟨rfl, hR2, hT2'⟩; have hT2 := HT1.out.trans hT2'; have HT2 := hide hT2; have KL := hide (HLt.out W2 hR2); clear hR2 hT2 hT2' K3 HT1 HLt
     go_wp2_with (go_at_call 45; refine KL.out.mono ?_)
     intro e W3 h3
     have HF : Hid (RX w rb mv s fin.2 (ExR w fin.1) e W3) := RX.from h3 HT2.out fun e w' h => by
      obtain ⟨eb, he, hle, hx⟩ := h; have hz := HT2.out.size; exact ⟨eb, he, by omega, hx.wide hz⟩
     rcases h3 with ⟨hc3, ⟨e3, rfl, -, -⟩, -, -⟩ | ⟨-, hth⟩
     . go_wp2_with fail
       go_ret; exact HF.out
     . obtain ⟨fb, rfl, -⟩ := hth
       go_wp2_with fail
       exact ⟨rfl, HF.out⟩
   . have q3' : st.is wLet = false := by simpa using q3
     have HFi := hide (hfin.trans (exprF_arrow q1' q2' q3'))
     have HAr : Hid (∀ W, Rdy W rb mv s st -> Calls Tryz.prog 46 #[.pointer (some ⟨rb, 0, none⟩)] W fun e w' => RX W rb mv s fin.2 (ExR W fin.1) e w') := fun W hW => by rw [HFi.out]; exact arrow_calls n (by omega) ih _ W hW (by omega)
     rw [q2', if_neg (by simp)] at HK2; rw [q3', if_neg (by simp)] at HK3; clear hfin hstep ih hE h hl
     go_enter Tryz.func30, Tryz.ntmps30
     go_wp2_with (go_at_call 38; refine K1.out.mono ?_)
     rintro e W0 ⟨rfl, hR0, hT0⟩; have K2 := hide (HK2.out W0 hR0); have HT0 := hide hT0; clear hR0 hT0 K1 HK2
     go_wp2_with (go_at_call 38; refine K2.out.mono ?_)
     rintro e W1 ⟨rfl, hR1, hT1⟩; have K3 := hide (HK3.out W1 hR1); have HT1 := hide (HT0.out.trans hT1); clear hR1 hT1 K2 HK3 HT0
     go_wp2_with (go_at_call 38; refine K3.out.mono ?_)
     rintro e W2 ⟨rfl, hR2, hT2'⟩; have hT2 := HT1.out.trans hT2'; have HT2 := hide hT2; have KL := hide (HAr.out W2 hR2); clear hR2 hT2 hT2' K3 HT1 HAr
     go_wp2_with (go_at_call 46; refine KL.out.mono ?_)
     intro e W3 h3
     have HF : Hid (RX w rb mv s fin.2 (ExR w fin.1) e W3) := RX.from h3 HT2.out fun e w' h => by
      obtain ⟨eb, he, hle, hx⟩ := h; have hz := HT2.out.size; exact ⟨eb, he, by omega, hx.wide hz⟩
     rcases h3 with ⟨hc3, ⟨e3, rfl, -, -⟩, -, -⟩ | ⟨-, hth⟩
     . go_wp2_with fail
       go_ret; exact HF.out
     . obtain ⟨fb, rfl, -⟩ := hth
       go_wp2_with fail
       exact ⟨rfl, HF.out⟩
theorem expr_all : ∀ n, n <= 900000 -> ExprC rb mv s n
 | 0, _ => fun st w _ hl => absurd hl (by omega)
 | n + 1, h => expr_step n (by omega) (expr_all n (by omega))
end
end Go.Proofs.YtockffblncdikaaGreatDoor
