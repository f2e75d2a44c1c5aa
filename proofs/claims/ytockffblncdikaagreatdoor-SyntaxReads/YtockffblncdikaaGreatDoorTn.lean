/- Facts of tactics' words and shapes. No walk. -/
import Derived.Test.YtockffblncdikaaGreatDoorCk
namespace Go.Proofs.YtockffblncdikaaGreatDoor
open Go.RowKit
set_option maxRecDepth 100000
set_option maxHeartbeats 16000000
abbrev ctcs (nm : ByteArray) (a : Int) (xv : Array Value) : Array Value := #[.string nm, .int .i64 a] ++ xv
theorem ctcs_toList (nm : ByteArray) (p : Int) (kd a : Int) (n : ByteArray) (ex gi inf im : Bool) (l x : Value) : (ctcs nm p (xcs kd a n ex gi inf im l x)).toList = [.string nm, .int .i64 p, .int .i64 kd, .int .i64 a, .string n, .bool ex, .bool gi, .bool inf, .bool im, l, x] := by simp
theorem ctcs_lit (nm : ByteArray) (p : Int) (kd a : Int) (n : ByteArray) (ex gi inf im : Bool) (l x : Value) : ctcs nm p (xcs kd a n ex gi inf im l x) = #[.string nm, .int .i64 p, .int .i64 kd, .int .i64 a, .string n, .bool ex, .bool gi, .bool inf, .bool im, l, x] := Array.ext' (ctcs_toList _ _ _ _ _ _ _ _ _ _ _)
def CtP (W : World) (S : Nat -> Prop) (c : Ct) (v : Value) : Prop := ∃ xv, InX W S c.ty xv /\ v = .agg (ctcs c.nm (c.at_ : Nat) xv)
theorem keep_CtP : Keep1 CtP := fun _ _ _ _ _ _ h ⟨xv, hx, e⟩ => ⟨xv, hx.keep h, e⟩
def CtsIn (w : World) (S : Nat -> Prop) (A : Option Addr) (l : List Ct) : Prop := ∀ i (h : i < l.length), ∃ b xv, A = some ⟨b, 0, none⟩ /\ S b /\ InX w S l[i].ty xv /\ ∀ q, q < 11 -> w.cell? ⟨b, i * 11 + q, none⟩ = (ctcs l[i].nm (l[i].at_ : Nat) xv)[q]?
theorem GRow.cts {W : World} {T n0 : Nat} {l : List Ct} {rv : Value} {ys : List Value} (h : GRow (KL CtP l) W T 11 0 n0 l.length rv ys) : ∃ A c, rv = .slice A l.length c /\ CtsIn W (fun b => n0 <= b) A l := by
 obtain ⟨A, c, e, hp⟩ := h.out (KL.keeps keep_CtP _); refine ⟨A, c, e, fun i hi => ?_⟩; obtain ⟨g, a, ea, hg, hz, hc, hin⟩ := hp i hi; obtain ⟨_, xv, hx, hv⟩ := hin
 have hv' : a = ctcs l[i].nm (l[i].at_ : Nat) xv := by injection hv
 subst hv'; exact ⟨g, xv, ea, hg, hx.mono fun b hb => by rcases hb with hb | hb; omega; exact hb, hc⟩
theorem CtsIn.nil (w : World) (S : Nat -> Prop) (A : Option Addr) : CtsIn w S A [] := fun i hi => absurd hi (by simp)
theorem CtsIn.keep {w w' : World} {S S' : Nat -> Prop} {A : Option Addr} {l : List Ct} (h : CtsIn w S A l) (hk : ∀ b, b < w.heap.size -> S b -> S' b /\ w'.heap[b]? = w.heap[b]?) : CtsIn w' S' A l := fun i hi => by
 obtain ⟨b, xv, e, hs, hx, hc⟩ := h i hi; have hz := hx.size; have hb : b < w.heap.size := World.block_lt_of_cell? _ ⟨b, i * 11 + 0, none⟩ ((hc 0 (by omega)).trans (Array.getElem?_eq_getElem (by simp; omega)))
 have h1 := hk b hb hs; exact ⟨b, xv, e, h1.1, hx.keep hk, fun q hq => (World.cell?_of_block h1.2).trans (hc q hq)⟩
theorem Tryz.info131' : (Tryz.prog.info? 131).map (fun i => (i.zero, i.size, i.bytes)) = some (some (.agg #[.string ⟨#[]⟩, .int .i64 0, .int .i64 0, .int .i64 0, .string ⟨#[]⟩, .bool false, .bool false, .bool false, .bool false, .slice none 0 0, .slice none 0 0]), 11, 112) := by kernel_rfl
section
variable {rb : Nat} {mv : Value} {s : ByteArray}
def CtsR (w : World) (l : List Ct) (e : Ending) (w' : World) : Prop := ∃ (A : Option Addr) (c : Nat), e = .returned (.slice A l.length c) /\ CtsIn w' (fun b => w.heap.size <= b) A l
theorem ctors_stop {n : Nat} {st : FS} (h : st.is sBar = false) (m : Nat) (l : List Ct) : ctorsN s n m l st = (l, st) := by
 cases m with
 | zero => rfl
 | succ m => simp only [ctorsN]; rw [if_neg (by rw [h]; simp)]
attribute [local go_sem ↓] ld43_eq
theorem ctors_calls (n : Nat) (hn : n <= 900000) (st : FS) (w : World) (h : Rdy w rb mv s st) (hl : st.left s < n) :
 Calls Tryz.prog 47 #[.pointer (some ⟨rb, 0, none⟩)] w fun e w' => RX w rb mv s (ctorsN s n n [] st).2 (CtsR w (ctorsN s n n [] st).1) e w' := by
 have H := hide h; have hlt := h.lt; have HE0 := hide (expr_all (rb := rb) (mv := mv) (s := s) n hn); obtain ⟨fin, hfin⟩ : ∃ fin, fin = ctorsN s n n [] st := ⟨_, rfl⟩; rw [<- hfin]; have HFi := hide hfin
 obtain ⟨i0, hi, hz0, hz1, hz2⟩ := infoParts Tryz.info131'; have HS : Hid (RwSt CtP 131 11 w rb mv s [] st none 0 [] w) := RwSt.nil h (Touched.refl _ _); have HLe := hide hl; clear hfin h hl
 go_enter Tryz.func47, Tryz.ntmps47
 go_wp2_with fail
 go_loopg [3] n (fun g v wr => ∃ (l : List Ct) (st' : FS) (A : Option Addr) (c : Nat) (ys : List Value), v = .slice A l.length c /\ Hid (ctorsN s n g l st' = fin) /\ Hid (st'.left s < g) /\ l.length + g = n /\ Hid (RwSt CtP 131 11 w rb mv s l st' A c ys wr))
 case atStart => exact ⟨[], st, _, _, _, rfl, HFi.out.symm, HLe.out, by simp, HS.out⟩
 case round =>
  clear HS HLe HFi; obtain ⟨l, st', A, c, ys, rfl, HE, HLt, hlen, HS⟩ := hrel; obtain ⟨g', rfl⟩ : ∃ g', gk = g' + 1 := ⟨gk - 1, by have := HLt.out; omega⟩; have hok := HS.out.rdy.ok; have hco := HS.out.rdy.code
  have KT := hide (tookQ HS.out.rdy sBar)
  by_cases hp : st'.is sBar = true
  . have hkd := (FS.is_kd hp).2.1
    have hlef := FS.step_left hok hco (by omega) (by omega); obtain ⟨q1, hq1⟩ : ∃ q, q = (st'.step s).name s := ⟨_, rfl⟩; obtain ⟨q2, hq2⟩ : ∃ q, q = q1.2.must s sColon := ⟨_, rfl⟩
    obtain ⟨q3, hq3⟩ : ∃ q, q = exprN s n q2 := ⟨_, rfl⟩; obtain ⟨ta, hta⟩ : ∃ ta, ta = (st'.step s).t.at_ := ⟨_, rfl⟩
    have hct : ctorF s n (st'.step s) = (⟨q1.1, ta, q3.1⟩, q3.2) := by unfold ctorF; simp only; rw [<- hq1, <- hq2, <- hq3, <- hta]
    have HE2 : Hid (ctorsN s n g' (l ++ [⟨q1.1, ta, q3.1⟩]) q3.2 = fin) := hide (by have := HE.out; simp only [ctorsN] at this; rw [if_pos hp, hct] at this; exact this)
    have hd1 : Dn s (st'.step s) q1.2 := by rw [hq1]; exact (Dn.refl hok.step).name
    have hd2 : Dn s (st'.step s) q2 := by rw [hq2]; exact hd1.must
    have hd3 : Dn s (st'.step s) q3.2 := by rw [hq3]; exact (exprN_fwd n).dn hd2
    have HL2 : Hid (q3.2.left s < g') := hide (by have := hd3.left; have := HLt.out; omega); have HLx : Hid (q2.left s < n) := hide (by have := hd2.left; have := HLt.out; omega)
    have HB3 : Hid (Bdn q3.2 fin.2) := hide (by rw [<- HE2.out]; exact ctorsN_bfw n g' _ q3.2); have HB2 : Hid (Bdn q2 fin.2) := hide (Bdn.trans (by rw [hq3]; exact exprN_bfw n q2) HB3.out)
    have HB1 : Hid (Bdn q1.2 fin.2) := hide (Bdn.trans (by rw [hq2]; exact bdn_must q1.2 sColon) HB2.out)
    have HNm : Hid (∀ W, Rdy W rb mv s (st'.step s) -> Calls Tryz.prog 26 #[.pointer (some ⟨rb, 0, none⟩)] W fun e w' => RQ W rb mv s q1.2 (fun e _ => e = .returned (.agg #[.int .i64 1, .int .i64 (ta : Nat), .string q1.1])) e w') := hide fun W hW => by rw [hq1, hta]; exact nameQ hW
    have HMu : Hid (∀ W, Rdy W rb mv s q1.2 -> Calls Tryz.prog 29 #[.pointer (some ⟨rb, 0, none⟩), .string sColon] W fun e w' => RQ W rb mv s q2 (fun e _ => e = .returned (.tuple #[])) e w') := hide fun W hW => by rw [hq2]; exact expectQ hW sColon
    have HXp : Hid (∀ W, Rdy W rb mv s q2 -> Calls Tryz.prog 30 #[.pointer (some ⟨rb, 0, none⟩)] W fun e w' => RX W rb mv s q3.2 (ExR W q3.1) e w') := hide fun W hW => by rw [hq3]; exact HE0.out q2 W hW HLx.out
    rw [hp, if_pos rfl] at KT; clear hlef hkd hp hok hco HE HLt hq1 hq2 hq3 hta hct hd1 hd2 hd3 HLx HE0; obtain ⟨nm, st1⟩ := q1; obtain ⟨x, st3⟩ := q3; generalize st'.step s = stb at *
    go_wp2_with (go_at_call 38; refine KT.out.mono ?_)
    first | (intro e W3 he hR3 hT3; subst he) | (rintro e W3 ⟨rfl, hR3, hT3⟩)
    have HS3 := hide (HS.out.touched keep_CtP hR3 hT3 hlt); have KV := hide (HNm.out W3 hR3); clear hR3 hT3 KT HNm HS
    go_wp2_with (go_at_call 26; refine KV.out.mono ?_)
    intro e W4 h4
    rcases h4 with ⟨hc4, rfl, hR4, hT4⟩ | ⟨hc4, hth⟩
    rotate_left
    . have HF : Hid (RX w rb mv s fin.2 (CtsR w fin.1) e W4) := RX.bad (lost_of hc4) (by rw [fp_of hc4]; exact hth) HS3.out.old HB1.out
      obtain ⟨fb, rfl, -⟩ := hth
      go_wp2_with fail
      exact ⟨rfl, HF.out⟩
    have HS4 := hide ((HS3.out.touched keep_CtP hR4 hT4 hlt).alloc keep_CtP hlt (.cells #[.int .i64 1, .int .i64 (ta : Nat), .string nm] 46))
    have hbox := heap_alloc_new W4 (.cells #[.int .i64 1, .int .i64 (ta : Nat), .string nm] 46); have KM := hide (HMu.out _ (hR4.alloc (.cells #[.int .i64 1, .int .i64 (ta : Nat), .string nm] 46)))
    have hsz : W4.heap.size < (W4.alloc (.cells #[.int .i64 1, .int .i64 (ta : Nat), .string nm] 46)).heap.size := by simp
    have hz4 : w.heap.size <= W4.heap.size := (HS3.out.old.trans hT4).size; clear hR4 hT4 KV HMu HS3
    go_wp2_with fail
    generalize (W4.alloc (.cells #[.int .i64 1, .int .i64 (ta : Nat), .string nm] 46)) = W5 at *
    go_wp2_with (go_at_call 29; refine KM.out.mono ?_)
    intro e W6 h6
    rcases h6 with ⟨hc6, rfl, hR6, hT6⟩ | ⟨hc6, hth⟩
    rotate_left
    . have HF : Hid (RX w rb mv s fin.2 (CtsR w fin.1) e W6) := RX.bad (lost_of hc6) (by rw [fp_of hc6]; exact hth) HS4.out.old HB2.out
      obtain ⟨fb, rfl, -⟩ := hth
      go_wp2_with fail
      exact ⟨rfl, HF.out⟩
    have HS6 := hide (HS4.out.touched keep_CtP hR6 hT6 hlt); have hbx6 := (hT6.at (k := W4.heap.size) hsz (by omega)).trans hbox; have hsz6 : W4.heap.size < W6.heap.size := Nat.lt_of_lt_of_le hsz hT6.size
    have HT6 := hide (HS4.out.old.trans hT6); have KX := hide (HXp.out _ hR6.drew); have t1 : W6.cell? ⟨W4.heap.size, 1, none⟩ = some (.int .i64 (ta : Nat)) := cell_of hbx6 1 rfl
    have t2 : W6.cell? ⟨W4.heap.size, 2, none⟩ = some (.string nm) := cell_of hbx6 2 rfl; clear hR6 hT6 KM HXp HS4 hbox hsz
    go_wp2_with fail
    go_region_law (first
     | (refine step_rx (f := 30) rfl ?_ KX.out ExR.ret ?_ ?_
        . simp [go_sem]
        . intro fb w5 hc5 h5
          exact ⟨rfl, RX.bad hc5 h5 HT6.out.drew' HB3.out⟩
        intro v w5 hc5 hG5 hR5 hT5; obtain ⟨e5, he5, hl5, hx5⟩ := hG5; injection he5 with he5; subst he5; have hbx5 := (hT5.at (k := W4.heap.size) hsz6 (by omega)).trans hbx6
        have t5 : w5.cell? ⟨W4.heap.size, 1, none⟩ = some (.int .i64 (ta : Nat)) := cell_of hbx5 1 rfl; have t6 : w5.cell? ⟨W4.heap.size, 2, none⟩ = some (.string nm) := cell_of hbx5 2 rfl
        obtain ⟨xv, hxb, hxi⟩ := hx5; obtain ⟨kd, a, nm', ex, gi, inf, im, A1, m1, c1, A2, m2, c2, rfl⟩ := hxi.cells; have L5 := ld43_run (W := w5) (block_range hxb) rfl
        have HT5 : Hid (Touched W6 rb w5) := ((Touched.refl W6 rb).drew').trans hT5; have HR5 := hide hR5; have hz5 := HT5.out.size
        have hcp : CtP w5 (fun b => W6.heap.size <= b) ⟨nm, ta, x⟩ (.agg #[.string nm, .int .i64 (ta : Nat), .int .i64 kd, .int .i64 a, .string nm', .bool ex, .bool gi, .bool inf, .bool im, .slice A1 m1 c1, .slice A2 m2 c2]) := ⟨_, hxi, by rw [ctcs_lit]⟩
        have HCp := hide hcp
        have HO := hide ((HS6.out.row.touched (KL.keeps keep_CtP _) HT5.out hlt).own.alloc (.cells #[.string nm, .int .i64 (ta : Nat), .int .i64 kd, .int .i64 a, .string nm', .bool ex, .bool gi, .bool inf, .bool im, .slice A1 m1 c1, .slice A2 m2 c2] 131))
        clear hR5 hT5 hxi hcp)
     | (refine step_append_own rfl (.tmp 17) (.tmp 27) 61 rfl w.heap.size 131 i0 _ 11 112 Tryz.underlying61 hi hz0 hz1 hz2 rfl (by decide) (.slice A l.length c) l.length (flat ys) ?_ ?_ ⟨w5.heap.size, 0, none⟩ 1 1 [.string nm, .int .i64 (ta : Nat), .int .i64 kd, .int .i64 a, .string nm', .bool ex, .bool gi, .bool inf, .bool im, .slice A1 m1 c1, .slice A2 m2 c2] ?_ rfl ?_ ?_ (by decide) ?_ ?_ ?_ ?_
        . rfl
        . exact HO.out
        . rfl
        . exact cells_new _ _ _
        . intro u hu; simp at hu; rcases hu with rfl | rfl | rfl | rfl | rfl | rfl | rfl | rfl | rfl | rfl | rfl <;> rfl
        . unfold maxLen; omega
        . omega
        . simp; omega
        intro v' w6 hown6 hgr6 hpl6))
    all_goals
     obtain ⟨A6, c6, hv6, hS6⟩ := RwSt.snoc keep_CtP (x := ⟨nm, ta, x⟩) H.out HS6.out HR5.out HT5.out HCp.out rfl hown6 hgr6 (by simpa using hpl6); subst hv6; have HS7 := hide hS6
     clear hown6 hgr6 hpl6 hS6 HO HR5 HT5 HCp HS6 L5
     go_wp2_with fail
     go_roundg g'
     case measure => omega
     case rel => exact ⟨l ++ [(⟨nm, ta, x⟩ : Ct)], st3, A6, c6, _, by simp, HE2.out, HL2.out, by simp; omega, HS7.out⟩
  . have hp' : st'.is sBar = false := by simpa using hp
    have hfi : fin = (l, st') := by rw [<- HE.out, ctors_stop hp']
    rw [hp', if_neg (by simp)] at KT; subst hfi; have HCo := hide hco; clear HE HLt hp hp' hok hco HE0
    go_wp2_with (go_at_call 38; refine KT.out.mono ?_)
    first | (intro e W3 he hR3 hT3; subst he) | (rintro e W3 ⟨rfl, hR3, hT3⟩)
    have HF : Hid (RX w rb mv s st' (CtsR w l) (.returned (.slice A l.length c)) W3) := by
     have hrow := HS.out.row.touched (KL.keeps keep_CtP _) hT3 hlt; obtain ⟨A', c', e', hL⟩ := GRow.cts (l := l) hrow; injection e' with e1 e2 e3; subst e1
     exact .inl ⟨HCo.out, ⟨A, c, rfl, hL⟩, hR3, HS.out.old.trans hT3⟩
    clear hR3 hT3 KT HS
    go_wp2_with fail
    go_ret; exact HF.out
end
theorem word_no_tac : ∀ q ∈ tacWords, isWord q = false := by decide +kernel
theorem lex_tac {s : ByteArray} {p : Nat} (hp : p <= s.size) (h1 : (lex s p).1.kd ≠ 1) : ∀ q ∈ tacWords, (lex s p).1.t ≠ q := by
 intro q hq e; obtain ⟨z4, z11, hal⟩ := tac_size hq; have hle := skip_le hp; unfold lex at h1 e
 split at e
 . rw [<- e] at z4
   have : (⟨#[]⟩ : ByteArray).size = 0 := rfl
   simp only at z4
   omega
 . rename_i hne
   rw [if_neg hne] at h1; unfold lexAt at h1 e
   split at e
   . rename_i ha
     rw [if_pos ha] at h1
     split at e
     . simp only at e
       rw [<- e] at z4; have : (⟨#[]⟩ : ByteArray).size = 0 := rfl; omega
     . rename_i h40
       rw [if_neg h40] at h1
       split at e
       . rename_i hw
         simp only at e
         rw [e, word_no_tac q hq] at hw
         simp at hw
       . rename_i hw
         rw [if_neg hw] at h1
         simp at h1
   . rename_i ha
     split at e
     . rename_i hd
       split at e
       . simp only at e
         rw [<- e] at z4; have : (⟨#[]⟩ : ByteArray).size = 0 := rfl; omega
       . simp only at e
         have h2 := runTo_more (f := digitB) (s := s) (p := skip s p) (by omega) hd; have h3 := runTo_le digitB s (k := skip s p) hle.2; rw [<- e, at_extract h3 (by omega), Nat.add_zero] at hal; exact ha hal
     . split at e
       . simp only at e
         rw [<- e, ByteArray.size_extract] at z4; omega
       . split at e
         . simp only at e
           rw [<- e, ByteArray.size_extract] at z4; omega
         . simp only at e
           rw [<- e] at z4; have : (⟨#[]⟩ : ByteArray).size = 0 := rfl; omega
theorem wordNo_none {t : ByteArray} : ∀ (l : List ByteArray) (k : Nat), (∀ q ∈ l, t ≠ q) -> wordNo t l k = 0
 | [], _, _ => rfl
 | x :: l, k, h => by
   simp only [wordNo]
   rw [if_neg (fun e => h x (by simp) e.symm)]; exact wordNo_none l (k + 1) fun q hq => h q (by simp [hq])
theorem wordNo_le {t : ByteArray} : ∀ (l : List ByteArray) (k : Nat), wordNo t l k < k + l.length \/ wordNo t l k = 0
 | [], _ => .inr rfl
 | x :: l, k => by
   simp only [wordNo]
   split
   . left; simp
   . have := wordNo_le (t := t) l (k + 1)
     simp
     omega
def tacNo (st : FS) : Nat := if st.kin 1 = true then wordNo st.t.t tacWords 1 else 0
theorem tacNo_lt (st : FS) : tacNo st < 14 := by
 unfold tacNo
 split
 . have := wordNo_le (t := st.t.t) tacWords 1
   have : tacWords.length = 13 := rfl; omega
 . omega
theorem tacNo_eq {st : FS} (hc : st.code = 0) (h4 : st.t.kd ≠ 1 -> ∀ q ∈ tacWords, st.t.t ≠ q) : tacNo st = wordNo st.t.t tacWords 1 := by
 unfold tacNo FS.kin; rw [hc]
 by_cases h : st.t.kd = 1
 . simp [h]
 . rw [if_neg (by simp [h]), wordNo_none tacWords 1 (h4 h)]
def shN (k : Nat) : Bool × Bool × Bool × Bool := (k == 6 || k == 7 || k == 9, k == 1, k == 10, k == 2 || k == 3 || k == 8 || k == 9 || k == 11)
theorem sh_cells {w : World} (h : w.rangeAt 3 0 tsv) (k : Nat) (hk : k < 14) : w.cell? ⟨3, k * 4, none⟩ = some (.bool (shN k).1) /\ w.cell? ⟨3, k * 4 + 1, none⟩ = some (.bool (shN k).2.1) /\ w.cell? ⟨3, k * 4 + 2, none⟩ = some (.bool (shN k).2.2.1) /\ w.cell? ⟨3, k * 4 + 3, none⟩ = some (.bool (shN k).2.2.2) := by
 have h' : ∀ j v, tsv[j]? = some v -> w.cell? ⟨3, j, none⟩ = some v := fun j v e => by have := h j v e; simpa using this
 match k, hk with
 | 0, _ => exact ⟨h' 0 _ rfl, h' 1 _ rfl, h' 2 _ rfl, h' 3 _ rfl⟩
 | 1, _ => exact ⟨h' 4 _ rfl, h' 5 _ rfl, h' 6 _ rfl, h' 7 _ rfl⟩
 | 2, _ => exact ⟨h' 8 _ rfl, h' 9 _ rfl, h' 10 _ rfl, h' 11 _ rfl⟩
 | 3, _ => exact ⟨h' 12 _ rfl, h' 13 _ rfl, h' 14 _ rfl, h' 15 _ rfl⟩
 | 4, _ => exact ⟨h' 16 _ rfl, h' 17 _ rfl, h' 18 _ rfl, h' 19 _ rfl⟩
 | 5, _ => exact ⟨h' 20 _ rfl, h' 21 _ rfl, h' 22 _ rfl, h' 23 _ rfl⟩
 | 6, _ => exact ⟨h' 24 _ rfl, h' 25 _ rfl, h' 26 _ rfl, h' 27 _ rfl⟩
 | 7, _ => exact ⟨h' 28 _ rfl, h' 29 _ rfl, h' 30 _ rfl, h' 31 _ rfl⟩
 | 8, _ => exact ⟨h' 32 _ rfl, h' 33 _ rfl, h' 34 _ rfl, h' 35 _ rfl⟩
 | 9, _ => exact ⟨h' 36 _ rfl, h' 37 _ rfl, h' 38 _ rfl, h' 39 _ rfl⟩
 | 10, _ => exact ⟨h' 40 _ rfl, h' 41 _ rfl, h' 42 _ rfl, h' 43 _ rfl⟩
 | 11, _ => exact ⟨h' 44 _ rfl, h' 45 _ rfl, h' 46 _ rfl, h' 47 _ rfl⟩
 | 12, _ => exact ⟨h' 48 _ rfl, h' 49 _ rfl, h' 50 _ rfl, h' 51 _ rfl⟩
 | 13, _ => exact ⟨h' 52 _ rfl, h' 53 _ rfl, h' 54 _ rfl, h' 55 _ rfl⟩
 | k + 14, hk => omega
theorem tac_cases (k : Nat) (h0 : k ≠ 0) (hk : k < 14) : (k = 1 /\ shN k = (false, true, false, false)) \/ ((k = 6 \/ k = 7) /\ shN k = (true, false, false, false)) \/ (k = 9 /\ shN k = (true, false, false, true)) \/ ((k = 2 \/ k = 3 \/ k = 8 \/ k = 11) /\ shN k = (false, false, false, true)) \/ (k = 10 /\ shN k = (false, false, true, false)) \/ ((k ≠ 1 /\ ¬ (k = 6 \/ k = 7) /\ k ≠ 9 /\ ¬ (k = 2 \/ k = 3 \/ k = 8 \/ k = 11) /\ k ≠ 10) /\ shN k = (false, false, false, false)) := by
 match k, h0, hk with
 | 0, h, _ => exact absurd rfl h
 | 1, _, _ => decide
 | 2, _, _ => decide
 | 3, _, _ => decide
 | 4, _, _ => decide
 | 5, _, _ => decide
 | 6, _, _ => decide
 | 7, _, _ => decide
 | 8, _, _ => decide
 | 9, _, _ => decide
 | 10, _, _ => decide
 | 11, _, _ => decide
 | 12, _, _ => decide
 | 13, _, _ => decide
 | k + 14, _, hk => omega
section
variable {s : ByteArray} {n : Nat} {st : FS}
theorem tac_zero (h : tacNo st = 0) : tacticF s n st = (⟨0, st.t.at_, [], 0, []⟩, st.fail) := by
 unfold tacticF
 simp only
 rw [show (if st.kin 1 = true then wordNo st.t.t tacWords 1 else 0) = tacNo st from rfl, if_pos h]
theorem tac_names (h : tacNo st = 1) : tacticF s n st = (⟨tacNo st, st.t.at_, (moreN s n [((st.step s).name s).1] ((st.step s).name s).2).1, 0, []⟩, (moreN s n [((st.step s).name s).1] ((st.step s).name s).2).2) := by
 unfold tacticF
 simp only
 rw [show (if st.kin 1 = true then wordNo st.t.t tacWords 1 else 0) = tacNo st from rfl, if_neg (by omega), if_pos h]
theorem tac_name (h : tacNo st = 6 \/ tacNo st = 7) : tacticF s n st = (⟨tacNo st, st.t.at_, [((st.step s).name s).1], 0, []⟩, ((st.step s).name s).2) := by
 unfold tacticF
 simp only
 rw [show (if st.kin 1 = true then wordNo st.t.t tacWords 1 else 0) = tacNo st from rfl, if_neg (by omega), if_neg (by omega), if_pos h]
theorem tac_have (h : tacNo st = 9) : tacticF s n st = (⟨tacNo st, st.t.at_, [((st.step s).name s).1], 0, [(exprN s n (((st.step s).name s).2.must s sColon)).1]⟩, (exprN s n (((st.step s).name s).2.must s sColon)).2) := by
 unfold tacticF
 simp only
 rw [show (if st.kin 1 = true then wordNo st.t.t tacWords 1 else 0) = tacNo st from rfl, if_neg (by omega), if_neg (by omega), if_neg (by omega), if_pos h]
theorem tac_expr (h : tacNo st = 2 \/ tacNo st = 3 \/ tacNo st = 8 \/ tacNo st = 11) : tacticF s n st = (⟨tacNo st, st.t.at_, [], 0, [(exprN s n (st.step s)).1]⟩, (exprN s n (st.step s)).2) := by
 unfold tacticF
 simp only
 rw [show (if st.kin 1 = true then wordNo st.t.t tacWords 1 else 0) = tacNo st from rfl, if_neg (by omega), if_neg (by omega), if_neg (by omega), if_neg (by omega), if_pos h]
theorem tac_num (h : tacNo st = 10) (h9 : (st.step s).kin 2 = true -> decV (st.step s).t.t <= 99) : (tacticF s n st).2 = numF s 99 (st.step s) /\ ((numF s 99 (st.step s)).code = 0 -> (tacticF s n st).1 = ⟨tacNo st, st.t.at_, [], decV (st.step s).t.t, []⟩) := by
 unfold tacticF
 simp only
 rw [show (if st.kin 1 = true then wordNo st.t.t tacWords 1 else 0) = tacNo st from rfl, if_neg (by omega), if_neg (by omega), if_neg (by omega), if_neg (by omega), if_neg (by omega), if_pos h]; unfold numF
 by_cases hk : (st.step s).kin 2 = true
 . rw [if_pos hk, if_pos ⟨hk, h9 hk⟩]
   exact ⟨rfl, fun _ => rfl⟩
 . rw [if_neg hk, if_neg (fun h => hk h.1)]
   refine ⟨rfl, fun hc => absurd hc ?_⟩; unfold FS.fail
   split
   . simp
   . assumption
theorem tac_bare (h0 : tacNo st ≠ 0) (h : tacNo st ≠ 1 /\ ¬ (tacNo st = 6 \/ tacNo st = 7) /\ tacNo st ≠ 9 /\ ¬ (tacNo st = 2 \/ tacNo st = 3 \/ tacNo st = 8 \/ tacNo st = 11) /\ tacNo st ≠ 10) : tacticF s n st = (⟨tacNo st, st.t.at_, [], 0, []⟩, st.step s) := by
 unfold tacticF
 simp only
 rw [show (if st.kin 1 = true then wordNo st.t.t tacWords 1 else 0) = tacNo st from rfl, if_neg h0, if_neg h.1, if_neg h.2.1, if_neg h.2.2.1, if_neg h.2.2.2.1, if_neg h.2.2.2.2]
theorem names_more : ∀ (g : Nat) (l : List (ByteArray × Nat)) (st : FS), ((namesF s g l st).1.map (·.1), (namesF s g l st).2) = moreN s g (l.map (·.1)) st
 | 0, l, st => by
   unfold namesF
   split <;> rfl
 | g + 1, l, st => by
   unfold namesF
   simp only [moreN]
   by_cases h : st.kin 1 = true
   . rw [if_pos h, if_pos h]
     have := names_more g (l ++ [((st.name s).1, st.t.at_)]) (st.name s).2; rw [List.map_append] at this
     simp only [List.map_cons, List.map_nil] at this
     rw [<- this]
     rfl
   . rw [if_neg h, if_neg h]
end
theorem num_small {w : World} {rb : Nat} {mv : Value} {s : ByteArray} {st : FS} (h : Rdy w rb mv s st) (hk : st.kin 2 = true) : decV st.t.t <= 99 := by
 obtain ⟨h0, c, k, t, r, hw, hp, hz⟩ := h.rd; have hk2 : st.t.kd = 2 := by unfold FS.kin at hk; simp at hk; exact hk.2
 obtain ⟨e1, e2, _⟩ := hp.good (by omega); obtain ⟨hd, h1, h2⟩ := hp.num (by omega)
 rcases h2 with ⟨_, h3, _⟩ | ⟨h3, _⟩
 . rw [<- e2]
   have hl : t.data.toList.length = t.size := by rw [Array.length_toList]; rfl
   have h4 := decF_lt t.data.toList 0 hd; unfold decV; have h5 : 10 ^ t.data.toList.length <= 10 ^ 2 := Nat.pow_le_pow_right (by decide) (by omega); omega
 . omega
end Go.Proofs.YtockffblncdikaaGreatDoor
