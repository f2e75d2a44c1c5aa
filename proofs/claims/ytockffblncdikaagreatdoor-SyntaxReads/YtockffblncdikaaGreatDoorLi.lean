/- The contract of listed. -/
import Derived.Test.YtockffblncdikaaGreatDoorLw
import Derived.Test.YtockffblncdikaaGreatDoorKb
import Derived.Deep.DeepCutAuto
import Derived.Deep.CutBlock
namespace Go.Proofs.YtockffblncdikaaGreatDoor
open Go.RowKit
set_option maxRecDepth 100000
set_option maxHeartbeats 16000000
def RowP (w : World) (n1 : Nat) (v : Value) (ps : List Pc) : Prop := w.ownsRow n1 106 6 v ps.length (flatP ps)
theorem RowP.nil (w : World) (n1 : Nat) : RowP w n1 (.slice none 0 0) [] := World.ownsRow_nil _ _ _ _
theorem RowP.snoc {w : World} {n1 m : Nat} {v : Value} {ps qs : List Pc} (h : w.ownsRow n1 106 6 v (ps.length + m) (flatP ps ++ flatP qs)) (hm : qs.length = m) : RowP w n1 v (ps ++ qs) := by
 subst hm; unfold RowP; rw [flatP_append, List.length_append]; exact h
theorem flatP_get : ∀ (ps : List Pc) (i : Nat) (hi : i < ps.length) (q : Nat), q < 6 -> (flatP ps)[i * 6 + q]? = ps[i].cells[q]?
 | p :: ps, i, hi, q, hq => by
   have e : flatP (p :: ps) = p.cells.toList ++ flatP ps := rfl; have hp : p.cells.toList.length = 6 := by rw [Array.length_toList, p.size]
   rw [e]
   cases i with
   | zero =>
     rw [List.getElem?_append_left (by omega)]
     simp
   | succ i =>
     rw [List.getElem?_append_right (by omega), hp]; have e2 : (i + 1) * 6 + q - 6 = i * 6 + q := by omega
     rw [e2]; exact flatP_get ps i (by simpa using hi) q hq
theorem RowP.open {w : World} {n1 : Nat} {v : Value} {ps : List Pc} (h : RowP w n1 v ps) : ∃ A c, v = .slice A ps.length c /\ PsIn w n1 A ps := by
 rcases h.2 with ⟨e, h0⟩ | ⟨g, cap, cur, e, hb, hg, hnc, _, hcs, htake⟩
 . have : ps = [] := List.eq_nil_of_length_eq_zero h0
   subst this; exact ⟨none, 0, e, PsIn.nil _ _ _⟩
 . refine ⟨_, cap, e, fun i hi => ⟨g, rfl, hb, fun q hq => ?_⟩⟩
   have hlt : i * 6 + q < ps.length * 6 := by omega
   have hc : w.cell? ⟨g, i * 6 + q, none⟩ = cur[i * 6 + q]? := by simp [World.cell?, hg]
   have e1 : (cur.toList.take (ps.length * 6))[i * 6 + q]? = cur[i * 6 + q]? := by rw [List.getElem?_take, if_pos hlt]; simp
   rw [hc, <- e1, htake]; exact flatP_get ps i hi q hq
def TxIn (w : World) (n1 : Nat) (A : Option Addr) (ts : List ByteArray) : Prop := ∀ i (h : i < ts.length), ∃ b, A = some ⟨b, 0, none⟩ /\ b < n1 /\ w.cell? ⟨b, i, none⟩ = some (.string ts[i])
theorem TxIn.later {w w' : World} {n1 : Nat} {A : Option Addr} {ts : List ByteArray} (h : TxIn w n1 A ts) (hb : Below n1 w w') : TxIn w' n1 A ts := fun i hi => by
 obtain ⟨b, e, h1, h2⟩ := h i hi; exact ⟨b, e, h1, (World.cell?_of_block (a := ⟨b, i, none⟩) (hb.block b h1)).trans h2⟩
theorem words_calls (ts : List ByteArray) (A : Option Addr) (c : Nat) (w : World) (hl : ts.length <= 1000000) (hx : TxIn w w.heap.size A ts) :
 Calls Tryz.prog 52 #[.slice A ts.length c] w fun e w' => ∃ v, e = .returned v /\ RowP w' w.heap.size v (ts.map Pc.tok) /\ Below w.heap.size w w' := by
 have HX := hide hx; have HR0 : Hid (RowP w w.heap.size (.slice none 0 0) ((ts.take 0).map Pc.tok)) := hide (RowP.nil _ _); have HB0 : Hid (Below w.heap.size w w) := hide (Below.refl _ _)
 obtain ⟨i0, hi, hz0, hz1, hz2⟩ := infoParts Tryz.info106; clear hx
 go_enter Tryz.func52, Tryz.ntmps52
 go_wp2_with fail
 go_loopg [3, 8] ts.length (fun g v i wr => ∃ (j : Nat) (A' : Option Addr) (c' : Nat), j + g = ts.length /\ v = .slice A' j c' /\ i = .int .i64 (j : Nat) /\ Hid (RowP wr w.heap.size (.slice A' j c') ((ts.take j).map Pc.tok)) /\ Hid (Below w.heap.size w wr))
 case atStart => exact ⟨0, none, 0, by omega, rfl, rfl, HR0, HB0⟩
 case round =>
  clear HR0 HB0; obtain ⟨j, A', c', hj, rfl, rfl, HR, HB⟩ := hrel
  by_cases hg0 : gk = 0
  . subst hg0
    have hj' : j = ts.length := by omega
    subst hj'; have hlt : ((ts.length : Int) < (ts.length : Int)) = False := by simp
    have HF : Hid (RowP wr w.heap.size (.slice A' ts.length c') (ts.map Pc.tok) /\ Below w.heap.size w wr) := hide ⟨by have := HR.out; rwa [List.take_length] at this, HB.out⟩; clear HR HB hj
    go_wp2_with fail
    go_ret; exact ⟨_, rfl, HF.out⟩
  . obtain ⟨g', rfl⟩ : ∃ g', gk = g' + 1 := ⟨gk - 1, by omega⟩
    have hjl : j < ts.length := by omega
    obtain ⟨b, rfl, hbn, hc⟩ := HX.out.later HB.out j hjl; obtain ⟨t, ht⟩ : ∃ t, t = ts[j] := ⟨_, rfl⟩; rw [<- ht] at hc; have HT := hide ht; clear ht
    have KW : Hid (Calls Tryz.prog 50 #[.string t] wr fun e w' => e = .returned (.agg #[.string t, .pointer none, .pointer none, .int .i64 0, .bool false, .int .i64 0]) /\ Below wr.heap.size wr w') := hide (word_calls t wr)
    have hzb := HB.out.size
    go_wp2_with (go_at_call 50; refine KW.out.mono ?_)
    intro e W4 h4; obtain ⟨rfl, hb4⟩ := h4; have hz4 := hb4.size; have hlen : ((ts.take j).map Pc.tok).length = j := by simp; omega
    obtain ⟨ps, hps⟩ : ∃ ps, ps = (ts.take j).map Pc.tok := ⟨_, rfl⟩; rw [<- hps] at hlen HR; have HPs := hide hps; clear hps
    have HO4 := hide (show (W4.alloc (.cells #[.string t, .pointer none, .pointer none, .int .i64 0, .bool false, .int .i64 0] 106)).ownsRow w.heap.size 106 6 (.slice A' j c') j (flatP ps) from by
     have h1 : wr.ownsRow w.heap.size 106 6 (.slice A' j c') ps.length (flatP ps) := HR.out; rw [hlen] at h1; exact (h1.kept (Below.grown0 hb4) (Classical.em _)).kept (World.grownBy_alloc _ _ none) (Classical.em _))
    have HB4 := hide (HB.out.trans (hb4.mono hzb)); clear hb4 KW HR HB hc
    go_wp2_with (at_builtin; refine wpList_append_placed _ rfl _ _ 72 rfl w.heap.size 106 i0 _ 6 56 Tryz.underlying72 hi hz0 hz1 hz2 rfl (by decide) (.slice A' j c') j _ rfl HO4.out ⟨W4.heap.size, 0, none⟩ 1 1 [.string t, .pointer none, .pointer none, .int .i64 0, .bool false, .int .i64 0] rfl rfl (cells_new _ _ _) (Pc.one (.tok t)) (by decide) (by unfold maxLen; omega) (by omega) (by simp; omega) ?_)
    intro v' w6 hown6 hgr6 hpl6; have htk : (ts.take j).map Pc.tok ++ [Pc.tok ts[j]] = (ts.take (j + 1)).map Pc.tok := by rw [List.take_succ_eq_append_getElem hjl, List.map_append]; rfl
    have HR6 : Hid (RowP w6 w.heap.size v' ((ts.take (j + 1)).map Pc.tok)) := hide (by
     rw [<- htk, <- HPs.out]; refine RowP.snoc (m := 1) ?_ rfl; rw [hlen, flatP_one, <- HT.out]; exact hown6)
    have HB6 : Hid (Below w.heap.size w w6) := hide (by
     have h5 := HB4.out.alloc (show w.heap.size <= W4.heap.size by omega) (.cells #[.string t, .pointer none, .pointer none, .int .i64 0, .bool false, .int .i64 0] 106)
     exact h5.grown hgr6 h5.size (fun k hk => (HO4.out.lt k hk).1))
    obtain ⟨A6, c6, hv6⟩ := own_row_slice hown6; subst hv6; clear hown6 hgr6 hpl6 HO4 HB4 htk hlen
    go_wp2_with fail
    go_roundg g'
    case measure => omega
    case rel => exact ⟨j + 1, A6, c6, by omega, rfl, by go_num, HR6, HB6⟩
def lsg (i : Nat) : ByteArray := if i = 0 then sLevels else sComma
def pairs (pcs : List Pc) : Nat -> List Pc
 | 0 => []
 | j + 1 => pairs pcs j ++ [.tok (lsg j), pcs.getD j (.tok ⟨#[]⟩)]
def lstP (pcs : List Pc) : List Pc := pairs pcs pcs.length ++ (if pcs = [] then [] else [.tok sUnbrace])
theorem pairs_len (pcs : List Pc) : ∀ j, (pairs pcs j).length = j * 2
 | 0 => rfl
 | j + 1 => by simp only [pairs, List.length_append, pairs_len pcs j, List.length_cons, List.length_nil]; omega
theorem listed_calls (pcs : List Pc) (A : Option Addr) (c n1 : Nat) (w : World) (hl : pcs.length <= 1000000) (hx : PsIn w n1 A pcs) :
 Calls Tryz.prog 51 #[.slice A pcs.length c] w fun e w' => ∃ v, e = .returned v /\ RowP w' w.heap.size v (lstP pcs) /\ Below w.heap.size w w' := by
 have HX := hide hx; have HR0 : Hid (RowP w w.heap.size (.slice none 0 0) (pairs pcs 0)) := hide (RowP.nil _ _); have HB0 : Hid (Below w.heap.size w w) := hide (Below.refl _ _)
 obtain ⟨i0, hi, hz0, hz1, hz2⟩ := infoParts Tryz.info106
 have HL : Hid (∀ j, j = pcs.length -> 0 < j -> lstP pcs = pairs pcs j ++ [.tok sUnbrace]) := hide fun j hj h0 => by
  subst hj; unfold lstP; rw [if_neg (fun e => by rw [e] at h0; exact absurd h0 (by decide))]
 have HL0 : Hid (pcs.length = 0 -> lstP pcs = []) := hide fun h => by rw [List.eq_nil_of_length_eq_zero h]; rfl
 clear hx
 go_enter Tryz.func51, Tryz.ntmps51
 go_wp2_with fail
 go_loopg [3, 4, 9] pcs.length (fun g v sv i wr => ∃ (j : Nat) (A' : Option Addr) (c' : Nat), j + g = pcs.length /\ v = .slice A' (j * 2) c' /\ sv = .string (lsg j) /\ i = .int .i64 (j : Nat) /\ Hid (RowP wr w.heap.size (.slice A' (j * 2) c') (pairs pcs j)) /\ Hid (Below w.heap.size w wr))
 case atStart => exact ⟨0, none, 0, by omega, rfl, rfl, rfl, HR0, HB0⟩
 case round =>
  clear HR0 HB0; obtain ⟨j, A', c', hj, rfl, rfl, rfl, HR, HB⟩ := hrel
  by_cases hg0 : gk = 0
  . subst hg0
    have hj' : j = pcs.length := by omega
    clear hj
    by_cases h0 : j = 0
    . subst h0
      have HF : Hid (RowP wr w.heap.size (.slice A' 0 c') (lstP pcs) /\ Below w.heap.size w wr) := hide ⟨by rw [HL0.out hj'.symm]; exact HR.out, HB.out⟩; rw [<- hj'] at *; clear HR HB
      go_wp2_with fail
      go_ret; exact ⟨_, rfl, HF.out⟩
    . have hjp : ((j : Int) > 0) = True := by simp; omega
      have HE := hide (HL.out j hj' (by omega)); have hjl : j <= 1000000 := by omega
      have KW : Hid (Calls Tryz.prog 50 #[.string sUnbrace] wr fun e w' => e = .returned (.agg #[.string sUnbrace, .pointer none, .pointer none, .int .i64 0, .bool false, .int .i64 0]) /\ Below wr.heap.size wr w') := hide (word_calls sUnbrace wr)
      have hzb := HB.out.size; rw [<- hj'] at *; clear hj'
      go_wp2_with (go_at_call 50; refine KW.out.mono ?_)
      intro e W4 h4; obtain ⟨rfl, hb4⟩ := h4; have hz4 := hb4.size; have hlen := pairs_len pcs j
      have HO4 := hide (show (W4.alloc (.cells #[.string sUnbrace, .pointer none, .pointer none, .int .i64 0, .bool false, .int .i64 0] 106)).ownsRow w.heap.size 106 6 (.slice A' (j * 2) c') (j * 2) (flatP (pairs pcs j)) from by
       have h1 : wr.ownsRow w.heap.size 106 6 (.slice A' (j * 2) c') (pairs pcs j).length (flatP (pairs pcs j)) := HR.out; rw [hlen] at h1
       exact (h1.kept (Below.grown0 hb4) (Classical.em _)).kept (World.grownBy_alloc _ _ none) (Classical.em _))
      have HB4 := hide (HB.out.trans (hb4.mono hzb)); clear hb4 KW HR HB
      go_wp2_with (at_builtin; refine wpList_append_placed _ rfl _ _ 72 rfl w.heap.size 106 i0 _ 6 56 Tryz.underlying72 hi hz0 hz1 hz2 rfl (by decide) (.slice A' (j * 2) c') (j * 2) _ rfl HO4.out ⟨W4.heap.size, 0, none⟩ 1 1 [.string sUnbrace, .pointer none, .pointer none, .int .i64 0, .bool false, .int .i64 0] rfl rfl (cells_new _ _ _) (Pc.one (.tok sUnbrace)) (by decide) (by unfold maxLen; omega) (by omega) (by simp; omega) ?_)
      intro v' w6 hown6 hgr6 hpl6
      have HR6 : Hid (RowP w6 w.heap.size v' (lstP pcs)) := hide (by
       rw [HE.out]; refine RowP.snoc (m := 1) ?_ rfl; rw [hlen, flatP_one]; exact hown6)
      have HB6 : Hid (Below w.heap.size w w6) := hide (by
       have h5 := HB4.out.alloc (show w.heap.size <= W4.heap.size by omega) (.cells #[.string sUnbrace, .pointer none, .pointer none, .int .i64 0, .bool false, .int .i64 0] 106)
       exact h5.grown hgr6 h5.size (fun k hk => (HO4.out.lt k hk).1))
      obtain ⟨A6, c6, hv6⟩ := own_row_slice hown6; subst hv6; clear hown6 hgr6 hpl6 HO4 HB4 hlen
      go_wp2_with fail
      go_ret; exact ⟨_, rfl, HR6.out, HB6.out⟩
  . obtain ⟨g', rfl⟩ : ∃ g', gk = g' + 1 := ⟨gk - 1, by omega⟩
    have hjl : j < pcs.length := by omega
    obtain ⟨b, rfl, hbn, hc⟩ := HX.out j hjl; obtain ⟨s, p1, p2, kk, bb, ff, hce⟩ := Pc.shape pcs[j]; rw [hce] at hc
    have hcl : ∀ q u, w.cell? ⟨b, q, none⟩ = some u -> wr.cell? ⟨b, q, none⟩ = some u := fun q u h => cell_later HB.out h
    have e0 : wr.cell? ⟨b, j * 6, none⟩ = some (.string s) := hcl _ _ (hc 0 (by omega)); have e1 : wr.cell? ⟨b, j * 6 + 1, none⟩ = some (.pointer p1) := hcl _ _ (hc 1 (by omega))
    have e2 : wr.cell? ⟨b, j * 6 + 2, none⟩ = some (.pointer p2) := hcl _ _ (hc 2 (by omega)); have e3 : wr.cell? ⟨b, j * 6 + 3, none⟩ = some (.int .i64 kk) := hcl _ _ (hc 3 (by omega))
    have e4 : wr.cell? ⟨b, j * 6 + 4, none⟩ = some (.bool bb) := hcl _ _ (hc 4 (by omega)); have e5 : wr.cell? ⟨b, j * 6 + 5, none⟩ = some (.int .i64 ff) := hcl _ _ (hc 5 (by omega))
    have hgd : pcs.getD j (.tok ⟨#[]⟩) = pcs[j] := by rw [List.getD_eq_getElem?_getD, List.getElem?_eq_getElem hjl]; rfl
    have HPr : Hid (flatP [.tok (lsg j), pcs.getD j (.tok ⟨#[]⟩)] = [.string (lsg j), .pointer none, .pointer none, .int .i64 0, .bool false, .int .i64 0, .string s, .pointer p1, .pointer p2, .int .i64 kk, .bool bb, .int .i64 ff]) := hide (by rw [hgd]; show (Pc.tok (lsg j)).cells.toList ++ (pcs[j].cells.toList ++ []) = _; rw [hce]; rfl)
    have HPs : Hid (pairs pcs (j + 1) = pairs pcs j ++ [.tok (lsg j), pcs.getD j (.tok ⟨#[]⟩)]) := hide rfl; have HSg : Hid (lsg (j + 1) = sComma) := hide rfl; have hlen := pairs_len pcs j
    have HR' : Hid (wr.ownsRow w.heap.size 106 6 (.slice A' (j * 2) c') (j * 2) (flatP (pairs pcs j))) := hide (by
     have h1 : wr.ownsRow w.heap.size 106 6 (.slice A' (j * 2) c') (pairs pcs j).length (flatP (pairs pcs j)) := HR.out
     rwa [hlen] at h1)
    generalize lsg j = sg at *; have hbx := heap_alloc_new wr (.cells #[.string s, .pointer p1, .pointer p2, .int .i64 kk, .bool bb, .int .i64 ff] 106)
    have HBx : Hid (Below wr.heap.size wr (wr.alloc (.cells #[.string s, .pointer p1, .pointer p2, .int .i64 kk, .bool bb, .int .i64 ff] 106))) := hide ((Below.refl _ _).alloc (Nat.le_refl _) _)
    clear hc hce hgd hcl HR hbn
    go_upto_region 6 with fail
    generalize (wr.alloc (.cells #[.string s, .pointer p1, .pointer p2, .int .i64 kk, .bool bb, .int .i64 ff] 106)) = W5 at *
    have HG : Hid (∀ W, Below W5.heap.size W5 W -> W.cell? ⟨wr.heap.size, 0, none⟩ = some (.string s) /\ W.cell? ⟨wr.heap.size, 1, none⟩ = some (.pointer p1) /\ W.cell? ⟨wr.heap.size, 2, none⟩ = some (.pointer p2) /\ W.cell? ⟨wr.heap.size, 3, none⟩ = some (.int .i64 kk) /\ W.cell? ⟨wr.heap.size, 4, none⟩ = some (.bool bb) /\ W.cell? ⟨wr.heap.size, 5, none⟩ = some (.int .i64 ff)) := hide fun W hW => ⟨cell_later hW (cell_of hbx 0 rfl), cell_later hW (cell_of hbx 1 rfl), cell_later hW (cell_of hbx 2 rfl), cell_later hW (cell_of hbx 3 rfl), cell_later hW (cell_of hbx 4 rfl), cell_later hW (cell_of hbx 5 rfl)⟩
    have HO : Hid (∀ W, Below W5.heap.size W5 W -> (W.alloc (.cells #[.string sg, .pointer none, .pointer none, .int .i64 0, .bool false, .int .i64 0, .string s, .pointer p1, .pointer p2, .int .i64 kk, .bool bb, .int .i64 ff] 106)).ownsRow w.heap.size 106 6 (.slice A' (j * 2) c') (j * 2) (flatP (pairs pcs j))) := hide fun W hW => ((HR'.out.kept (Below.grown0 HBx.out) (Classical.em _)).kept (Below.grown0 hW) (Classical.em _)).kept (World.grownBy_alloc _ _ none) (Classical.em _)
    have HBw : Hid (∀ W, Below W5.heap.size W5 W -> w.heap.size <= W.heap.size /\ Below w.heap.size w (W.alloc (.cells #[.string sg, .pointer none, .pointer none, .int .i64 0, .bool false, .int .i64 0, .string s, .pointer p1, .pointer p2, .int .i64 kk, .bool bb, .int .i64 ff] 106))) := hide fun W hW => by
     have z1 := HB.out.size; have z2 := HBx.out.size; have z3 := hW.size; exact ⟨by omega, (((HB.out.trans (HBx.out.mono z1)).trans (hW.mono (by omega)))).alloc (by omega) _⟩
    have KWc : Hid (∀ (W : World), Calls Tryz.prog 50 #[.string sg] W fun e w' => ∃ v, e = .returned (.agg v) /\ (v = #[.string sg, .pointer none, .pointer none, .int .i64 0, .bool false, .int .i64 0] /\ Below W.heap.size W w')) := hide fun W => (word_calls sg W).mono fun e w' ⟨h1, h2⟩ => ⟨_, h1, rfl, h2⟩
    have hb : Hid (Below W5.heap.size W5 W5.drew) := hide (Below.refl _ _).drew; obtain ⟨s0, s1, s2, s3, s4, s5⟩ := HG.out _ hb.out; clear hbx e0 e1 e2 e3 e4 e5 HBx HB
    go_wp2_with fail
    go_region_law (first
     | ((refine step_cop (f := 50) rfl ?_ (KWc.out _) ?_; · (simp [go_sem]; done))
        rintro v w1 ⟨rfl, hq⟩; replace hb := hide (hb.out.trans (hq.mono hb.out.size)); obtain ⟨s0, s1, s2, s3, s4, s5⟩ := HG.out _ hb.out; clear hq)
     | (refine step_append_own rfl (.tmp 13) (.tmp 17) 72 rfl w.heap.size 106 i0 _ 6 56 Tryz.underlying72 hi hz0 hz1 hz2 rfl (by decide) (.slice A' (j * 2) c') (j * 2) (flatP (pairs pcs j)) ?_ (HO.out _ hb.out) ⟨w1.heap.size, 0, none⟩ 2 2 [.string sg, .pointer none, .pointer none, .int .i64 0, .bool false, .int .i64 0, .string s, .pointer p1, .pointer p2, .int .i64 kk, .bool bb, .int .i64 ff] ?_ rfl ?_ ?_ (by decide) ?_ ?_ ?_ ?_
        . rfl
        . rfl
        . exact cells_new _ _ _
        . intro u hu; simp at hu; rcases hu with rfl | rfl | rfl | rfl | rfl | rfl | rfl | rfl | rfl | rfl | rfl | rfl <;> rfl
        . unfold maxLen; omega
        . omega
        . exact (HBw.out _ hb.out).2.size
        intro v' w6 hown6 hgr6 hpl6
        have HR6 : Hid (RowP w6 w.heap.size v' (pairs pcs (j + 1))) := hide (by
         rw [HPs.out]; refine RowP.snoc (m := 2) ?_ rfl; rw [HPr.out, pairs_len]; exact hown6)
        have HB6 : Hid (Below w.heap.size w w6) := hide ((HBw.out _ hb.out).2.grown hgr6 (HBw.out _ hb.out).2.size (fun k hk => ((HO.out _ hb.out).lt k hk).1)); obtain ⟨A6, c6, hv6⟩ := own_row_slice hown6
        subst hv6; clear hown6 hgr6 hpl6))
    all_goals
     clear HO HBw HG KWc hb
     go_wp2_with fail
     go_roundg g'
     case measure => omega
     case rel => exact ⟨j + 1, A6, c6, by omega, by rw [Nat.add_mul], by rw [HSg.out], by go_num, by rw [Nat.add_mul]; exact by simpa [Nat.add_mul] using HR6, HB6⟩
end Go.Proofs.YtockffblncdikaaGreatDoor
