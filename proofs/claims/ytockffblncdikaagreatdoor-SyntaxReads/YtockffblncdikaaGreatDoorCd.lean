/- The contract of called. -/
import Derived.Test.YtockffblncdikaaGreatDoorLi
namespace Go.Proofs.YtockffblncdikaaGreatDoor
open Go.RowKit
set_option maxRecDepth 100000
set_option maxHeartbeats 16000000
theorem commaK_snoc (t : List ByteArray) : ∀ ts : List (List ByteArray), commaK (ts ++ [t]) = if ts = [] then t else commaK ts ++ sComma :: t
 | [] => rfl
 | [u] => rfl
 | u :: v :: ts => by
   have h := commaK_snoc t (v :: ts); rw [if_neg (by simp)] at h ⊢; show u ++ sComma :: commaK ((v :: ts) ++ [t]) = _; rw [h]; show _ = (u ++ sComma :: commaK (v :: ts)) ++ sComma :: t
   simp
theorem pairs_toks (pcs : List Pc) : ∀ j, 0 < j -> j <= pcs.length -> (pairs pcs j).flatMap Pc.toks = sLevels :: commaK ((pcs.take j).map Pc.toks)
 | 0, h, _ => absurd h (by decide)
 | j + 1, _, hj => by
   have hjl : j < pcs.length := by omega
   have hgd : pcs.getD j (.tok ⟨#[]⟩) = pcs[j] := by rw [List.getD_eq_getElem?_getD, List.getElem?_eq_getElem hjl]; rfl
   have e : pairs pcs (j + 1) = pairs pcs j ++ [.tok (lsg j), pcs[j]] := by rw [<- hgd]; rfl
   rw [e, List.take_succ_eq_append_getElem hjl, List.map_append, List.flatMap_append]
   show (pairs pcs j).flatMap Pc.toks ++ (lsg j :: (pcs[j].toks ++ [])) = sLevels :: commaK ((pcs.take j).map Pc.toks ++ [pcs[j].toks]); rw [commaK_snoc, List.append_nil]
   by_cases h0 : j = 0
   . subst h0
     rfl
   . rw [pairs_toks pcs j (by omega) (by omega), if_neg (by
      intro e; have := congrArg List.length e
      simp at this
      rcases this with h | h
      . exact h0 h
      . subst h; exact absurd hjl (by simp))]
     rw [show lsg j = sComma from if_neg h0]
     simp
theorem lst_toks {pcs : List Pc} (h : pcs ≠ []) : (lstP pcs).flatMap Pc.toks = listK (pcs.map Pc.toks) := by
 have hl : 0 < pcs.length := List.length_pos_iff.2 h; unfold lstP listK; rw [if_neg h, List.flatMap_append, pairs_toks pcs _ hl (Nat.le_refl _), List.take_length]
 rfl
theorem pairs_wt (pcs : List Pc) : ∀ j, j <= pcs.length -> wtS (pairs pcs j) = wtS (pcs.take j) + j
 | 0, _ => by simp [pairs, wtS]
 | j + 1, hj => by
   have hjl : j < pcs.length := by omega
   have hgd : pcs.getD j (.tok ⟨#[]⟩) = pcs[j] := by rw [List.getD_eq_getElem?_getD, List.getElem?_eq_getElem hjl]; rfl
   have e : pairs pcs (j + 1) = pairs pcs j ++ [.tok (lsg j), pcs[j]] := by rw [<- hgd]; rfl
   rw [e, List.take_succ_eq_append_getElem hjl, wtS_append, wtS_append, pairs_wt pcs j (by omega), wtS_one]; have : wtS [.tok (lsg j), pcs[j]] = 1 + pcs[j].wt := by simp [wtS, Pc.wt]
   omega
theorem lst_wt (pcs : List Pc) : wtS (lstP pcs) <= wtS pcs + pcs.length + 1 := by
 unfold lstP; rw [wtS_append, pairs_wt pcs _ (Nat.le_refl _), List.take_length]
 split <;> simp [wtS, Pc.wt]
theorem lst_len (pcs : List Pc) : (lstP pcs).length <= pcs.length * 2 + 1 := by
 unfold lstP; rw [List.length_append, pairs_len]
 split <;> simp
theorem lst_ok {w : World} {n0 : Nat} {pcs : List Pc} (h : ∀ p ∈ pcs, p.Ok w n0) : ∀ p ∈ lstP pcs, p.Ok w n0 := by
 have hs : ∀ j, (lsg j).size <= 100 := fun j => by unfold lsg; split <;> decide
 have hp : ∀ j, j <= pcs.length -> ∀ p ∈ pairs pcs j, p.Ok w n0 := fun j => by
  induction j with
  | zero => intro _ p hp; simp [pairs] at hp
  | succ j ih =>
    intro hj p hp; have hjl : j < pcs.length := by omega
    have hgd : pcs.getD j (.tok ⟨#[]⟩) = pcs[j] := by rw [List.getD_eq_getElem?_getD, List.getElem?_eq_getElem hjl]; rfl
    have e : pairs pcs (j + 1) = pairs pcs j ++ [.tok (lsg j), pcs[j]] := by rw [<- hgd]; rfl
    rw [e] at hp
    rcases List.mem_append.1 hp with hp | hp
    . exact ih (by omega) p hp
    . rcases List.mem_cons.1 hp with rfl | hp
      . exact hs j
      . rw [List.mem_singleton.1 hp]
        exact h _ (List.getElem_mem hjl)
 intro p hq; unfold lstP at hq
 rcases List.mem_append.1 hq with hq | hq
 . exact hp _ (Nat.le_refl _) p hq
 . split at hq
   . simp at hq
   . rw [List.mem_singleton.1 hq]
     show sUnbrace.size <= 100
     decide
def levsP (ls : List LvB) (g : Nat) : Nat -> List Pc
 | 0 => []
 | j + 1 => levsP ls g j ++ [.lv (ls.getD j .zero) g (j * 3) 0]
theorem levs_len (ls : List LvB) (g : Nat) : ∀ j, (levsP ls g j).length = j
 | 0 => rfl
 | j + 1 => by simp only [levsP, List.length_append, levs_len ls g j, List.length_singleton]
theorem getD_lt {α : Type} {ls : List α} {j : Nat} (d : α) (h : j < ls.length) : ls.getD j d = ls[j] := by rw [List.getD_eq_getElem?_getD, List.getElem?_eq_getElem h]; rfl
theorem levs_toks (ls : List LvB) (g : Nat) : ∀ j, j <= ls.length -> (levsP ls g j).map Pc.toks = (ls.take j).map fun l => lvK l 0
 | 0, _ => by simp [levsP]
 | j + 1, hj => by
   have hjl : j < ls.length := by omega
   rw [levsP, List.take_succ_eq_append_getElem hjl, List.map_append, List.map_append, levs_toks ls g j (by omega), getD_lt _ hjl]
   rfl
theorem levs_wt (ls : List LvB) (g : Nat) : ∀ j, j <= ls.length -> wtS (levsP ls g j) + j * 2 = ((ls.take j).map fun l => lw l + 2).sum
 | 0, _ => by simp [levsP, wtS]
 | j + 1, hj => by
   have hjl : j < ls.length := by omega
   have := levs_wt ls g j (by omega); rw [levsP, List.take_succ_eq_append_getElem hjl, List.map_append, List.sum_append, wtS_append, wtS_one, getD_lt _ hjl, <- this]
   simp only [Pc.wt, List.map_cons, List.map_nil, List.sum_cons, List.sum_nil]
   omega
theorem levs_ok {w : World} {n0 g : Nat} {ls : List LvB} (h : ∀ i (hi : i < ls.length), LAt w (fun b => b < n0) ls[i] g (i * 3)) (hg : ∀ x ∈ ls, GoodAt x 0) : ∀ j, j <= ls.length -> ∀ p ∈ levsP ls g j, p.Ok w n0 := fun j => by
 induction j with
 | zero => intro _ p hp; simp [levsP] at hp
 | succ j ih =>
   intro hj p hp; have hjl : j < ls.length := by omega
   rw [levsP] at hp
   rcases List.mem_append.1 hp with hp | hp
   . exact ih (by omega) p hp
   . rw [List.mem_singleton.1 hp, getD_lt _ hjl]
     exact ⟨h j hjl, hg _ (List.getElem_mem hjl), by omega⟩
theorem PsIn.mono {w : World} {n1 n2 : Nat} {A : Option Addr} {pcs : List Pc} (h : PsIn w n1 A pcs) (hn : n2 <= n1) : PsIn w n2 A pcs := fun i hi => by
 obtain ⟨b, e, h1, h2⟩ := h i hi; exact ⟨b, e, Nat.le_trans hn h1, h2⟩
section
variable {n0 pb : Nat} {wb : Wk} {tg : Bool} {l : List UInt8} {st : List Pc} {B : Prop}
theorem StepG.of {w w' : World} {tk : List ByteArray} {m : Nat} {st2 : List Pc} (h : PS w' n0 pb wb l tg (st ++ st2)) (hb : Below n0 w w') (hlen : (st ++ st2).length <= 33554432) (hw : wtS st2 < m) (ht : popT st2 = tk) : StepG B n0 w pb wb l tg st tk m (.returned (.tuple #[])) w' :=
 .inl ⟨l, tg, st2, rfl, h, hb, hlen, Nat.le_refl _, hw, fun _ => ⟨rfl, rfl, ht⟩⟩
def NextR (B : Prop) (n0 : Nat) (w : World) (pb : Nat) (wb : Wk) (l : List UInt8) (tg : Bool) (st : List Pc) (e : Ending) (w' : World) : Prop := (e = .returned (.tuple #[]) /\ PS w' n0 pb wb l tg st /\ Below n0 w w' /\ st.length <= 33554432) \/ (B /\ Thr n0 w e w')
theorem NextR.form {w w' : World} {e : Ending} (h : NextR B n0 w pb wb l tg st e w') : e = .returned (.tuple #[]) \/ ∃ fb, e = .panicked [{ v := .iface 41 (.pointer (some ⟨fb, 0, none⟩)), recovered := false }] := by
 rcases h with ⟨he, _⟩ | ⟨_, _, fb, he⟩
 . exact .inl he
 . exact .inr ⟨fb, he⟩
theorem next_at (pcs : List Pc) {A : Option Addr} {c n1 : Nat} {w W : World} (hn : w.heap.size <= n1) (hp : PsIn W n1 A pcs) (hok : ∀ q ∈ pcs, q.Ok w n0) (hl : pcs.length <= 1000000000) (h : PS w n0 pb wb l tg st) (hb : Below w.heap.size w W) (hst : st.length <= 33554432) (hB : B \/ (st ++ pcs.reverse).length <= 33554432) :
 Calls Tryz.prog 74 #[.pointer (some ⟨pb, 0, none⟩), .slice A pcs.length c] W fun e w' => NextR B n0 w pb wb l tg (st ++ pcs.reverse) e w' := by
 have hlo := h.lo; have hlt := h.lt; have hlen : (st ++ pcs.reverse).length = st.length + pcs.length := by rw [List.length_append, List.length_reverse]
 rw [hlen] at hB; refine (next_calls (B := B) pcs A c w W h hb (hp.mono hn) hok (by omega) hB).mono ?_; intro e w' hr; have hb2 : Below n0 w W := hb.mono (by omega)
 rcases hr with ⟨he, hP, hB2, hn⟩ | ⟨hb', hth⟩
 . exact .inl ⟨he, hP, hb2.trans hB2, by rw [hlen]; exact hn⟩
 . exact .inr ⟨hb', hth.from hb2⟩
theorem next_made (pcs : List Pc) (cs : Array Value) {c : Nat} (hcs : cs.toList = flatP pcs) {w W : World} (hok : ∀ q ∈ pcs, q.Ok w n0) (hl : pcs.length <= 1000000000) (h : PS w n0 pb wb l tg st) (hb : Below w.heap.size w W) (hst : st.length <= 33554432) (hB : B \/ (st ++ pcs.reverse).length <= 33554432) :
 Calls Tryz.prog 74 #[.pointer (some ⟨pb, 0, none⟩), .slice (some ⟨W.heap.size, 0, none⟩) pcs.length c] (W.alloc (.cells cs 106)) fun e w' => NextR B n0 w pb wb l tg (st ++ pcs.reverse) e w' :=
 next_at pcs (Nat.le_refl _) (PsIn.made W w.heap.size hb.size pcs cs hcs 106) hok hl h (hb.alloc hb.size _) hst hB
end
section
variable {n0 pb : Nat} {wb : Wk} {tg : Bool} {l : List UInt8} {st : List Pc} {B : Prop}
theorem NextR.good {w w' : World} {st : List Pc} (h : NextR B n0 w pb wb l tg st (.returned (.tuple #[])) w') : PS w' n0 pb wb l tg st /\ Below n0 w w' /\ st.length <= 33554432 := by
 rcases h with ⟨_, h⟩ | ⟨_, _, fb, he⟩
 . exact h
 . cases he
theorem NextR.bad {w0 w w' : World} {st' : List Pc} {tk : List ByteArray} {m : Nat} {fb : Nat} (h : NextR B n0 w pb wb l tg st' (.panicked [{ v := .iface 41 (.pointer (some ⟨fb, 0, none⟩)), recovered := false }]) w') (hb : Below n0 w0 w) : StepG B n0 w0 pb wb l tg st tk m (.panicked [{ v := .iface 41 (.pointer (some ⟨fb, 0, none⟩)), recovered := false }]) w' := by
 rcases h with ⟨he, _⟩ | ⟨hB, ht⟩
 . cases he
 . exact .inr ⟨hB, ht.from hb⟩
theorem roomB {st st2 : List Pc} {m : Nat} (h : B \/ wtS st + m <= 33554432) (hw : wtS st2 < m) : B \/ (st ++ st2).length <= 33554432 := by
 refine h.imp id fun h => ?_
 have h1 := wtS_len st; have h2 := wtS_len st2; rw [List.length_append]; omega
theorem pcalled_calls (a : Nat) (q : ByteArray) (ex gi : Bool) (ls : List LvB) (tk : List ByteArray) (m : Nat) (htk : tk = (if ex = true then [sAt] else []) ++ ([q] ++ (if gi = true then listK (ls.map fun l => lvK l 0) else []))) (hm : m = xw (.node 1 a q ex gi false false ls []) - 1) (hgi : gi = true -> ls ≠ []) (hq : q.size <= 100) (hgd : ∀ x ∈ ls, GoodAt x 0) (b o : Nat) (w : World) (hP : PS w n0 pb wb l tg st) (hX : XAt w (fun b => b < n0) (.node 1 a q ex gi false false ls []) b o) (hls : ls.length <= 1000000) (hst : st.length <= 33554432) (hB : B \/ wtS st + m <= 33554432) :
 Calls Tryz.prog 94 #[.pointer (some ⟨pb, 0, none⟩), .pointer (some ⟨b, o, none⟩)] w fun r w' => StepG B n0 w pb wb l tg st tk m r w' := by
 have hlo := hP.lo; have hlt := hP.lt; obtain ⟨A, c0, A', c', hltb, hbn, _, c2, c3, c4, _, _, c7, _, hkl, _⟩ := hX.open; have HP := hide hP; have HB := hide hB; have HTk := hide htk
 have HG : Hid (∀ W, Below n0 w W -> W.cell? ⟨b, o + 2, none⟩ = some (.string q) /\ W.cell? ⟨b, o + 3, none⟩ = some (.bool ex) /\ W.cell? ⟨b, o + 4, none⟩ = some (.bool gi) /\ W.cell? ⟨b, o + 7, none⟩ = some (.slice A ls.length c0)) := hide fun W hW => ⟨(World.cell?_of_block (a := ⟨b, o + 2, none⟩) (hW.block b hbn)).trans c2, (World.cell?_of_block (a := ⟨b, o + 3, none⟩) (hW.block b hbn)).trans c3, (World.cell?_of_block (a := ⟨b, o + 4, none⟩) (hW.block b hbn)).trans c4, (World.cell?_of_block (a := ⟨b, o + 7, none⟩) (hW.block b hbn)).trans c7⟩
 obtain ⟨g, hA⟩ : ∃ g, 0 < ls.length -> A = some ⟨g, 0, none⟩ := by
  by_cases h0 : 0 < ls.length
  . obtain ⟨g, e, _⟩ := hkl 0 h0
    exact ⟨g, fun _ => e⟩
  . exact ⟨0, fun h => absurd h h0⟩
 have hlv : ∀ i (hi : i < ls.length), LAt w (fun b => b < n0) ls[i] g (i * 3) := fun i hi => by
  obtain ⟨g', e, h⟩ := hkl i hi; have := slice_inj ((hA (by omega)).symm.trans e); subst this; exact h
 have HOk : Hid (∀ p ∈ levsP ls g ls.length, p.Ok w n0) := hide (levs_ok hlv hgd _ (Nat.le_refl _)); have hwt := levs_wt ls g ls.length (Nat.le_refl _); rw [List.take_length] at hwt
 have hxw : m = 23 + (ls.map fun l => lw l + 2).sum := by rw [hm, xw_node]; simp only [List.map_nil, List.sum_nil]; omega
 have HW : Hid (wtS (lstP (levsP ls g ls.length)) + 4 <= m /\ 4 <= m) := hide (by
  have := lst_wt (levsP ls g ls.length); rw [levs_len] at this; omega)
 have HR0 : Hid (RowP w w.heap.size (.slice none 0 0) (levsP ls g 0)) := hide (RowP.nil _ _); have HB0 : Hid (Below w.heap.size w w) := hide (Below.refl _ _); obtain ⟨i0, hi, hz0, hz1, hz2⟩ := infoParts Tryz.info106
 have HA := hide hA; have HGi := hide hgi; have hn0w : n0 <= w.heap.size := by omega
 clear hA hkl hlv hP hB hX c2 c3 c4 htk hm hgi hgd hwt hxw
 go_enter Tryz.func94, Tryz.ntmps94
 go_wp2_with fail
 go_loopg [4, 11] ls.length (fun k v i wr => ∃ (j : Nat) (A' : Option Addr) (c' : Nat), j + k = ls.length /\ v = .slice A' j c' /\ i = .int .i64 (j : Nat) /\ Hid (RowP wr w.heap.size (.slice A' j c') (levsP ls g j)) /\ Hid (Below w.heap.size w wr))
 case atStart => exact ⟨0, none, 0, by omega, rfl, rfl, HR0, HB0⟩
 case round =>
  clear HR0 HB0; obtain ⟨j, A', c', hj, rfl, rfl, HR, HB'⟩ := hrel; obtain ⟨d2, d3, d4, d7⟩ := HG.out _ (HB'.out.mono hn0w)
  by_cases hg0 : gk = 0
  . subst hg0
    have hj' : j = ls.length := by omega
    subst hj'; clear hj c7; have hlt0 : ((ls.length : Int) < (ls.length : Int)) = False := by simp
    cases gi with
    | false =>
      obtain ⟨st1, hst1⟩ : ∃ st1 : List Pc, st1 = [] := ⟨_, rfl⟩
      have HPT : Hid (PS wr n0 pb wb l tg (st ++ st1) /\ Below n0 w wr /\ (st ++ st1).length <= 33554432) := hide (by rw [hst1, List.append_nil]; exact ⟨HP.out.later HB'.out, HB'.out.mono hn0w, hst⟩)
      have HS1 : Hid (wtS st1 + 4 <= m /\ popT st1 = []) := hide ⟨by rw [hst1]; have := HW.out.2; show 0 + 4 <= m; omega, by rw [hst1]; rfl⟩; clear hst1 HR HB' d2 d3 d7
      obtain ⟨f2, f3, f4, f7⟩ := HG.out _ HPT.out.2.1
      have KW : Hid (Calls Tryz.prog 50 #[.string q] wr fun e w' => e = .returned (.agg #[.string q, .pointer none, .pointer none, .int .i64 0, .bool false, .int .i64 0]) /\ Below wr.heap.size wr w') := hide (word_calls q wr)
      go_wp2_with (go_at_call 50; refine KW.out.mono ?_)
      intro e W5 h5; obtain ⟨rfl, hb5⟩ := h5
      have KN := hide (next_made (B := B) (c := 1) [Pc.tok q] #[.string q, .pointer none, .pointer none, .int .i64 0, .bool false, .int .i64 0] rfl (oks_cons (show q.size <= 100 from hq) oks_nil) (by simp) HPT.out.1 hb5 HPT.out.2.2 (by rw [List.append_assoc]; exact roomB HB.out (by rw [wtS_append]; have := HS1.out.1; have e1 : wtS [Pc.tok q].reverse = 1 := rfl; omega)))
      clear KW hb5 f2 f4 f7
      go_wp2_with (go_at_call 74; refine KN.out.mono ?_)
      intro e W6 h6; have HF6 := hide h6
      rcases h6.form with rfl | ⟨fb, rfl⟩
      rotate_left
      . have HZ : Hid (StepG B n0 w pb wb l tg st tk m (.panicked [{ v := .iface 41 (.pointer (some ⟨fb, 0, none⟩)), recovered := false }]) W6) := hide (HF6.out.bad HPT.out.2.1)
        clear h6 KN
        go_wp2_with fail
        exact ⟨rfl, HZ.out⟩
      have HP6 : Hid (PS W6 n0 pb wb l tg (st ++ (st1 ++ [Pc.tok q])) /\ Below n0 w W6 /\ (st ++ (st1 ++ [Pc.tok q])).length <= 33554432) := hide (by
       obtain ⟨h1, h2, h3⟩ := HF6.out.good; rw [List.append_assoc] at h1 h3; exact ⟨h1, HPT.out.2.1.trans h2, h3⟩)
      obtain ⟨f2, f3, f4, f7⟩ := HG.out _ HP6.out.2.1; clear h6 KN HF6 HPT f2 f4 f7
      cases ex with
      | false =>
        have HZ : Hid (StepG B n0 w pb wb l tg st tk m (.returned (.tuple #[])) W6) := hide (StepG.of HP6.out.1 HP6.out.2.1 HP6.out.2.2 (by rw [wtS_append]; have := HS1.out.1; have e1 : wtS [Pc.tok q] = 1 := rfl; omega) (by rw [popT_append, HS1.out.2, HTk.out]; rfl))
        clear HP6
        go_wp2_with fail
        go_end0; exact HZ.out
      | true =>
        have KW : Hid (Calls Tryz.prog 50 #[.string sAt] W6 fun e w' => e = .returned (.agg #[.string sAt, .pointer none, .pointer none, .int .i64 0, .bool false, .int .i64 0]) /\ Below W6.heap.size W6 w') := hide (word_calls sAt W6)
        go_wp2_with (go_at_call 50; refine KW.out.mono ?_)
        intro e W7 h7; obtain ⟨rfl, hb7⟩ := h7
        have KN := hide (next_made (B := B) (c := 1) [Pc.tok sAt] #[.string sAt, .pointer none, .pointer none, .int .i64 0, .bool false, .int .i64 0] rfl (oks_cons (show sAt.size <= 100 by decide) oks_nil) (by simp) HP6.out.1 hb7 HP6.out.2.2 (by rw [List.append_assoc]; exact roomB HB.out (by rw [wtS_append, wtS_append]; have := HS1.out.1; have e1 : wtS [Pc.tok q] = 1 := rfl; have e2 : wtS [Pc.tok sAt].reverse = 1 := rfl; omega)))
        clear KW hb7
        go_wp2_with (go_at_call 74; refine KN.out.mono ?_)
        intro e W8 h8; have HF8 := hide h8
        rcases h8.form with rfl | ⟨fb, rfl⟩
        . have HZ : Hid (StepG B n0 w pb wb l tg st tk m (.returned (.tuple #[])) W8) := hide (by
           obtain ⟨h1, h2, h3⟩ := HF8.out.good; rw [List.append_assoc] at h1 h3
           exact StepG.of h1 (HP6.out.2.1.trans h2) h3 (by rw [wtS_append, wtS_append]; have := HS1.out.1; have e1 : wtS [Pc.tok q] = 1 := rfl; have e2 : wtS [Pc.tok sAt].reverse = 1 := rfl; omega) (by rw [popT_append, popT_append, HS1.out.2, HTk.out]; rfl))
          clear h8 KN
          go_wp2_with fail
          go_end0; exact HZ.out
        . have HZ : Hid (StepG B n0 w pb wb l tg st tk m (.panicked [{ v := .iface 41 (.pointer (some ⟨fb, 0, none⟩)), recovered := false }]) W8) := hide (HF8.out.bad HP6.out.2.1)
          clear h8 KN
          go_wp2_with fail
          exact ⟨rfl, HZ.out⟩
    | true =>
      obtain ⟨lp, hlp⟩ : ∃ lp, lp = lstP (levsP ls g ls.length) := ⟨_, rfl⟩; have HN : Hid (ls ≠ []) := hide (HGi.out rfl)
      have hne : levsP ls g ls.length ≠ [] := fun e => by
       have e2 := congrArg List.length e; rw [levs_len] at e2; exact HN.out (List.eq_nil_of_length_eq_zero e2)
      have HLp : Hid (wtS lp + 4 <= m /\ (∀ p ∈ lp, p.Ok w n0) /\ lp.flatMap Pc.toks = listK (ls.map fun l => lvK l 0) /\ lp.length <= 1000000000) := hide (by
       rw [hlp]; refine ⟨HW.out.1, lst_ok HOk.out, ?_, ?_⟩
       . rw [lst_toks hne, levs_toks ls g _ (Nat.le_refl _), List.take_length]
       . have := lst_len (levsP ls g ls.length)
         rw [levs_len] at this; omega)
      have KLi : Hid (Calls Tryz.prog 51 #[.slice A' ls.length c'] wr fun e w' => ∃ A2 c2, e = .returned (.slice A2 lp.length c2) /\ Hid (PsIn w' wr.heap.size A2 lp /\ Below wr.heap.size wr w')) := hide (by
       have hR := HR.out; obtain ⟨A2, c2, e2, hp⟩ := hR.open; rw [levs_len] at e2; injection e2 with e3 _ e4; subst e3; subst e4
       have h1 := listed_calls (levsP ls g ls.length) A' c' w.heap.size wr (by rw [levs_len]; exact hls) hp; rw [levs_len, <- hlp] at h1; refine h1.mono ?_; rintro e w' ⟨v, rfl, hv, hb⟩
       obtain ⟨A3, c3, e3, hp3⟩ := hv.open; exact ⟨A3, c3, by rw [e3], hp3, hb⟩)
      have HBr := hide HB'.out; clear hlp hne HR HB' d2 d3 d7 HN
      go_wp2_with (go_at_call 51; refine KLi.out.mono ?_)
      intro e W2 A2 c2 he H2; subst he
      have KN2 := hide (next_at (B := B) lp (c := c2) HBr.out.size H2.out.1 HLp.out.2.1 HLp.out.2.2.2 HP.out (HBr.out.trans (H2.out.2.mono HBr.out.size)) hst (roomB HB.out (by rw [wtS_reverse]; have := HLp.out.1; omega)))
      clear KLi H2
      go_wp2_with (go_at_call 74; refine KN2.out.mono ?_)
      intro e W3 h3; have HF3 := hide h3
      rcases h3.form with rfl | ⟨fb, rfl⟩
      rotate_left
      . have HZ : Hid (StepG B n0 w pb wb l tg st tk m (.panicked [{ v := .iface 41 (.pointer (some ⟨fb, 0, none⟩)), recovered := false }]) W3) := hide (HF3.out.bad (Below.refl _ _))
        clear h3 KN2
        go_wp2_with fail
        exact ⟨rfl, HZ.out⟩
      obtain ⟨st1, hst1⟩ : ∃ st1 : List Pc, st1 = lp.reverse := ⟨_, rfl⟩
      have HPT : Hid (PS W3 n0 pb wb l tg (st ++ st1) /\ Below n0 w W3 /\ (st ++ st1).length <= 33554432) := hide (by rw [hst1]; exact HF3.out.good)
      have HS1 : Hid (wtS st1 + 4 <= m /\ popT st1 = listK (ls.map fun l => lvK l 0)) := hide ⟨by rw [hst1, wtS_reverse]; exact HLp.out.1, by rw [hst1, popT_reverse]; exact HLp.out.2.2.1⟩
      clear hst1 h3 HF3 KN2 HBr HLp; obtain ⟨f2, f3, f4, f7⟩ := HG.out _ HPT.out.2.1
      have KW : Hid (Calls Tryz.prog 50 #[.string q] W3 fun e w' => e = .returned (.agg #[.string q, .pointer none, .pointer none, .int .i64 0, .bool false, .int .i64 0]) /\ Below W3.heap.size W3 w') := hide (word_calls q W3)
      go_wp2_with (go_at_call 50; refine KW.out.mono ?_)
      intro e W5 h5; obtain ⟨rfl, hb5⟩ := h5
      have KN := hide (next_made (B := B) (c := 1) [Pc.tok q] #[.string q, .pointer none, .pointer none, .int .i64 0, .bool false, .int .i64 0] rfl (oks_cons (show q.size <= 100 from hq) oks_nil) (by simp) HPT.out.1 hb5 HPT.out.2.2 (by rw [List.append_assoc]; exact roomB HB.out (by rw [wtS_append]; have := HS1.out.1; have e1 : wtS [Pc.tok q].reverse = 1 := rfl; omega)))
      clear KW hb5 f2 f4 f7
      go_wp2_with (go_at_call 74; refine KN.out.mono ?_)
      intro e W6 h6; have HF6 := hide h6
      rcases h6.form with rfl | ⟨fb, rfl⟩
      rotate_left
      . have HZ : Hid (StepG B n0 w pb wb l tg st tk m (.panicked [{ v := .iface 41 (.pointer (some ⟨fb, 0, none⟩)), recovered := false }]) W6) := hide (HF6.out.bad HPT.out.2.1)
        clear h6 KN
        go_wp2_with fail
        exact ⟨rfl, HZ.out⟩
      have HP6 : Hid (PS W6 n0 pb wb l tg (st ++ (st1 ++ [Pc.tok q])) /\ Below n0 w W6 /\ (st ++ (st1 ++ [Pc.tok q])).length <= 33554432) := hide (by
       obtain ⟨h1, h2, h3⟩ := HF6.out.good; rw [List.append_assoc] at h1 h3; exact ⟨h1, HPT.out.2.1.trans h2, h3⟩)
      obtain ⟨f2, f3, f4, f7⟩ := HG.out _ HP6.out.2.1; clear h6 KN HF6 HPT f2 f4 f7
      cases ex with
      | false =>
        have HZ : Hid (StepG B n0 w pb wb l tg st tk m (.returned (.tuple #[])) W6) := hide (StepG.of HP6.out.1 HP6.out.2.1 HP6.out.2.2 (by rw [wtS_append]; have := HS1.out.1; have e1 : wtS [Pc.tok q] = 1 := rfl; omega) (by rw [popT_append, HS1.out.2, HTk.out]; rfl))
        clear HP6
        go_wp2_with fail
        go_end0; exact HZ.out
      | true =>
        have KW : Hid (Calls Tryz.prog 50 #[.string sAt] W6 fun e w' => e = .returned (.agg #[.string sAt, .pointer none, .pointer none, .int .i64 0, .bool false, .int .i64 0]) /\ Below W6.heap.size W6 w') := hide (word_calls sAt W6)
        go_wp2_with (go_at_call 50; refine KW.out.mono ?_)
        intro e W7 h7; obtain ⟨rfl, hb7⟩ := h7
        have KN := hide (next_made (B := B) (c := 1) [Pc.tok sAt] #[.string sAt, .pointer none, .pointer none, .int .i64 0, .bool false, .int .i64 0] rfl (oks_cons (show sAt.size <= 100 by decide) oks_nil) (by simp) HP6.out.1 hb7 HP6.out.2.2 (by rw [List.append_assoc]; exact roomB HB.out (by rw [wtS_append, wtS_append]; have := HS1.out.1; have e1 : wtS [Pc.tok q] = 1 := rfl; have e2 : wtS [Pc.tok sAt].reverse = 1 := rfl; omega)))
        clear KW hb7
        go_wp2_with (go_at_call 74; refine KN.out.mono ?_)
        intro e W8 h8; have HF8 := hide h8
        rcases h8.form with rfl | ⟨fb, rfl⟩
        . have HZ : Hid (StepG B n0 w pb wb l tg st tk m (.returned (.tuple #[])) W8) := hide (by
           obtain ⟨h1, h2, h3⟩ := HF8.out.good; rw [List.append_assoc] at h1 h3
           exact StepG.of h1 (HP6.out.2.1.trans h2) h3 (by rw [wtS_append, wtS_append]; have := HS1.out.1; have e1 : wtS [Pc.tok q] = 1 := rfl; have e2 : wtS [Pc.tok sAt].reverse = 1 := rfl; omega) (by rw [popT_append, popT_append, HS1.out.2, HTk.out]; rfl))
          clear h8 KN
          go_wp2_with fail
          go_end0; exact HZ.out
        . have HZ : Hid (StepG B n0 w pb wb l tg st tk m (.panicked [{ v := .iface 41 (.pointer (some ⟨fb, 0, none⟩)), recovered := false }]) W8) := hide (HF8.out.bad HP6.out.2.1)
          clear h8 KN
          go_wp2_with fail
          exact ⟨rfl, HZ.out⟩
  . obtain ⟨g', rfl⟩ : ∃ g', gk = g' + 1 := ⟨gk - 1, by omega⟩
    have hjl : j < ls.length := by omega
    have hAe := HA.out (by omega); subst hAe
    have KL : Hid (Calls Tryz.prog 102 #[.pointer (some ⟨g, j * 3, none⟩), .int .i64 0] wr fun e w' => e = .returned (.agg #[.string ⟨#[]⟩, .pointer none, .pointer (some ⟨g, j * 3, none⟩), .int .i64 0, .bool false, .int .i64 0]) /\ Below wr.heap.size wr w') := hide (levelIn_calls .zero g (j * 3) 0 wr)
    have hzb := HB'.out.size; have hlen := levs_len ls g j
    go_wp2_with (go_at_call 102; refine KL.out.mono ?_)
    intro e W4 h4 hb4; subst h4; have hz4 := hb4.size
    have HO4 := hide (show (W4.alloc (.cells #[.string ⟨#[]⟩, .pointer none, .pointer (some ⟨g, j * 3, none⟩), .int .i64 0, .bool false, .int .i64 0] 106)).ownsRow w.heap.size 106 6 (.slice A' j c') j (flatP (levsP ls g j)) from by
     have h1 : wr.ownsRow w.heap.size 106 6 (.slice A' j c') (levsP ls g j).length (flatP (levsP ls g j)) := HR.out; rw [hlen] at h1
     exact (h1.kept (Below.grown0 hb4) (Classical.em _)).kept (World.grownBy_alloc _ _ none) (Classical.em _))
    have HB4 := hide (HB'.out.trans (hb4.mono hzb)); clear hb4 KL HR HB'
    go_wp2_with (at_builtin; refine wpList_append_placed _ rfl _ _ 72 rfl w.heap.size 106 i0 _ 6 56 Tryz.underlying72 hi hz0 hz1 hz2 rfl (by decide) (.slice A' j c') j _ rfl HO4.out ⟨W4.heap.size, 0, none⟩ 1 1 [.string ⟨#[]⟩, .pointer none, .pointer (some ⟨g, j * 3, none⟩), .int .i64 0, .bool false, .int .i64 0] rfl rfl (cells_new _ _ _) (Pc.one (.lv .zero g (j * 3) 0)) (by decide) (by unfold maxLen; omega) (by omega) (by simp; omega) ?_)
    intro v' w6 hown6 hgr6 hpl6
    have HR6 : Hid (RowP w6 w.heap.size v' (levsP ls g (j + 1))) := hide (by
     show RowP w6 w.heap.size v' (levsP ls g j ++ [.lv (ls.getD j .zero) g (j * 3) 0]); refine RowP.snoc (m := 1) ?_ rfl; rw [hlen, flatP_one]; exact hown6)
    have HB6 : Hid (Below w.heap.size w w6) := hide (by
     have h5 := HB4.out.alloc (show w.heap.size <= W4.heap.size by omega) (.cells #[.string ⟨#[]⟩, .pointer none, .pointer (some ⟨g, j * 3, none⟩), .int .i64 0, .bool false, .int .i64 0] 106)
     exact h5.grown hgr6 h5.size (fun k hk => (HO4.out.lt k hk).1))
    obtain ⟨A6, c6, hv6⟩ := own_row_slice hown6; subst hv6; clear hown6 hgr6 hpl6 HO4 HB4 hlen
    go_wp2_with fail
    go_roundg g'
    case measure => omega
    case rel => exact ⟨j + 1, A6, c6, by omega, rfl, by go_num, HR6, HB6⟩
end
end Go.Proofs.YtockffblncdikaaGreatDoor
