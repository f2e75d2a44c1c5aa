/- The contract of the document's ParseText. -/
import Derived.Test.YtekfledccpeblaaGreatDoorCj

namespace Go.Proofs.YtekfledccpeblaaGreatDoor
open Go.RowKit

theorem results_tmp_cell {P : Program} {fn : Func} {p q : Tmp} {ty : TypeId} (h : fn.results = #[.tmp q, .cell p ty]) (tmps : Array Value) (w : World) (g : Nat) (t : TypeId) (cs : Array Value) (fr : Nat × Nat) (d : TypeDesc) (v : Value)
    (hp : tmps.getD p undef = .pointer (some ⟨g, 0, none⟩)) (hq : tmps.getD q undef = v) (hg : w.heap[g]? = some (.cells cs t fr))
    (hu : P.underlying ty = some d) (hd : (match d with | .struct _ | .array _ _ => true | _ => false) = true) (hi : (P.info? ty).map (·.size) = some cs.size) :
    (results fn tmps).run P w = .ok (.tuple #[v, .agg cs]) w := by
  have hp' : tmps[p]?.getD undef = .pointer (some ⟨g, 0, none⟩) := by simpa using hp
  have hq' : tmps[q]?.getD undef = v := by simpa using hq
  simp [results, h, hp', hq', asAddr, run_loadVar_row w g t ty cs fr d hg hu hd hi]
theorem Tryz.size33 : (Tryz.prog.info? 33).map (·.size) = some 2 := by kernel_rfl
/-- The document's reader's cells when it is made. -/
abbrev dcs0 (s : ByteArray) : Array Value := #[.string s, .int .i64 0, .string ⟨#[]⟩, .int .i64 0, .int .i64 0, .int .i64 0, .int .i64 0]
section
variable {w W : World} {fb : Nat} {s : ByteArray}
theorem d0_cells (h : W.heap[fb]? = some (.cells (dcs0 s) 57 (0, 0))) : W.cell? ⟨fb, 0, none⟩ = some (.string s) ∧ W.cell? ⟨fb, 1, none⟩ = some (.int .i64 0) ∧ W.cell? ⟨fb, 2, none⟩ = some (.string ⟨#[]⟩) ∧ W.cell? ⟨fb, 3, none⟩ = some (.int .i64 0) ∧ W.cell? ⟨fb, 4, none⟩ = some (.int .i64 0) ∧ W.cell? ⟨fb, 5, none⟩ = some (.int .i64 0) ∧ W.cell? ⟨fb, 6, none⟩ = some (.int .i64 0) ∧ ∀ i, W.frozen? ⟨fb, i, none⟩ = false :=
  ⟨cell_of h 0 rfl, cell_of h 1 rfl, cell_of h 2 rfl, cell_of h 3 rfl, cell_of h 4 rfl, cell_of h 5 rfl, cell_of h 6 rfl, frozen_of h⟩
set_option maxRecDepth 100000 in
set_option maxHeartbeats 4000000 in
theorem dfirst_calls (h : w.heap[fb]? = some (.cells (dcs0 s) 57 (0, 0))) (hs : s.size ≤ 200000) : Calls Tryz.prog 14 #[.pointer (some ⟨fb, 0, none⟩)] w fun e w' => DQ w fb s (FS.step s st00) (fun e _ => e = .returned (.tuple #[])) e w' := by
  have H := hide h
  have hlt : fb < w.heap.size := (Array.getElem?_eq_some_iff.1 h).1
  obtain ⟨c0, c1, c2, c3, c4, c5, c6, cf⟩ := d0_cells h
  have KL : Hid (∀ W, Calls Tryz.prog 24 #[.string s, .int .i64 0] W fun e w' => e = .returned (.tuple #[tokV (lex s 0).1, .int .i64 ((lex s 0).2 : Nat)]) ∧ Below W.heap.size W w') := hide (fun W => lex_calls s 0 W (Nat.zero_le _) hs)
  have HOk : Hid ((FS.step s st00).Ok s) := first_ok s
  have HSt : Hid (FS.step s st00 = ⟨(lex s 0).1, (lex s 0).2, 0, 0⟩) := first_step s
  have HDg : Hid ((lex s 0).1.kd = 2 → Digs (lex s 0).1.t ∧ (lex s 0).1.t.size ≤ 2) := lex_digs (Nat.zero_le _)
  clear h
  go_enter Tryz.func14, Tryz.ntmps14
  go_wp2_with fail
  go_region_law (first
    | (refine step_below (f := 24) rfl ?_ (KL.out _) ?_
       · simp [go_sem]
       intro w8 hB8
       have hB9 : Below w.heap.size w w8 := (Below.refl w.heap.size w).drew.trans hB8
       obtain ⟨x0, x1, x2, x3, x4, x5, x6, xf⟩ := d0_cells ((hB9.block _ hlt).trans H.out)
       have xl : fb < w8.heap.size := Nat.lt_of_lt_of_le hlt hB9.size))
  all_goals
    have HD8 := hide ((hB9.block _ hlt).trans H.out)
    have HB9 := hide hB9
    clear x0 x1 x2 x3 x4 x5 x6 xf xl hB8 hB9
    go_end0
    refine ⟨rfl, ⟨?_, HOk.out, hs, by rw [HSt.out]; exact HDg.out⟩, ?_⟩
    · rw [HSt.out]
      have := HD8.out
      simp [World.setCell, Array.getElem?_modify, this]
    · exact ((((Touched.of_below HB9.out).set _ _).set _ _).set _ _).set _ _
end
/-- The document's tactics' words lie there. -/
structure TWl (w : World) (tb tof tc : Nat) : Prop where
  s : w.cell? ⟨0, 0, none⟩ = some (.slice (some ⟨tb, tof, none⟩) 14 tc)
  c : ∀ i, i < 14 → w.cell? ⟨tb, tof + i, none⟩ = some (.string (tacList.getD i ⟨#[]⟩))
theorem TWl.later {w W : World} {tb tof tc : Nat} (h : TWl w tb tof tc) (hB : Below w.heap.size w W) : TWl W tb tof tc := ⟨cell_later hB h.s, fun i hi => cell_later hB (h.c i hi)⟩
theorem TWl.at_ {w W : World} {fb tb tof tc : Nat} (h : TWl w tb tof tc) (hf : w.heap.size ≤ fb) (hB : Below w.heap.size w W) : TWs W fb tb tof tc := by
  have h1 := World.block_lt_of_cell? _ _ h.s
  have h2 := World.block_lt_of_cell? _ _ (h.c 0 (by omega))
  simp only at h1 h2
  exact ⟨(h.later hB).s, (h.later hB).c, by omega, by omega⟩
/-- What the document's parser answers. -/
def DAnswer (w : World) (s : ByteArray) (e : Ending) (w' : World) : Prop :=
  (∃ (A : Option Addr) (c a : Nat), TextIs s ∧ e = .returned (.tuple #[.slice A (textG s).1.length c, .agg #[.int .i64 0, .int .i64 (a : Nat)]]) ∧ CmsIn w' (fun b => w.heap.size ≤ b) A (textG s).1 ∧ Below w.heap.size w w') ∨
  (∃ code a : Nat, TextBad s code a ∧ e = .returned (.tuple #[.slice none 0 0, .agg #[.int .i64 (code : Nat), .int .i64 (a : Nat)]]) ∧ Below w.heap.size w w')
theorem dcommandF_left {s : ByteArray} {n : Nat} {st : FS} (ho : st.Ok s) (hc : st.code = 0) : (commandF s n st).2.left s < st.left s := by
  by_cases hk : kindNo st = 0
  · rw [commandF_zero hk]
    unfold FS.fail FS.left
    simp [hc]
  · exact commandF_left ho hc hk
theorem set2 {W : World} {b T : Nat} {v0 v1 : Value} (h : W.heap[b]? = some (.cells #[v0, v1] T (0, 0))) (x y : Value) : ((W.setCell ⟨b, 0, none⟩ x).setCell ⟨b, 1, none⟩ y).heap[b]? = some (.cells #[x, y] T (0, 0)) := by
  simp [World.setCell, Array.getElem?_modify, h]
theorem cells2 {W : World} {b T : Nat} {v0 v1 : Value} (h : W.heap[b]? = some (.cells #[v0, v1] T (0, 0))) : W.cell? ⟨b, 0, none⟩ = some v0 ∧ W.cell? ⟨b, 1, none⟩ = some v1 ∧ ∀ i, W.frozen? ⟨b, i, none⟩ = false := ⟨cell_of h 0 rfl, cell_of h 1 rfl, frozen_of h⟩
theorem dparse_ret {w W : World} {s : ByteArray} {tmps : Array Value} {v x y : Value} (h : W.heap[w.heap.size]? = some (.cells #[.int .i64 0, .int .i64 0] 33 (0, 0))) (hp : tmps.getD 3 undef = .pointer (some ⟨w.heap.size, 0, none⟩)) (hq : tmps.getD 2 undef = v)
    (hA : DAnswer w s (.returned (.tuple #[v, .agg #[x, y]])) ((W.setCell ⟨w.heap.size, 0, none⟩ x).setCell ⟨w.heap.size, 1, none⟩ y)) :
    bodyPost Tryz.prog Tryz.f6 (fun e w' => DAnswer w s e w') Exit.ret { tmps := tmps, defers := [] } ((W.setCell ⟨w.heap.size, 0, none⟩ x).setCell ⟨w.heap.size, 1, none⟩ y) :=
  bodyPost_ret (results_tmp_cell rfl _ _ w.heap.size 33 _ (0, 0) _ _ hp hq (set2 h x y) Tryz.underlying33 rfl Tryz.size33) rfl hA
theorem below_set2 {w W : World} (hB : Below w.heap.size w W) (x y : Value) : Below w.heap.size w ((W.setCell ⟨w.heap.size, 0, none⟩ x).setCell ⟨w.heap.size, 1, none⟩ y) :=
  (hB.setCell (p := ⟨w.heap.size, 0, none⟩) (Nat.le_refl _) x).setCell (p := ⟨w.heap.size, 1, none⟩) (Nat.le_refl _) y
section
variable {tb tof tc : Nat}
attribute [local go_sem ↓] ld47_eq st47_eq
set_option maxRecDepth 100000 in
set_option maxHeartbeats 8000000 in
theorem dparse_calls (s : ByteArray) (w : World) (hm : s.size ≤ maxLen) (hw : TWl w tb tof tc) : Calls Tryz.prog 6 #[.string s] w fun e w' => DAnswer w s e w' := by
  unfold maxLen at hm
  have HB1 : Hid (Below w.heap.size w (w.alloc (.cells #[.int .i64 0, .int .i64 0] 33))) := (Below.refl _ _).alloc (Nat.le_refl _) _
  have hr1 := heap_alloc_new w (.cells #[.int .i64 0, .int .i64 0] 33)
  by_cases hs : s.size ≤ 200000
  · have e1 : decide ((200000 : Int) < (s.size : Int)) = false := by simp; omega
    have e1' : ¬ 200000 < s.size := by omega
    have HB2 : Hid (Below w.heap.size w ((w.alloc (.cells #[.int .i64 0, .int .i64 0] 33)).alloc (.cells (dcs0 s) 57))) := HB1.out.alloc (by simp) _
    have hf2 := heap_alloc2_new w (.cells #[.int .i64 0, .int .i64 0] 33) (.cells (dcs0 s) 57)
    have hr2 := heap_alloc2_old w (.cells #[.int .i64 0, .int .i64 0] 33) (.cells (dcs0 s) 57)
    have HR2 := hide hr2
    have KS := hide (dfirst_calls hf2 hs)
    have hsz2 : ((w.alloc (.cells #[.int .i64 0, .int .i64 0] 33)).alloc (.cells (dcs0 s) 57)).heap.size = w.heap.size + 2 := by simp
    have HSz := hide hsz2
    have HW := hide (hw.at_ (fb := w.heap.size + 1) (by omega) HB2.out)
    clear hf2 hr2 hw HB1 hsz2 hr1
    go_enter Tryz.func6, Tryz.ntmps6
    go_upto_region 4 with fail
    generalize (w.alloc (.cells #[.int .i64 0, .int .i64 0] 33)).alloc (.cells (dcs0 s) 57) = W1 at *
    clear e1 e1'
    go_upto_region 5 with (go_at_call 14; refine KS.out.mono ?_; rintro e W2 ⟨rfl, hd, hT⟩; have HO : Hid (Ro CmP 47 26 W1 (w.heap.size + 1) s ([] : List Cm) (FS.step s st00) none 0 [] W2) := Ro.nil hd hT (by have := HSz.out; omega); clear hd hT)
    clear KS
    obtain ⟨fin, hfin⟩ : ∃ fin, fin = textG s := ⟨_, rfl⟩
    have HFi := hide hfin
    have HFl := hide (first_left s)
    obtain ⟨n, hn⟩ : ∃ n, n = 2 * s.size + 2 := ⟨_, rfl⟩
    have HN := hide hn
    unfold textG at hfin
    rw [← hn] at hfin HFl
    have HFc := hide hfin
    have HNn : Hid (n ≤ 900000) := hide (by omega)
    obtain ⟨i0, hi, hz0, hz1, hz2⟩ := infoParts Tryz.info47'
    clear hfin hn hm
    go_wp2_with fail
    go_loopg [5] n (fun g v wr => ∃ (l : List Cm) (st' : FS) (A : Option Addr) (c : Nat) (ys : List Value), v = .slice A l.length c ∧ Hid (commandsN s n g l st' = fin) ∧ Hid (st'.left s < g) ∧ l.length + g = n ∧ Hid (Ro CmP 47 26 W1 (w.heap.size + 1) s l st' A c ys wr))
    case atStart => exact ⟨[], _, none, 0, [], rfl, HFc.out.symm, HFl.out, by simp, HO.out⟩
    case round =>
      clear HO HFc HFl
      obtain ⟨l, st', A, c, ys, rfl, HE, HLt, hlen, HS⟩ := hrel
      obtain ⟨g', rfl⟩ : ∃ g', gk = g' + 1 := ⟨gk - 1, by have := HLt.out; omega⟩
      have hok := HS.out.rd.ok
      obtain ⟨d0, d1, d2, d3, d4, d5, d6, df⟩ := HS.out.rd.cells
      have HR := hide ((HS.out.old.at (k := w.heap.size) (by have := HSz.out; omega) (by omega)).trans HR2.out)
      have HBw : Hid (Below w.heap.size w wr) := hide ⟨HS.out.old.os.trans HB2.out.os, HS.out.old.tape.trans HB2.out.tape, HS.out.old.output.trans HB2.out.output, Nat.le_trans HB2.out.size HS.out.old.size, fun b hb => (HS.out.old.at (by have := HSz.out; omega) (by omega)).trans (HB2.out.block b hb)⟩
      have hrl : w.heap.size + 1 < wr.heap.size := HS.out.rd.lt
      obtain ⟨r0, r1, rf⟩ := cells2 HR.out
      by_cases hp : st'.code = 0 ∧ st'.t.kd ≠ 0
      · have q1 : ((st'.code : Int) == 0) = true := by rw [hp.1]; rfl
        have q2 : ((st'.t.kd : Int) == 0) = false := by simp; omega
        have HE2 : Hid (commandsN s n g' (l ++ [(commandF s n st').1]) (commandF s n st').2 = fin) := hide (by have := HE.out; simp only [commandsN] at this; rw [if_pos hp] at this; exact this)
        have hcl := dcommandF_left (n := n) hok hp.1
        have HL2 : Hid ((commandF s n st').2.left s < g') := hide (by have := HLt.out; omega)
        have KC := hide (dcommand_calls n HNn.out st' wr HS.out.rd (HW.out.touched HS.out.old) (by have := HLt.out; omega))
        clear hcl hp hok HE HLt r0 r1 rf
        generalize (commandF s n st').1 = x2 at *
        generalize (commandF s n st').2 = st2 at *
        go_upto_region 9 with fail
        clear d0 d1 d2 d3 d4 d5 d6 df
        go_upto_region 10 with (go_at_call 15; refine KC.out.mono ?_; rintro e W4 ⟨⟨v2, rfl, hm2⟩, hd, hT⟩; have hth : (W4.alloc (.cells (zccs 0) 47)).there W4.heap.size 0 26 := there_of (heap_alloc_new W4 (.cells (zccs 0) 47)); have ST := st47_run (v := v2) (by rw [hm2.size]; exact hth) hm2.size hm2.one; have HM := hide hm2; have HD := hide hd; have HT := hide hT; clear hm2 hd hT)
        have h26 := HM.out.size
        have h1c := HM.out.one
        have hl4 := HD.out.lt
        have hfb : w.heap.size + 1 < W4.heap.size := hl4
        have hz4 := HT.out.size
        have hv5 := heap_setCells v2.toList 0 _ _ (heap_alloc_new W4 (.cells (zccs 0) 47))
        rw [zccs_full h26] at hv5
        have HT5 : Hid (Touched wr (w.heap.size + 1) ((W4.alloc (.cells (zccs 0) 47)).setCells W4.heap.size 0 v2.toList)) := (HT.out.trans (Touched.alloc W4 _ (.cells (zccs 0) 47))).setsNew hz4 _ _
        have HD5 : Hid (DR ((W4.alloc (.cells (zccs 0) 47)).setCells W4.heap.size 0 v2.toList) (w.heap.size + 1) s st2) := (HD.out.alloc _).of_block (heap_setCells_ne (by omega) _ _ _)
        have HP5 : Hid (CmP ((W4.alloc (.cells (zccs 0) 47)).setCells W4.heap.size 0 v2.toList) (fun b => wr.heap.size ≤ b) x2 (.agg v2)) := ⟨v2, rfl, HM.out.keep fun b hb hs => ⟨hs, (heap_setCells_ne (by omega) _ _ _).trans (Below.heap_alloc _ _ _ hb)⟩⟩
        have LD := ld47_run (block_range hv5) h26
        have hkl : W4.heap.size < ((W4.alloc (.cells (zccs 0) 47)).setCells W4.heap.size 0 v2.toList).heap.size := (Array.getElem?_eq_some_iff.1 hv5).1
        clear hth ST hv5 KC HM HD HT
        generalize (W4.alloc (.cells (zccs 0) 47)).setCells W4.heap.size 0 v2.toList = W5 at *
        generalize W4.heap.size = kb at *
        have HO5 := hide ((HS.out.row.touched (KL.keeps keep_CmP _) HT5.out HS.out.lt).own.alloc (.cells v2 47))
        have HFo := hide (fold26 h26)
        have hz3 := HS.out.old.size
        have hz5 := HT5.out.size
        have hNn := HNn.out
        clear q1 q2 hfb hl4
        go_wp2_with (at_builtin; rw [HFo.out]; refine wpList_append_placed _ rfl _ _ 27 rfl W1.heap.size 47 i0 _ 26 312 Tryz.underlying27 hi hz0 hz1 hz2 rfl (by decide) (.slice A l.length c) l.length (flat ys) rfl HO5.out ⟨W5.heap.size, 0, none⟩ 1 1 v2.toList rfl (by simp [h26]) (cells_new _ v2.toList _) (fun u hu => by rw [Array.all_eq_true_iff_forall_mem] at h1c; exact h1c u (by simpa using hu)) (by decide) (by unfold maxLen; omega) (by omega) (by simp; omega) ?_)
        intro v' w6 hown6 hgr6 hpl6
        obtain ⟨A6, c6, hv6, hS6⟩ := Ro.snoc keep_CmP (x := x2) HS.out HD5.out HT5.out HP5.out h26 hown6 hgr6 (by simpa using hpl6)
        subst hv6
        have HS6 := hide hS6
        clear hown6 hgr6 hpl6 hS6 HO5 HD5 HT5 HS HP5 HFo LD HR HBw
        go_wp2_with fail
        go_roundg g'
        case measure => omega
        case rel => exact ⟨l ++ [x2], st2, A6, c6, _, by simp, HE2.out, HL2.out, by simp; omega, HS6.out⟩
      · have hfi : fin = (l, st') := by rw [← HE.out, commands_stop hp]
        have hco := hok.code
        have HX : Hid (DAnswer w s (.returned (.tuple #[if st'.code = 0 then .slice A l.length c else .slice none 0 0, .agg #[.int .i64 (st'.code : Nat), .int .i64 (st'.fat : Nat)]])) ((wr.drew.setCell ⟨w.heap.size, 0, none⟩ (.int .i64 (st'.code : Nat))).setCell ⟨w.heap.size, 1, none⟩ (.int .i64 (st'.fat : Nat)))) := hide (by
          have hB := below_set2 HBw.out.drew (.int .i64 (st'.code : Nat)) (.int .i64 (st'.fat : Nat))
          have e1 : (textG s).1 = l := by rw [← HFi.out, hfi]
          have e2 : (textG s).2 = st' := by rw [← HFi.out, hfi]
          by_cases h0 : st'.code = 0
          · rw [if_pos h0, h0]
            rw [h0] at hB
            refine .inl ⟨A, c, st'.fat, ⟨hs, by rw [e2]; exact h0⟩, by rw [e1]; rfl, ?_, hB⟩
            obtain ⟨A', c', e', hL⟩ := GRow.cms (l := l) HS.out.row
            injection e' with e3 e4 e5
            subst e3
            rw [e1]
            have hz := HSz.out
            exact hL.keep fun b hb hs => ⟨by have : W1.heap.size ≤ b := hs; show w.heap.size ≤ b; omega, (Below.heap_setCell _ _ _ _ (by show b ≠ w.heap.size; have : W1.heap.size ≤ b := hs; omega)).trans (Below.heap_setCell _ _ _ _ (by show b ≠ w.heap.size; have : W1.heap.size ≤ b := hs; omega))⟩
          · rw [if_neg h0]
            exact .inr ⟨st'.code, st'.fat, .inl ⟨hs, by rw [e2]; exact h0, by omega, by rw [e2]⟩, rfl, hB⟩)
        clear HE HLt hfi HS HBw hok hco HFi
        by_cases h0 : st'.code = 0
        · have q1 : ((st'.code : Int) == 0) = true := by rw [h0]; rfl
          have q2 : ((st'.t.kd : Int) == 0) = true := by have : st'.t.kd = 0 := Decidable.byContradiction fun h => hp ⟨h0, h⟩; rw [this]; rfl
          rw [if_pos h0] at HX
          clear h0 hp
          go_upto_region 8 with fail
          go_region_held3 (fun w' => w'.cell? ⟨w.heap.size + 1, 5, none⟩ = some (.int .i64 (st'.code : Nat)) ∧ w'.cell? ⟨w.heap.size + 1, 6, none⟩ = some (.int .i64 (st'.fat : Nat))) (go_keep) (fail)
          all_goals
            go_wp2_with fail
            exact dparse_ret (W := wr.drew) (s := s) (v := .slice A l.length c) HR.out rfl rfl HX.out
        · have q1 : ((st'.code : Int) == 0) = false := by simp; omega
          rw [if_neg h0] at HX
          clear h0 hp
          go_upto_region 11 with fail
          go_region_held3 (fun w' => w'.cell? ⟨w.heap.size + 1, 5, none⟩ = some (.int .i64 (st'.code : Nat)) ∧ w'.cell? ⟨w.heap.size + 1, 6, none⟩ = some (.int .i64 (st'.fat : Nat))) (go_keep) (fail)
          all_goals
            go_wp2_with fail
            exact dparse_ret (W := wr.drew) (s := s) (v := .slice none 0 0) HR.out rfl rfl HX.out
  · have e1 : decide ((200000 : Int) < (s.size : Int)) = true := by simp; omega
    have e1' : 200000 < s.size := by omega
    have HX : Hid (DAnswer w s (.returned (.tuple #[.slice none 0 0, .agg #[.int .i64 2, .int .i64 0]])) (w.alloc (.cells #[.int .i64 2, .int .i64 0] 33))) := .inr ⟨2, 0, .inr ⟨e1', rfl, rfl⟩, rfl, (Below.refl _ _).alloc (Nat.le_refl _) _⟩
    have HR := hide (heap_alloc_new w (.cells #[.int .i64 2, .int .i64 0] 33))
    obtain ⟨r0, r1, rf⟩ := cells2 hr1
    clear hr1 hw
    go_enter Tryz.func6, Tryz.ntmps6
    go_wp2_with fail
    exact bodyPost_ret (results_tmp_cell rfl _ _ w.heap.size 33 _ (0, 0) _ (.slice none 0 0) rfl rfl HR.out Tryz.underlying33 rfl Tryz.size33) rfl HX.out
end
end Go.Proofs.YtekfledccpeblaaGreatDoor
