/- The contracts of Lift, Subst, Levels of package term. -/
import Derived.Test.YtafdlaaohglfdaaGreatDoorUnder
import Derived.Test.YtafdlaaohglfdaaGreatDoorRLevels
import Derived.Laws.EntriesVeiled

namespace Go.Proofs.YtafdlaaohglfdaaGreatDoor
open Go.RowKit

set_option maxRecDepth 100000 in
set_option maxHeartbeats 2000000 in
theorem substM_calls (l : LvB) (ps : List ByteArray) (ls : List LvB) (v pv lv : Value) (B : Nat) (w : World) (hB : B ≤ w.heap.size) (hl : InLv w B l v) (hps : InStrs w B pv ps) (hls : InLvs w B lv ls) (hlen : ps.length = ls.length) :
    Calls Tryz.prog 46 #[v, pv, lv] w fun e w' => Made B w (l.bind (lookL ps ls)) e w' := by
  obtain ⟨A, cap, e1⟩ := hl.form
  have HR : Hid (∀ o, Calls Tryz.prog 60 #[v, .func (.func 61) #[] #[.pointer (some ⟨w.heap.size + 1, 0, none⟩), .pointer (some ⟨w.heap.size + 1 + 1, 0, none⟩)]] ((((w.alloc o).alloc (.cells #[pv] 77)).alloc (.cells #[lv] 26)).alloc zlev) fun e w' => Made B ((((w.alloc o).alloc (.cells #[pv] 77)).alloc (.cells #[lv] 26)).alloc zlev) (l.bind (lookL ps ls)) e w') := fun o => by
    have hold : Below w.heap.size w ((((w.alloc o).alloc (.cells #[pv] 77)).alloc (.cells #[lv] 26)).alloc zlev) := ((((Below.refl _ _).alloc (Nat.le_refl _) _).alloc (by simp) _).alloc (by simp; omega) _).alloc (by simp; omega) _
    refine rebuild_calls 61 _ (lookL ps ls) B (w.heap.size + 4) (by omega) l.nodes l v _ (Nat.le_refl _) (by simp) (hl.below (hold.mono hB))
      (subst1_puts (w.heap.size + 1) (w.heap.size + 1 + 1) ps ls pv lv B _ _ (by omega) (by omega) (by omega) ?_ ?_ (hps.below (hold.mono hB)) (hls.below (hold.mono hB)) hlen)
    · rw [World.cell?_alloc_past _ _ _ (by simp), World.cell?_alloc_past _ _ _ (by simp)]; simp [World.cell?_alloc_at]
    · rw [World.cell?_alloc_past _ _ _ (by simp)]; simp [World.cell?_alloc_at]
  have HO : Hid (∀ o, Below w.heap.size w ((((w.alloc o).alloc (.cells #[pv] 77)).alloc (.cells #[lv] 26)).alloc zlev)) := fun o => ((((Below.refl _ _).alloc (Nat.le_refl _) _).alloc (by simp) _).alloc (by simp; omega) _).alloc (by simp; omega) _
  obtain ⟨hm1, A1, cap1, rfl, -⟩ := hps
  obtain ⟨hm2, A2, cap2, rfl, -⟩ := hls
  subst e1
  clear hl hlen
  generalize l.bind (lookL ps ls) = L at *
  go_enter Tryz.func46, Tryz.ntmps46
  go_wp2_with (go_at_call 60; refine (HR.out _).mono ?_)
  rintro e w1 ⟨k, nm, A3, n, cap3, rfl, hin, hbw⟩
  have hsz : ∀ o1 o2 o3, ((((w.alloc o1).alloc o2).alloc o3).alloc zlev).heap.size = w.heap.size + 4 := fun o1 o2 o3 => by simp
  rw [hsz] at hin hbw
  obtain ⟨z0, z1, z2, zf, zl⟩ := zbox4 hbw
  have HF : Hid (InP (((w1.setCell ⟨w.heap.size + 3, 0, none⟩ (.int .i64 k)).setCell ⟨w.heap.size + 3, 1, none⟩ (.string nm)).setCell ⟨w.heap.size + 3, 2, none⟩ (.slice A3 n cap3)) (fun b => b < B ∨ w.heap.size ≤ b) L (.agg #[.int .i64 k, .string nm, .slice A3 n cap3])) :=
    hin.keep fun b _ hb => ⟨hb.imp id fun h => by omega, by rw [Below.heap_setCell _ _ _ _ (by show b ≠ w.heap.size + 3; omega), Below.heap_setCell _ _ _ _ (by show b ≠ w.heap.size + 3; omega), Below.heap_setCell _ _ _ _ (by show b ≠ w.heap.size + 3; omega)]⟩
  have HB : Hid (Below w.heap.size w (((w1.setCell ⟨w.heap.size + 3, 0, none⟩ (.int .i64 k)).setCell ⟨w.heap.size + 3, 1, none⟩ (.string nm)).setCell ⟨w.heap.size + 3, 2, none⟩ (.slice A3 n cap3))) :=
    ((((HO.out _).trans (hbw.mono (by omega))).setCell (p := ⟨w.heap.size + 3, 0, none⟩) (by show w.heap.size ≤ w.heap.size + 3; omega) _).setCell (p := ⟨w.heap.size + 3, 1, none⟩) (by show w.heap.size ≤ w.heap.size + 3; omega) _).setCell (p := ⟨w.heap.size + 3, 2, none⟩) (by show w.heap.size ≤ w.heap.size + 3; omega) _
  clear hin hbw hsz HR HO
  go_wp2_with fail
  refine bodyPost_ret (v := .agg #[.int .i64 k, .string nm, .slice A3 n cap3]) (by simp [results, Tryz.results46, go_sem, z0, z1, z2]) rfl ?_
  exact ⟨k, nm, A3, n, cap3, rfl, HF.out, HB.out⟩


theorem lookL_nil : lookL [] [] = Lv.param := by funext q; rfl

theorem inStrs_nil (w : World) (B : Nat) : InStrs w B (.slice none 0 0) [] := ⟨by simp, none, 0, rfl, fun i hi => absurd hi (by simp)⟩
theorem inLvs_nil (w : World) (B : Nat) : InLvs w B (.slice none 0 0) [] := ⟨by simp, none, 0, rfl, fun i hi => absurd hi (by simp)⟩

set_option maxRecDepth 100000 in
set_option maxHeartbeats 1000000 in
theorem copiedLevel_calls (l : LvB) (v : Value) (B : Nat) (w : World) (hB : B ≤ w.heap.size) (hl : InLv w B l v) : Calls Tryz.prog 23 #[v] w fun e w' => Made B w l e w' := by
  obtain ⟨A, cap, e1⟩ := hl.form
  have HR : Hid (∀ o, Calls Tryz.prog 46 #[v, .slice none 0 0, .slice none 0 0] ((w.alloc o).alloc zlev) fun e w' => Made B ((w.alloc o).alloc zlev) l e w') := fun o => by
    have hold : Below w.heap.size w ((w.alloc o).alloc zlev) := ((Below.refl _ _).alloc (Nat.le_refl _) _).alloc (by simp) _
    have := substM_calls l [] [] v _ _ B ((w.alloc o).alloc zlev) (Nat.le_trans hB hold.size) (hl.below (hold.mono hB)) (inStrs_nil _ _) (inLvs_nil _ _) rfl
    rw [lookL_nil, Lv.bind_param] at this
    exact this
  subst e1
  clear hl
  go_enter Tryz.func23, Tryz.ntmps23
  go_wp2_with (go_at_call 46; refine (HR.out _).mono ?_)
  rintro e w1 ⟨k, nm, A1, n, cap1, rfl, hin, hbw⟩
  have hsz : ∀ o, ((w.alloc o).alloc zlev).heap.size = w.heap.size + 2 := fun o => by simp
  rw [hsz] at hin hbw
  obtain ⟨z0, z1, z2, zf, zl⟩ := zbox hbw
  have HI := hide (made_fill (u0 := .int .i64 k) (u1 := .string nm) (u2 := .slice A1 n cap1) hB hbw (fun b h => h) hin)
  clear hin hbw HR hsz
  go_wp2_with fail
  refine bodyPost_ret (v := .agg #[.int .i64 k, .string nm, .slice A1 n cap1]) (by simp [results, Tryz.results23, go_sem, z0, z1, z2]) rfl ?_
  exact ⟨k, nm, A1, n, cap1, rfl, HI.out.1, HI.out.2⟩

theorem copied_levs (B D : Nat) (w : World) (hBD : B ≤ D) : Levs 23 #[] id B D w :=
  ⟨fun args w' => by simp [go_sem], fun l v w' hl hD _ => copiedLevel_calls l v B w' (Nat.le_trans hBD hD) hl⟩

/-- The result's block alone, then a call that makes a variable. -/
theorem var_fill {w W : World} {r B d n : Nat} (hr : w.heap.size ≤ r) (hb : Below w.heap.size w W) : InTm (set5 W r (.int .i64 0) (.int .i64 (n : Nat)) (.string ⟨#[]⟩) (.slice none 0 0) (.slice none 0 0)) (fun b => b < B ∨ w.heap.size ≤ b) (d + 1) (tvar n) (.agg #[.int .i64 0, .int .i64 (n : Nat), .string ⟨#[]⟩, .slice none 0 0, .slice none 0 0]) ∧ Below w.heap.size w (set5 W r (.int .i64 0) (.int .i64 (n : Nat)) (.string ⟨#[]⟩) (.slice none 0 0) (.slice none 0 0)) :=
  ⟨InTm.tvar _ _ _ _ _ _ _ _, set5_below hr hb⟩

theorem z_cells {w W : World} (h : Below (w.heap.size + 1) (w.alloc ztm) W) : W.cell? ⟨w.heap.size, 0, none⟩ = some (.int .i64 0) ∧ W.cell? ⟨w.heap.size, 1, none⟩ = some (.int .i64 0) ∧ W.cell? ⟨w.heap.size, 2, none⟩ = some (.string ⟨#[]⟩) ∧ W.cell? ⟨w.heap.size, 3, none⟩ = some (.slice none 0 0) ∧ W.cell? ⟨w.heap.size, 4, none⟩ = some (.slice none 0 0) ∧ (∀ i, W.frozen? ⟨w.heap.size, i, none⟩ = false) ∧ w.heap.size < W.heap.size := by
  have hz := h.size
  simp at hz
  have hb : W.heap[w.heap.size]? = some ztm := by rw [h.block _ (by omega)]; exact heap_alloc_new _ _
  obtain ⟨h0, h1, h2, h3, h4⟩ := cells5 hb
  exact ⟨h0, h1, h2, h3, h4, cells5f hb, by omega⟩

set_option maxRecDepth 100000 in
set_option maxHeartbeats 2000000 in
theorem lift1_calls (n f0 p q M b B : Nat) (w : World) (hn : n ≤ 1000000) (hM : M ≤ 900000) (hb : b ≤ 1000000) (cp : w.cell? ⟨p, 0, none⟩ = some (.int .i64 (f0 : Nat))) (cq : w.cell? ⟨q, 0, none⟩ = some (.int .i64 (n : Nat))) :
    Calls Tryz.prog 25 #[.int .i64 (M : Nat), .int .i64 (b : Nat), .pointer (some ⟨p, 0, none⟩), .pointer (some ⟨q, 0, none⟩)] w fun e w' => MadeT B w 1 (liftF n f0 M b) e w' := by
  unfold liftF
  have HT := hide (Below.refl (w.heap.size + 1) (w.alloc ztm))
  have hold : Below w.heap.size w (w.alloc ztm) := (Below.refl _ _).alloc (Nat.le_refl _) _
  have dp := cell_later hold cp
  have dq := cell_later hold cq
  have hpl : p < w.heap.size := World.block_lt_of_cell? _ _ cp
  have hql : q < w.heap.size := World.block_lt_of_cell? _ _ cq
  by_cases h : f0 ≤ M
  · have q1 : decide ((M : Int) ≥ (f0 : Int)) = true := by simp; omega
    rw [if_pos h]
    obtain ⟨N, hN⟩ : ∃ N, N = M + n + b := ⟨_, rfl⟩
    rw [← hN]
    have HV : Hid (∀ W, Calls Tryz.prog 22 #[.int .i64 ((M : Int) + (n : Int) + (b : Int))] W fun e w' => e = .returned (.agg #[.int .i64 0, .int .i64 (N : Nat), .string ⟨#[]⟩, .slice none 0 0, .slice none 0 0]) ∧ Below W.heap.size W w') := fun W => by
      have := variable_calls N W
      have e9 : ((N : Nat) : Int) = (M : Int) + (n : Int) + (b : Int) := by rw [hN, Int.natCast_add, Int.natCast_add]
      rw [e9] at this
      rw [e9]
      exact this
    clear hN
    clear hold
    go_enter Tryz.func25, Tryz.ntmps25
    go_wp2_with (go_at_call 22; refine (HV.out _).mono ?_)
    rintro e w1 ⟨rfl, hb1⟩
    have hT1 := HT.out.trans (hb1.mono (by simp))
    obtain ⟨x0, x1, x2, x3, x4, xf, xl⟩ := z_cells hT1
    have HF := hide (var_fill (B := B) (d := 0) (n := N) (Nat.le_refl _) (((Below.refl _ _).alloc (Nat.le_refl _) _).trans (hT1.mono (by omega))))
    clear hb1 hT1
    go_wp2_with fail
    refine bodyPost_ret (v := .agg #[.int .i64 0, .int .i64 (N : Nat), .string ⟨#[]⟩, .slice none 0 0, .slice none 0 0]) (by simp [results, Tryz.results25, go_sem, x0, x1, x2, x3, x4]) rfl ?_
    exact ⟨_, _, _, _, _, _, _, _, _, rfl, HF.out.1, HF.out.2⟩
  · have q1 : decide ((M : Int) ≥ (f0 : Int)) = false := by simp; omega
    rw [if_neg h]
    obtain ⟨N, hN⟩ : ∃ N, N = M + b := ⟨_, rfl⟩
    rw [← hN]
    have HV : Hid (∀ W, Calls Tryz.prog 22 #[.int .i64 ((M : Int) + (b : Int))] W fun e w' => e = .returned (.agg #[.int .i64 0, .int .i64 (N : Nat), .string ⟨#[]⟩, .slice none 0 0, .slice none 0 0]) ∧ Below W.heap.size W w') := fun W => by
      have := variable_calls N W
      have e9 : ((N : Nat) : Int) = (M : Int) + (b : Int) := by rw [hN, Int.natCast_add]
      rw [e9] at this
      rw [e9]
      exact this
    clear hN
    clear hold
    go_enter Tryz.func25, Tryz.ntmps25
    go_wp2_with (go_at_call 22; refine (HV.out _).mono ?_)
    rintro e w1 ⟨rfl, hb1⟩
    have hT1 := HT.out.trans (hb1.mono (by simp))
    obtain ⟨x0, x1, x2, x3, x4, xf, xl⟩ := z_cells hT1
    have HF := hide (var_fill (B := B) (d := 0) (n := N) (Nat.le_refl _) (((Below.refl _ _).alloc (Nat.le_refl _) _).trans (hT1.mono (by omega))))
    clear hb1 hT1
    go_wp2_with fail
    refine bodyPost_ret (v := .agg #[.int .i64 0, .int .i64 (N : Nat), .string ⟨#[]⟩, .slice none 0 0, .slice none 0 0]) (by simp [results, Tryz.results25, go_sem, x0, x1, x2, x3, x4]) rfl ?_
    exact ⟨_, _, _, _, _, _, _, _, _, rfl, HF.out.1, HF.out.2⟩

theorem lift_frees (n f0 p q B D : Nat) (w : World) (hn : n ≤ 1000000) (hp : p < D) (hq : q < D) (cp : w.cell? ⟨p, 0, none⟩ = some (.int .i64 (f0 : Nat))) (cq : w.cell? ⟨q, 0, none⟩ = some (.int .i64 (n : Nat))) :
    Frees 25 #[.pointer (some ⟨p, 0, none⟩), .pointer (some ⟨q, 0, none⟩)] (liftF n f0) 1 B D w :=
  ⟨fun args w' => by simp [go_sem], fun M b w' hM hb _ hbl => lift1_calls n f0 p q M b B w' hn hM hb (by rw [hbl.cell hp]; exact cp) (by rw [hbl.cell hq]; exact cq)⟩


theorem ztm_cells {W : World} {r : Nat} (h : W.heap[r]? = some ztm) : W.cell? ⟨r, 0, none⟩ = some (.int .i64 0) ∧ W.cell? ⟨r, 1, none⟩ = some (.int .i64 0) ∧ W.cell? ⟨r, 2, none⟩ = some (.string ⟨#[]⟩) ∧ W.cell? ⟨r, 3, none⟩ = some (.slice none 0 0) ∧ W.cell? ⟨r, 4, none⟩ = some (.slice none 0 0) ∧ (∀ i, W.frozen? ⟨r, i, none⟩ = false) ∧ r < W.heap.size := by
  obtain ⟨h0, h1, h2, h3, h4⟩ := cells5 h
  exact ⟨h0, h1, h2, h3, h4, cells5f h, (Array.getElem?_eq_some_iff.1 h).1⟩

set_option maxRecDepth 100000 in
set_option maxHeartbeats 2000000 in
theorem lift_calls (n f0 B d : Nat) (t : Tm) (v : Value) (w : World) (hn : n ≤ 1000000) (hd : d ≤ 1000000) (hB : B ≤ w.heap.size) (hwf : WfT d t) (hin : InTm w (fun b => b < B) d t v) :
    Calls Tryz.prog 10 #[v, .int .i64 (n : Nat), .int .i64 (f0 : Nat)] w fun en w' => MadeT B w (d + 1) (chT (liftF n f0) id d 0 t) en w' := by
  obtain ⟨k, nn, nm, A, la, lc, A', ta, tc, rfl⟩ := hin.form
  have hex : ∃ W0 : World, W0 = ((((w.alloc (.cells #[.int .i64 k, .int .i64 nn, .string nm, .slice A la lc, .slice A' ta tc] 29)).alloc (.cells #[.int .i64 (n : Nat)] 3)).alloc (.cells #[.int .i64 (f0 : Nat)] 3)).alloc ztm).alloc (.cells #[.func (.func 25) #[] #[.pointer (some ⟨w.heap.size + 1 + 1, 0, none⟩), .pointer (some ⟨w.heap.size + 1, 0, none⟩)], .func (.func 23) #[] #[]] 64) := ⟨_, rfl⟩
  obtain ⟨W0, hW0⟩ := hex
  have hold : Below w.heap.size w W0 := by rw [hW0]; exact (((((Below.refl _ _).alloc (Nat.le_refl _) _).alloc (by simp) _).alloc (by simp; omega) _).alloc (by simp; omega) _).alloc (by simp; omega) _
  have hsz : W0.heap.size = w.heap.size + 5 := by rw [hW0]; simp
  have hn0 : W0.cell? ⟨w.heap.size + 1, 0, none⟩ = some (.int .i64 (n : Nat)) := by
    rw [hW0, World.cell?_alloc_past _ _ _ (by simp), World.cell?_alloc_past _ _ _ (by simp), World.cell?_alloc_past _ _ _ (by simp)]; simp [World.cell?_alloc_at]
  have hf1 : W0.cell? ⟨w.heap.size + 1 + 1, 0, none⟩ = some (.int .i64 (f0 : Nat)) := by
    rw [hW0, World.cell?_alloc_past _ _ _ (by simp), World.cell?_alloc_past _ _ _ (by simp)]; simp [World.cell?_alloc_at]
  have hz3 : W0.heap[w.heap.size + 3]? = some ztm := by
    rw [hW0, Below.heap_alloc _ _ _ (by simp)]
    have := heap_alloc_new (((w.alloc (.cells #[.int .i64 k, .int .i64 nn, .string nm, .slice A la lc, .slice A' ta tc] 29)).alloc (.cells #[.int .i64 (n : Nat)] 3)).alloc (.cells #[.int .i64 (f0 : Nat)] 3)) ztm
    rw [show (((w.alloc (.cells #[.int .i64 k, .int .i64 nn, .string nm, .slice A la lc, .slice A' ta tc] 29)).alloc (.cells #[.int .i64 (n : Nat)] 3)).alloc (.cells #[.int .i64 (f0 : Nat)] 3)).heap.size = w.heap.size + 3 by simp] at this
    exact this
  have HC := hide (under_calls 25 23 _ _ (liftF n f0) id 1 B (w.heap.size + 5) (by omega) d t _ 0 W0 (by omega) (by omega) hwf (hin.below (hold.mono hB)) (lift_frees n f0 (w.heap.size + 1 + 1) (w.heap.size + 1) B (w.heap.size + 5) W0 hn (by omega) (by omega) hf1 hn0) (copied_levs B (w.heap.size + 5) W0 (by omega)))
  have HO := hide hold
  have HZ := hide hz3
  have HS := hide hsz
  clear hin hold hz3 hsz hn0 hf1
  rw [hW0] at HC
  go_enter Tryz.func10, Tryz.ntmps10
  go_wp2_with (go_at_call 24; refine HC.out.mono ?_)
  rw [← hW0]
  rintro en w1 ⟨k1, n1, nm1, A1, l1, cc1, A2, l2, cc2, rfl, hin5, hb5⟩
  have hold1 := HO.out.trans (hb5.mono HO.out.size)
  have hs := HS.out
  obtain ⟨x0, x1, x2, x3, x4, xf, xl⟩ := ztm_cells ((hb5.block (w.heap.size + 3) (by omega)).trans HZ.out)
  rw [hs] at hin5
  have HF := hide (fill5 (r := w.heap.size + 3) (u0 := .int .i64 k1) (u1 := .int .i64 n1) (u2 := .string nm1) (u3 := .slice A1 l1 cc1) (u4 := .slice A2 l2 cc2) (by omega) hB hold1 (fun b _ h => h.imp id fun h => by omega) hin5)
  clear hin5 hb5 hold1 hs hW0
  go_wp2_with fail
  refine bodyPost_ret (v := .agg #[.int .i64 k1, .int .i64 n1, .string nm1, .slice A1 l1 cc1, .slice A2 l2 cc2]) (by simp [results, Tryz.results10, go_sem, x0, x1, x2, x3, x4]) rfl ?_
  exact ⟨_, _, _, _, _, _, _, _, _, rfl, HF.out.1, HF.out.2⟩

end Go.Proofs.YtafdlaaohglfdaaGreatDoor
