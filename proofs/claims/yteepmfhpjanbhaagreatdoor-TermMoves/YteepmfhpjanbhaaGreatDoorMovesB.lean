/- The contracts of Subst, Levels, copied of package term. -/
import Derived.Test.YteepmfhpjanbhaaGreatDoorMoves

namespace Go.Proofs.YteepmfhpjanbhaaGreatDoor
open Go.RowKit

set_option maxRecDepth 100000 in
set_option maxHeartbeats 2000000 in
theorem copiedT_calls (B d : Nat) (t : Tm) (v : Value) (w : World) (hd : d ≤ 1000000) (hB : B ≤ w.heap.size) (hwf : WfT d t) (hin : InTm w (fun b => b < B) d t v) :
    Calls Tryz.prog 54 #[v] w fun en w' => MadeT B w (d + 1) (chT (liftF 0 0) id d 0 t) en w' := by
  obtain ⟨k, nn, nm, A, la, lc, A', ta, tc, rfl⟩ := hin.form
  have hT := Below.refl (w.heap.size + 2) ((w.alloc (.cells #[.int .i64 k, .int .i64 nn, .string nm, .slice A la lc, .slice A' ta tc] 30)).alloc ztm)
  have HC := hide (lift_calls 0 0 B d t _ _ (by omega) hd (Nat.le_trans hB (TB.old hT).size) hwf (hin.below ((TB.old hT).mono hB)))
  have HT := hide hT
  clear hin hT
  go_enter Tryz.func54, Tryz.ntmps54
  go_wp2_with (go_at_call 8; refine HC.out.mono ?_)
  rintro en w1 ⟨k1, n1, nm1, A1, l1, cc1, A2, l2, cc2, rfl, hin5, hb5⟩
  have hT1 := TB.then HT.out hb5
  obtain ⟨x0, x1, x2, x3, x4, xf, xl⟩ := TB.zero hT1
  rw [show ((w.alloc (.cells #[.int .i64 k, .int .i64 nn, .string nm, .slice A la lc, .slice A' ta tc] 30)).alloc ztm).heap.size = w.heap.size + 2 by simp] at hin5
  have HF := hide (fill5 (r := w.heap.size + 1) (u0 := .int .i64 k1) (u1 := .int .i64 n1) (u2 := .string nm1) (u3 := .slice A1 l1 cc1) (u4 := .slice A2 l2 cc2) (by omega) hB (TB.old hT1) (fun b _ h => h.imp id fun h => by omega) hin5)
  clear hin5 hb5 hT1
  go_wp2_with fail
  refine bodyPost_ret (v := .agg #[.int .i64 k1, .int .i64 n1, .string nm1, .slice A1 l1 cc1, .slice A2 l2 cc2]) (by simp [results, Tryz.results54, go_sem, x0, x1, x2, x3, x4]) rfl ?_
  exact ⟨_, _, _, _, _, _, _, _, _, rfl, HF.out.1, HF.out.2⟩

set_option maxRecDepth 100000 in
set_option maxHeartbeats 2000000 in
theorem subst1T_calls (u : Tm) (e p M b B : Nat) (k nn : Int) (nm : ByteArray) (A : Option Addr) (la lc : Nat) (A' : Option Addr) (ta tc : Nat) (w : World) (hu : WfT e u) (he : e ≤ 1000000) (hM : M ≤ 99999) (hb : b ≤ 1000000) (hB : B ≤ w.heap.size) (hin : InTm w (fun b => b < B) e u (.agg #[.int .i64 k, .int .i64 nn, .string nm, .slice A la lc, .slice A' ta tc])) (hp : w.heap[p]? = some (.cells #[.int .i64 k, .int .i64 nn, .string nm, .slice A la lc, .slice A' ta tc] 30 (0, 0))) :
    Calls Tryz.prog 37 #[.int .i64 (M : Nat), .int .i64 (b : Nat), .pointer (some ⟨p, 0, none⟩)] w fun en w' => MadeT B w (e + 1) (substF u e M b) en w' := by
  unfold substF
  have hpl : p < w.heap.size := (Array.getElem?_eq_some_iff.1 hp).1
  have hT := Below.refl (w.heap.size + 1) (w.alloc ztm)
  have hold : Below w.heap.size w (w.alloc ztm) := (Below.refl _ _).alloc (Nat.le_refl _) _
  obtain ⟨d0, d1, d2, d3, d4⟩ := cells5 ((hold.block p hpl).trans hp)
  have HT := hide hT
  by_cases h : M = 0
  · subst h
    rw [if_pos rfl]
    have HC := hide (lift_calls b 0 B e u _ _ hb he (Nat.le_trans hB hold.size) hu (hin.below (hold.mono hB)))
    clear hin hold hp hT
    go_enter Tryz.func37, Tryz.ntmps37
    go_wp2_with (go_at_call 8; refine HC.out.mono ?_)
    rintro en w1 ⟨k1, n1, nm1, A1, l1, cc1, A2, l2, cc2, rfl, hin5, hb5⟩
    have hT1 := HT.out.trans (hb5.mono (by simp))
    obtain ⟨x0, x1, x2, x3, x4, xf, xl⟩ := z_cells hT1
    rw [show (w.alloc ztm).heap.size = w.heap.size + 1 by simp] at hin5
    have HF := hide (fill5 (r := w.heap.size) (u0 := .int .i64 k1) (u1 := .int .i64 n1) (u2 := .string nm1) (u3 := .slice A1 l1 cc1) (u4 := .slice A2 l2 cc2) (Nat.le_refl _) hB (((Below.refl _ _).alloc (Nat.le_refl _) _).trans (hT1.mono (by omega))) (fun b _ h => h.imp id fun h => by omega) hin5)
    clear hin5 hb5 hT1
    go_wp2_with fail
    refine bodyPost_ret (v := .agg #[.int .i64 k1, .int .i64 n1, .string nm1, .slice A1 l1 cc1, .slice A2 l2 cc2]) (by simp [results, Tryz.results37, go_sem, x0, x1, x2, x3, x4]) rfl ?_
    exact ⟨_, _, _, _, _, _, _, _, _, rfl, HF.out.1, HF.out.2⟩
  · have q1 : ((M : Int) == 0) = false := by simp; omega
    rw [if_neg h]
    obtain ⟨N, hN⟩ : ∃ N, N = M - 1 + b := ⟨_, rfl⟩
    rw [← hN]
    have HV : Hid (∀ W, Calls Tryz.prog 34 #[.int .i64 ((M : Int) - 1 + (b : Int))] W fun e w' => e = .returned (.agg #[.int .i64 0, .int .i64 (N : Nat), .string ⟨#[]⟩, .slice none 0 0, .slice none 0 0]) ∧ Below W.heap.size W w') := fun W => by
      have := variable_calls N W
      have e9 : ((N : Nat) : Int) = (M : Int) - 1 + (b : Int) := by omega
      rw [e9] at this
      rw [e9]
      exact this
    clear hN hin hold hp hT
    go_enter Tryz.func37, Tryz.ntmps37
    go_wp2_with (go_at_call 34; refine (HV.out _).mono ?_)
    rintro en w1 ⟨rfl, hb1⟩
    have hT1 := HT.out.trans (hb1.mono (by simp))
    obtain ⟨x0, x1, x2, x3, x4, xf, xl⟩ := z_cells hT1
    have HF := hide (var_fill (B := B) (d := e) (n := N) (Nat.le_refl _) (((Below.refl _ _).alloc (Nat.le_refl _) _).trans (hT1.mono (by omega))))
    clear hb1 hT1
    go_wp2_with fail
    refine bodyPost_ret (v := .agg #[.int .i64 0, .int .i64 (N : Nat), .string ⟨#[]⟩, .slice none 0 0, .slice none 0 0]) (by simp [results, Tryz.results37, go_sem, x0, x1, x2, x3, x4]) rfl ?_
    exact ⟨_, _, _, _, _, _, _, _, _, rfl, HF.out.1, HF.out.2⟩

set_option maxRecDepth 100000 in
set_option maxHeartbeats 2000000 in
theorem substT_calls (u : Tm) (e B d : Nat) (t : Tm) (v vu : Value) (w : World) (hu : WfT e u) (he : e ≤ 1000000) (hd : d ≤ 1000000) (hB : B ≤ w.heap.size) (hwf : WfT d t) (hin : InTm w (fun b => b < B) d t v) (hinu : InTm w (fun b => b < B) e u vu) :
    Calls Tryz.prog 9 #[v, vu] w fun en w' => MadeT B w (d + (e + 1)) (chT (substF u e) id d 0 t) en w' := by
  obtain ⟨k, nn, nm, A, la, lc, A', ta, tc, rfl⟩ := hin.form
  obtain ⟨ku, nu, nmu, Au, mu, cu, Au', mu', cu', rfl⟩ := hinu.form
  have hex : ∃ W0 : World, W0 = (((w.alloc (.cells #[.int .i64 k, .int .i64 nn, .string nm, .slice A la lc, .slice A' ta tc] 30)).alloc (.cells #[.int .i64 ku, .int .i64 nu, .string nmu, .slice Au mu cu, .slice Au' mu' cu'] 30)).alloc ztm).alloc (.cells #[.func (.func 37) #[] #[.pointer (some ⟨w.heap.size + 1, 0, none⟩)], .func (.func 35) #[] #[]] 62) := ⟨_, rfl⟩
  obtain ⟨W0, hW0⟩ := hex
  have hT : TB2 w (.int .i64 k) (.int .i64 nn) (.string nm) (.slice A la lc) (.slice A' ta tc) (.int .i64 ku) (.int .i64 nu) (.string nmu) (.slice Au mu cu) (.slice Au' mu' cu') W0 := by rw [hW0]; exact (Below.refl _ _).alloc (by simp) _
  have hold := TB2.old hT
  have hsz : W0.heap.size = w.heap.size + 4 := by rw [hW0]; simp
  have hp := TB2.b1 hT
  have HFr : Frees 37 #[.pointer (some ⟨w.heap.size + 1, 0, none⟩)] (substF u e) (e + 1) B (w.heap.size + 4) W0 :=
    ⟨fun args w' => by simp [go_sem], fun M b w' hM hb hD hbl => subst1T_calls u e (w.heap.size + 1) M b B _ _ _ _ _ _ _ _ _ w' hu he hM hb (by omega) ((hinu.below (hold.mono hB)).below (hbl.mono (by omega))) (by rw [hbl.block _ (by omega)]; exact hp)⟩
  have HC := hide (under_calls 37 35 _ _ (substF u e) id (e + 1) B (w.heap.size + 4) (by omega) d t _ 0 W0 (by omega) (by omega) hwf (hin.below (hold.mono hB)) HFr (copied_levs B (w.heap.size + 4) W0 (by omega)))
  have HT := hide hT
  have HS := hide hsz
  clear hin hinu hold hsz hp HFr hT
  rw [hW0] at HC
  go_enter Tryz.func9, Tryz.ntmps9
  go_wp2_with (go_at_call 36; refine HC.out.mono ?_)
  rw [← hW0]
  rintro en w1 ⟨k1, n1, nm1, A1, l1, cc1, A2, l2, cc2, rfl, hin5, hb5⟩
  have hT1 := TB2.then HT.out hb5
  have hs := HS.out
  obtain ⟨x0, x1, x2, x3, x4, xf, xl⟩ := TB2.zero hT1
  rw [hs] at hin5
  have HF := hide (fill5 (r := w.heap.size + 2) (u0 := .int .i64 k1) (u1 := .int .i64 n1) (u2 := .string nm1) (u3 := .slice A1 l1 cc1) (u4 := .slice A2 l2 cc2) (by omega) hB (TB2.old hT1) (fun b _ h => h.imp id fun h => by omega) hin5)
  clear hin5 hb5 hT1 hs hW0
  go_wp2_with fail
  refine bodyPost_ret (v := .agg #[.int .i64 k1, .int .i64 n1, .string nm1, .slice A1 l1 cc1, .slice A2 l2 cc2]) (by simp [results, Tryz.results9, go_sem, x0, x1, x2, x3, x4]) rfl ?_
  exact ⟨_, _, _, _, _, _, _, _, _, rfl, HF.out.1, HF.out.2⟩

set_option maxRecDepth 100000 in
set_option maxHeartbeats 2000000 in
theorem levels1_calls (M b B : Nat) (w : World) (hM : M ≤ 99999) (hb : b ≤ 1000000) :
    Calls Tryz.prog 50 #[.int .i64 (M : Nat), .int .i64 (b : Nat)] w fun en w' => MadeT B w 1 (idF M b) en w' := by
  unfold idF
  have HT := hide (Below.refl (w.heap.size + 1) (w.alloc ztm))
  obtain ⟨N, hN⟩ : ∃ N, N = M + b := ⟨_, rfl⟩
  rw [← hN]
  have HV : Hid (∀ W, Calls Tryz.prog 34 #[.int .i64 ((M : Int) + (b : Int))] W fun e w' => e = .returned (.agg #[.int .i64 0, .int .i64 (N : Nat), .string ⟨#[]⟩, .slice none 0 0, .slice none 0 0]) ∧ Below W.heap.size W w') := fun W => by
    have := variable_calls N W
    have e9 : ((N : Nat) : Int) = (M : Int) + (b : Int) := by omega
    rw [e9] at this
    rw [e9]
    exact this
  clear hN
  go_enter Tryz.func50, Tryz.ntmps50
  go_wp2_with (go_at_call 34; refine (HV.out _).mono ?_)
  rintro en w1 ⟨rfl, hb1⟩
  have hT1 := HT.out.trans (hb1.mono (by simp))
  obtain ⟨x0, x1, x2, x3, x4, xf, xl⟩ := z_cells hT1
  have HF := hide (var_fill (B := B) (d := 0) (n := N) (Nat.le_refl _) (((Below.refl _ _).alloc (Nat.le_refl _) _).trans (hT1.mono (by omega))))
  clear hb1 hT1
  go_wp2_with fail
  refine bodyPost_ret (v := .agg #[.int .i64 0, .int .i64 (N : Nat), .string ⟨#[]⟩, .slice none 0 0, .slice none 0 0]) (by simp [results, Tryz.results50, go_sem, x0, x1, x2, x3, x4]) rfl ?_
  exact ⟨_, _, _, _, _, _, _, _, _, rfl, HF.out.1, HF.out.2⟩

set_option maxRecDepth 100000 in
set_option maxHeartbeats 2000000 in
theorem levels2_calls (l : LvB) (v pv lv : Value) (ps : List ByteArray) (ls : List LvB) (p q B : Nat) (w : World) (hlen : ps.length = ls.length) (hB : B ≤ w.heap.size) (hl : InLv w B l v) (hps : InStrs w B pv ps) (hls : InLvs w B lv ls) (cp : w.cell? ⟨p, 0, none⟩ = some pv) (cq : w.cell? ⟨q, 0, none⟩ = some lv) :
    Calls Tryz.prog 51 #[v, .pointer (some ⟨p, 0, none⟩), .pointer (some ⟨q, 0, none⟩)] w fun e w' => Made B w (l.bind (lookL ps ls)) e w' := by
  obtain ⟨A, cap, e1⟩ := hl.form
  have HR : Hid (∀ o, Calls Tryz.prog 52 #[v, pv, lv] ((w.alloc o).alloc zlev) fun e w' => Made B ((w.alloc o).alloc zlev) (l.bind (lookL ps ls)) e w') := fun o => by
    have hold : Below w.heap.size w ((w.alloc o).alloc zlev) := ((Below.refl _ _).alloc (Nat.le_refl _) _).alloc (by simp) _
    exact substM_calls l ps ls v _ _ B ((w.alloc o).alloc zlev) (Nat.le_trans hB hold.size) (hl.below (hold.mono hB)) (hps.below (hold.mono hB)) (hls.below (hold.mono hB)) hlen
  obtain ⟨hm1, A1, cap1, rfl, -⟩ := hps
  obtain ⟨hm2, A2, cap2, rfl, -⟩ := hls
  have hpl : p < w.heap.size := World.block_lt_of_cell? _ _ cp
  have hql : q < w.heap.size := World.block_lt_of_cell? _ _ cq
  subst e1
  clear hl hlen
  generalize l.bind (lookL ps ls) = L at *
  go_enter Tryz.func51, Tryz.ntmps51
  go_wp2_with (go_at_call 52; refine (HR.out _).mono ?_)
  rintro e w1 ⟨k, nm, A1, n, cap1, rfl, hin, hbw⟩
  have hsz : ∀ o, ((w.alloc o).alloc zlev).heap.size = w.heap.size + 2 := fun o => by simp
  rw [hsz] at hin hbw
  obtain ⟨z0, z1, z2, zf, zl⟩ := zbox hbw
  have HI := hide (made_fill (u0 := .int .i64 k) (u1 := .string nm) (u2 := .slice A1 n cap1) hB hbw (fun b h => h) hin)
  clear hin hbw HR hsz
  go_wp2_with fail
  refine bodyPost_ret (v := .agg #[.int .i64 k, .string nm, .slice A1 n cap1]) (by simp [results, Tryz.results51, go_sem, z0, z1, z2]) rfl ?_
  exact ⟨k, nm, A1, n, cap1, rfl, HI.out.1, HI.out.2⟩

set_option maxRecDepth 100000 in
set_option maxHeartbeats 2000000 in
theorem levels_calls (ps : List ByteArray) (ls : List LvB) (pv lv : Value) (hlen : ps.length = ls.length) (B d : Nat) (t : Tm) (v : Value) (w : World) (hd : d ≤ 1000000) (hB : B ≤ w.heap.size) (hwf : WfT d t) (hin : InTm w (fun b => b < B) d t v) (hps : InStrs w B pv ps) (hls : InLvs w B lv ls) :
    Calls Tryz.prog 21 #[v, pv, lv] w fun en w' => MadeT B w (d + 1) (chT idF (Lv.bind (lookL ps ls)) d 0 t) en w' := by
  obtain ⟨k, nn, nm, A, la, lc, A', ta, tc, rfl⟩ := hin.form
  have hex : ∃ W0 : World, W0 = ((((w.alloc (.cells #[.int .i64 k, .int .i64 nn, .string nm, .slice A la lc, .slice A' ta tc] 30)).alloc (.cells #[pv] 41)).alloc (.cells #[lv] 27)).alloc ztm).alloc (.cells #[.func (.func 50) #[] #[], .func (.func 51) #[] #[.pointer (some ⟨w.heap.size + 1, 0, none⟩), .pointer (some ⟨w.heap.size + 1 + 1, 0, none⟩)]] 62) := ⟨_, rfl⟩
  obtain ⟨W0, hW0⟩ := hex
  have hold : Below w.heap.size w W0 := by rw [hW0]; exact (((((Below.refl _ _).alloc (Nat.le_refl _) _).alloc (by simp) _).alloc (by simp; omega) _).alloc (by simp; omega) _).alloc (by simp; omega) _
  have hsz : W0.heap.size = w.heap.size + 5 := by rw [hW0]; simp
  have hn0 : W0.cell? ⟨w.heap.size + 1, 0, none⟩ = some pv := by
    rw [hW0, World.cell?_alloc_past _ _ _ (by simp), World.cell?_alloc_past _ _ _ (by simp), World.cell?_alloc_past _ _ _ (by simp)]; simp [World.cell?_alloc_at]
  have hf1 : W0.cell? ⟨w.heap.size + 1 + 1, 0, none⟩ = some lv := by
    rw [hW0, World.cell?_alloc_past _ _ _ (by simp), World.cell?_alloc_past _ _ _ (by simp)]; simp [World.cell?_alloc_at]
  have hz3 : W0.heap[w.heap.size + 3]? = some ztm := by
    rw [hW0, Below.heap_alloc _ _ _ (by simp)]
    have := heap_alloc_new (((w.alloc (.cells #[.int .i64 k, .int .i64 nn, .string nm, .slice A la lc, .slice A' ta tc] 30)).alloc (.cells #[pv] 41)).alloc (.cells #[lv] 27)) ztm
    rw [show (((w.alloc (.cells #[.int .i64 k, .int .i64 nn, .string nm, .slice A la lc, .slice A' ta tc] 30)).alloc (.cells #[pv] 41)).alloc (.cells #[lv] 27)).heap.size = w.heap.size + 3 by simp] at this
    exact this
  have HFr : Frees 50 #[] idF 1 B (w.heap.size + 5) W0 := ⟨fun args w' => by simp [go_sem], fun M b w' hM hb _ _ => levels1_calls M b B w' hM hb⟩
  have HLv : Levs 51 #[.pointer (some ⟨w.heap.size + 1, 0, none⟩), .pointer (some ⟨w.heap.size + 1 + 1, 0, none⟩)] (Lv.bind (lookL ps ls)) B (w.heap.size + 5) W0 :=
    ⟨fun args w' => by simp [go_sem], fun l v w' hl hD hbl => levels2_calls l v pv lv ps ls _ _ B w' hlen (by omega) hl ((hps.below (hold.mono hB)).below (hbl.mono (by omega))) ((hls.below (hold.mono hB)).below (hbl.mono (by omega))) (by rw [hbl.cell (by show w.heap.size + 1 < _; omega)]; exact hn0) (by rw [hbl.cell (by show w.heap.size + 1 + 1 < _; omega)]; exact hf1)⟩
  have HC := hide (under_calls 50 51 _ _ idF (Lv.bind (lookL ps ls)) 1 B (w.heap.size + 5) (by omega) d t _ 0 W0 (by omega) (by omega) hwf (hin.below (hold.mono hB)) HFr HLv)
  have HO := hide hold
  have HZ := hide hz3
  have HS := hide hsz
  obtain ⟨hm1, A1, cap1, rfl, -⟩ := hps
  obtain ⟨hm2, A2, cap2, rfl, -⟩ := hls
  clear hin hold hz3 hsz hn0 hf1 HFr HLv hlen
  rw [hW0] at HC
  go_enter Tryz.func21, Tryz.ntmps21
  go_wp2_with (go_at_call 36; refine HC.out.mono ?_)
  rw [← hW0]
  rintro en w1 ⟨k1, n1, nm1, A1, l1, cc1, A2, l2, cc2, rfl, hin5, hb5⟩
  have hold1 := HO.out.trans (hb5.mono HO.out.size)
  have hs := HS.out
  obtain ⟨x0, x1, x2, x3, x4, xf, xl⟩ := ztm_cells ((hb5.block (w.heap.size + 3) (by omega)).trans HZ.out)
  rw [hs] at hin5
  have HF := hide (fill5 (r := w.heap.size + 3) (u0 := .int .i64 k1) (u1 := .int .i64 n1) (u2 := .string nm1) (u3 := .slice A1 l1 cc1) (u4 := .slice A2 l2 cc2) (by omega) hB hold1 (fun b _ h => h.imp id fun h => by omega) hin5)
  clear hin5 hb5 hold1 hs hW0
  go_wp2_with fail
  refine bodyPost_ret (v := .agg #[.int .i64 k1, .int .i64 n1, .string nm1, .slice A1 l1 cc1, .slice A2 l2 cc2]) (by simp [results, Tryz.results21, go_sem, x0, x1, x2, x3, x4]) rfl ?_
  exact ⟨_, _, _, _, _, _, _, _, _, rfl, HF.out.1, HF.out.2⟩

end Go.Proofs.YteepmfhpjanbhaaGreatDoor
