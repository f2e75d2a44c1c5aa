/- The contracts of Subst, Levels, copied of package term. -/
import Derived.Test.YtafdlaaohglfdaaGreatDoorMoves
import Derived.Test.YtafdlaaohglfdaaGreatDoorRSpine
import Derived.Test.YtafdlaaohglfdaaGreatDoorKin

namespace Go.Proofs.YtafdlaaohglfdaaGreatDoor
open Go.RowKit

set_option maxRecDepth 100000 in
set_option maxHeartbeats 2000000 in
theorem copiedT_calls (B d : Nat) (t : Tm) (v : Value) (w : World) (hd : d ≤ 1000000) (hB : B ≤ w.heap.size) (hwf : WfT d t) (hin : InTm w (fun b => b < B) d t v) :
    Calls Tryz.prog 28 #[v] w fun en w' => MadeT B w (d + 1) (chT (liftF 0 0) id d 0 t) en w' := by
  obtain ⟨k, nn, nm, A, la, lc, A', ta, tc, rfl⟩ := hin.form
  have hT := Below.refl (w.heap.size + 2) ((w.alloc (.cells #[.int .i64 k, .int .i64 nn, .string nm, .slice A la lc, .slice A' ta tc] 29)).alloc ztm)
  have HC := hide (lift_calls 0 0 B d t _ _ (by omega) hd (Nat.le_trans hB (TB.old hT).size) hwf (hin.below ((TB.old hT).mono hB)))
  have HT := hide hT
  clear hin hT
  go_enter Tryz.func28, Tryz.ntmps28
  go_wp2_with (go_at_call 10; refine HC.out.mono ?_)
  rintro en w1 ⟨k1, n1, nm1, A1, l1, cc1, A2, l2, cc2, rfl, hin5, hb5⟩
  have hT1 := TB.then HT.out hb5
  obtain ⟨x0, x1, x2, x3, x4, xf, xl⟩ := TB.zero hT1
  rw [show ((w.alloc (.cells #[.int .i64 k, .int .i64 nn, .string nm, .slice A la lc, .slice A' ta tc] 29)).alloc ztm).heap.size = w.heap.size + 2 by simp] at hin5
  have HF := hide (fill5 (r := w.heap.size + 1) (u0 := .int .i64 k1) (u1 := .int .i64 n1) (u2 := .string nm1) (u3 := .slice A1 l1 cc1) (u4 := .slice A2 l2 cc2) (by omega) hB (TB.old hT1) (fun b _ h => h.imp id fun h => by omega) hin5)
  clear hin5 hb5 hT1
  go_wp2_with fail
  refine bodyPost_ret (v := .agg #[.int .i64 k1, .int .i64 n1, .string nm1, .slice A1 l1 cc1, .slice A2 l2 cc2]) (by simp [results, Tryz.results28, go_sem, x0, x1, x2, x3, x4]) rfl ?_
  exact ⟨_, _, _, _, _, _, _, _, _, rfl, HF.out.1, HF.out.2⟩

set_option maxRecDepth 100000 in
set_option maxHeartbeats 2000000 in
theorem subst1T_calls (u : Tm) (e p M b B : Nat) (k nn : Int) (nm : ByteArray) (A : Option Addr) (la lc : Nat) (A' : Option Addr) (ta tc : Nat) (w : World) (hu : WfT e u) (he : e ≤ 1000000) (hM : M ≤ 900000) (hb : b ≤ 1000000) (hB : B ≤ w.heap.size) (hin : InTm w (fun b => b < B) e u (.agg #[.int .i64 k, .int .i64 nn, .string nm, .slice A la lc, .slice A' ta tc])) (hp : w.heap[p]? = some (.cells #[.int .i64 k, .int .i64 nn, .string nm, .slice A la lc, .slice A' ta tc] 29 (0, 0))) :
    Calls Tryz.prog 21 #[.int .i64 (M : Nat), .int .i64 (b : Nat), .pointer (some ⟨p, 0, none⟩)] w fun en w' => MadeT B w (e + 1) (substF u e M b) en w' := by
  unfold substF
  have hpl : p < w.heap.size := (Array.getElem?_eq_some_iff.1 hp).1
  have hT := Below.refl (w.heap.size + 1) (w.alloc ztm)
  have hold : Below w.heap.size w (w.alloc ztm) := (Below.refl _ _).alloc (Nat.le_refl _) _
  obtain ⟨d0, d1, d2, d3, d4⟩ := cells5 ((hold.block p hpl).trans hp)
  have HT := hide hT
  by_cases h : M = 0
  · subst h
    rw [if_pos rfl]
    have HC := hide (lift_calls b 0 B e u _ _ hb he (Nat.le_trans hB hold.size) hu (hin.below (hold.mono hB)))
    clear hin hold hp hT
    go_enter Tryz.func21, Tryz.ntmps21
    go_wp2_with (go_at_call 10; refine HC.out.mono ?_)
    rintro en w1 ⟨k1, n1, nm1, A1, l1, cc1, A2, l2, cc2, rfl, hin5, hb5⟩
    have hT1 := HT.out.trans (hb5.mono (by simp))
    obtain ⟨x0, x1, x2, x3, x4, xf, xl⟩ := z_cells hT1
    rw [show (w.alloc ztm).heap.size = w.heap.size + 1 by simp] at hin5
    have HF := hide (fill5 (r := w.heap.size) (u0 := .int .i64 k1) (u1 := .int .i64 n1) (u2 := .string nm1) (u3 := .slice A1 l1 cc1) (u4 := .slice A2 l2 cc2) (Nat.le_refl _) hB (((Below.refl _ _).alloc (Nat.le_refl _) _).trans (hT1.mono (by omega))) (fun b _ h => h.imp id fun h => by omega) hin5)
    clear hin5 hb5 hT1
    go_wp2_with fail
    refine bodyPost_ret (v := .agg #[.int .i64 k1, .int .i64 n1, .string nm1, .slice A1 l1 cc1, .slice A2 l2 cc2]) (by simp [results, Tryz.results21, go_sem, x0, x1, x2, x3, x4]) rfl ?_
    exact ⟨_, _, _, _, _, _, _, _, _, rfl, HF.out.1, HF.out.2⟩
  · have q1 : ((M : Int) == 0) = false := by simp; omega
    rw [if_neg h]
    obtain ⟨N, hN⟩ : ∃ N, N = M - 1 + b := ⟨_, rfl⟩
    rw [← hN]
    have HV : Hid (∀ W, Calls Tryz.prog 22 #[.int .i64 ((M : Int) - 1 + (b : Int))] W fun e w' => e = .returned (.agg #[.int .i64 0, .int .i64 (N : Nat), .string ⟨#[]⟩, .slice none 0 0, .slice none 0 0]) ∧ Below W.heap.size W w') := fun W => by
      have := variable_calls N W
      have e9 : ((N : Nat) : Int) = (M : Int) - 1 + (b : Int) := by omega
      rw [e9] at this
      rw [e9]
      exact this
    clear hN hin hold hp hT
    go_enter Tryz.func21, Tryz.ntmps21
    go_wp2_with (go_at_call 22; refine (HV.out _).mono ?_)
    rintro en w1 ⟨rfl, hb1⟩
    have hT1 := HT.out.trans (hb1.mono (by simp))
    obtain ⟨x0, x1, x2, x3, x4, xf, xl⟩ := z_cells hT1
    have HF := hide (var_fill (B := B) (d := e) (n := N) (Nat.le_refl _) (((Below.refl _ _).alloc (Nat.le_refl _) _).trans (hT1.mono (by omega))))
    clear hb1 hT1
    go_wp2_with fail
    refine bodyPost_ret (v := .agg #[.int .i64 0, .int .i64 (N : Nat), .string ⟨#[]⟩, .slice none 0 0, .slice none 0 0]) (by simp [results, Tryz.results21, go_sem, x0, x1, x2, x3, x4]) rfl ?_
    exact ⟨_, _, _, _, _, _, _, _, _, rfl, HF.out.1, HF.out.2⟩

set_option maxRecDepth 100000 in
set_option maxHeartbeats 2000000 in
theorem substT_calls (u : Tm) (e B d : Nat) (t : Tm) (v vu : Value) (w : World) (hu : WfT e u) (he : e ≤ 1000000) (hd : d ≤ 1000000) (hB : B ≤ w.heap.size) (hwf : WfT d t) (hin : InTm w (fun b => b < B) d t v) (hinu : InTm w (fun b => b < B) e u vu) :
    Calls Tryz.prog 9 #[v, vu] w fun en w' => MadeT B w (d + (e + 1)) (chT (substF u e) id d 0 t) en w' := by
  obtain ⟨k, nn, nm, A, la, lc, A', ta, tc, rfl⟩ := hin.form
  obtain ⟨ku, nu, nmu, Au, mu, cu, Au', mu', cu', rfl⟩ := hinu.form
  have hex : ∃ W0 : World, W0 = (((w.alloc (.cells #[.int .i64 k, .int .i64 nn, .string nm, .slice A la lc, .slice A' ta tc] 29)).alloc (.cells #[.int .i64 ku, .int .i64 nu, .string nmu, .slice Au mu cu, .slice Au' mu' cu'] 29)).alloc ztm).alloc (.cells #[.func (.func 21) #[] #[.pointer (some ⟨w.heap.size + 1, 0, none⟩)], .func (.func 23) #[] #[]] 64) := ⟨_, rfl⟩
  obtain ⟨W0, hW0⟩ := hex
  have hT : TB2 w (.int .i64 k) (.int .i64 nn) (.string nm) (.slice A la lc) (.slice A' ta tc) (.int .i64 ku) (.int .i64 nu) (.string nmu) (.slice Au mu cu) (.slice Au' mu' cu') W0 := by rw [hW0]; exact (Below.refl _ _).alloc (by simp) _
  have hold := TB2.old hT
  have hsz : W0.heap.size = w.heap.size + 4 := by rw [hW0]; simp
  have hp := TB2.b1 hT
  have HFr : Frees 21 #[.pointer (some ⟨w.heap.size + 1, 0, none⟩)] (substF u e) (e + 1) B (w.heap.size + 4) W0 :=
    ⟨fun args w' => by simp [go_sem], fun M b w' hM hb hD hbl => subst1T_calls u e (w.heap.size + 1) M b B _ _ _ _ _ _ _ _ _ w' hu he hM hb (by omega) ((hinu.below (hold.mono hB)).below (hbl.mono (by omega))) (by rw [hbl.block _ (by omega)]; exact hp)⟩
  have HC := hide (under_calls 21 23 _ _ (substF u e) id (e + 1) B (w.heap.size + 4) (by omega) d t _ 0 W0 (by omega) (by omega) hwf (hin.below (hold.mono hB)) HFr (copied_levs B (w.heap.size + 4) W0 (by omega)))
  have HT := hide hT
  have HS := hide hsz
  clear hin hinu hold hsz hp HFr hT
  rw [hW0] at HC
  go_enter Tryz.func9, Tryz.ntmps9
  go_wp2_with (go_at_call 24; refine HC.out.mono ?_)
  rw [← hW0]
  rintro en w1 ⟨k1, n1, nm1, A1, l1, cc1, A2, l2, cc2, rfl, hin5, hb5⟩
  have hT1 := TB2.then HT.out hb5
  have hs := HS.out
  obtain ⟨x0, x1, x2, x3, x4, xf, xl⟩ := TB2.zero hT1
  rw [hs] at hin5
  have HF := hide (fill5 (r := w.heap.size + 2) (u0 := .int .i64 k1) (u1 := .int .i64 n1) (u2 := .string nm1) (u3 := .slice A1 l1 cc1) (u4 := .slice A2 l2 cc2) (by omega) hB (TB2.old hT1) (fun b _ h => h.imp id fun h => by omega) hin5)
  clear hin5 hb5 hT1 hs hW0
  go_wp2_with fail
  refine bodyPost_ret (v := .agg #[.int .i64 k1, .int .i64 n1, .string nm1, .slice A1 l1 cc1, .slice A2 l2 cc2]) (by simp [results, Tryz.results9, go_sem, x0, x1, x2, x3, x4]) rfl ?_
  exact ⟨_, _, _, _, _, _, _, _, _, rfl, HF.out.1, HF.out.2⟩

end Go.Proofs.YtafdlaaohglfdaaGreatDoor

/- The contract of Apply of package term. -/
namespace Go.Proofs.YtafdlaaohglfdaaGreatDoor
open Go.RowKit
theorem copyT_calls (B d : Nat) (t : Tm) (v : Value) (w : World) (hd : d ≤ 1000000) (hB : B ≤ w.heap.size) (hwf : WfT d t) (hin : InTm w (fun b => b < B) d t v) :
    Calls Tryz.prog 28 #[v] w fun en w' => MadeT B w (d + 1) t en w' := by
  have := copiedT_calls B d t v w hd hB hwf hin
  rw [chT_copy hwf] at this
  exact this

/-- A call that answers a value and leaves all that is old alone, as a step of a region. -/
theorem step_value {ops : Array Oper} {o : Oper} {a : Act} {w : World} {K : Act → World → Prop} {Q : Exit → Act → World → Prop} {E : Prop} {args : Array Value} {f : FuncId} {v : Value}
    (hg : o.guard = none) (hrun : (execOp a.eval o).run Tryz.prog w = .ok (.enter f args) w) (hc : Calls Tryz.prog f args w fun e w' => e = .returned v ∧ Below w.heap.size w w')
    (hK : ∀ (w' : World), Below w.heap.size w w' → K (a.put o.dst v) w') :
    if Region.wanted o (yielded ops a.tmps) = true then Oper.wp Tryz.prog o a w K Q else E := by
  have hw : Region.wanted o (yielded ops a.tmps) = true := by simp [Region.wanted, hg]
  rw [if_pos hw]
  unfold Oper.wp
  rw [hrun]
  refine hc.mono ?_
  rintro e w' ⟨rfl, h2⟩
  exact hK w' h2

/-- A term's variable (block c) holds a term, the result's block (r) is as it was made, and nothing old has turned. -/
structure Held3 (w : World) (B r c d : Nat) (t : Tm) (wr : World) : Prop where
  var : ∃ (k n : Int) (nm : ByteArray) (A : Option Addr) (la lc : Nat) (A' : Option Addr) (ta tc : Nat), TVar 29 wr c k n nm (.slice A la lc) (.slice A' ta tc) ∧ InTm wr (fun b => b < B ∨ (r < b ∧ b ≠ c)) d t (.agg #[.int .i64 k, .int .i64 n, .string nm, .slice A la lc, .slice A' ta tc])
  zero : TVar 29 wr r 0 0 ⟨#[]⟩ (.slice none 0 0) (.slice none 0 0)
  old : Below w.heap.size w wr

theorem Held3.store {w wr w1 : World} {B r c d d' : Nat} {t t' : Tm} (h : Held3 w B r c d t wr) (hb : Below wr.heap.size wr w1) {k n : Int} {nm : ByteArray} {A : Option Addr} {la lc : Nat} {A' : Option Addr} {ta tc : Nat} {S : Nat → Prop} (hwc : w.heap.size ≤ c) (hrc : r < c) (hBc : B ≤ c) (hS : ∀ b, S b → b < B ∨ (r < b ∧ b ≠ c))
    (hin : InTm w1 S d' t' (.agg #[.int .i64 k, .int .i64 n, .string nm, .slice A la lc, .slice A' ta tc])) : Held3 w B r c d' t' (set5 w1 c (.int .i64 k) (.int .i64 n) (.string nm) (.slice A la lc) (.slice A' ta tc)) := by
  obtain ⟨⟨k0, n0, nm0, A0, a0, c0, A1, a1, c1, hv, _⟩, hz, ho⟩ := h
  have hv1 := hv.of_block (hb.block _ hv.lt)
  have hz1 := hz.of_block (hb.block _ hz.lt)
  refine ⟨⟨_, _, _, _, _, _, _, _, _, hv1.set5 _ _ _ _ _, hin.keep fun b _ hSb => ⟨hS b hSb, set5_block ?_⟩⟩, hz1.of_block (set5_block (by omega)), set5_below hwc (ho.trans (hb.mono ho.size))⟩
  rcases hS b hSb with h | h
  · omega
  · exact h.2

set_option maxRecDepth 100000 in
set_option maxHeartbeats 8000000 in
theorem apply_calls (B d : Nat) (f : Tm) (xs : List Tm) (vf va : Value) (w : World) (hd : d ≤ 1000000) (hB : B ≤ w.heap.size) (hn : xs.length ≤ 1000000) (hwf : WfT d f) (hwx : ∀ i (hi : i < xs.length), WfT d xs[i]) (hf : InTm w (fun b => b < B) d f vf) (ha : LstT w (fun b => b < B) d xs va) :
    Calls Tryz.prog 13 #[vf, va] w fun e w' => MadeT B w (d + 1 + xs.length) (applyT f xs) e w' := by
  obtain ⟨k, nn, nm, A, la, lc, A', ta, tc, rfl⟩ := hf.form
  obtain ⟨A2, c2, rfl, hp⟩ := ha
  have hold : Below w.heap.size w ((w.alloc (.cells #[.int .i64 k, .int .i64 nn, .string nm, .slice A la lc, .slice A' ta tc] 29)).alloc ztm) := ((Below.refl _ _).alloc (Nat.le_refl _) _).alloc (by simp) _
  have K1 := hide (copyT_calls B d f _ _ hd (Nat.le_trans hB hold.size) hwf (hf.below (hold.mono hB)))
  have HF := hide hf
  have HP := hide hp
  have HWx := hide hwx
  clear hf hp hwx hwf
  go_enter Tryz.func13, Tryz.ntmps13
  go_wp2_with (go_at_call 28; refine K1.out.mono ?_)
  rintro e w1 ⟨k1, n1, nm1, A3, l3, c3, A4, l4, c4, rfl, hin1, hb1⟩
  have hz1 := hb1.size
  simp at hz1
  have ho1 : Below w.heap.size w w1 := hold.trans (hb1.mono hold.size)
  have hH : Held3 w B (w.heap.size + 1) w1.heap.size (d + 1) f (w1.alloc (.cells #[.int .i64 k1, .int .i64 n1, .string nm1, .slice A3 l3 c3, .slice A4 l4 c4] 29)) := by
    refine ⟨⟨k1, n1, nm1, A3, l3, c3, A4, l4, c4, heap_alloc_new _ _, hin1.keep fun b hbl hS => ⟨hS.imp id fun h => ⟨by simp at h; omega, by omega⟩, Below.heap_alloc _ _ _ hbl⟩⟩, ?_, ho1.alloc (by omega) _⟩
    refine TVar.alloc ?_ _
    have h0 : TVar 29 ((w.alloc (.cells #[.int .i64 k, .int .i64 nn, .string nm, .slice A la lc, .slice A' ta tc] 29)).alloc ztm) (w.heap.size + 1) 0 0 ⟨#[]⟩ (.slice none 0 0) (.slice none 0 0) := by
      have := heap_alloc_new (w.alloc (.cells #[.int .i64 k, .int .i64 nn, .string nm, .slice A la lc, .slice A' ta tc] 29)) ztm
      simpa [TVar] using this
    exact h0.of_block (hb1.block _ (by simp))
  have HH := hide hH
  clear hH hin1 hb1 hold K1 HF
  go_wp2_with fail
  go_loopg [12] (xs.length) (fun g i wr => ∃ k0 : Nat, k0 + g = xs.length ∧ i = .int .i64 k0 ∧ Held3 w B (w.heap.size + 1) w1.heap.size (d + 1 + k0) (applyT f (xs.take k0)) wr)
  case atStart => exact ⟨0, by omega, rfl, by simpa [applyT] using HH.out⟩
  case round =>
    obtain ⟨k0, hkg, rfl, hH⟩ := hrel
    have HH1 := hide hH
    obtain ⟨⟨k2, n2, nm2, A5, l5, c5, A6, l6, c6, hv, hin⟩, hz, ho⟩ := hH
    have g0 := hv.c0
    have g1 := hv.c1
    have g2 := hv.c2
    have g3 := hv.c3
    have g4 := hv.c4
    have gl := hv.lt
    have gf := hv.f
    have x0 := hz.c0
    have x1 := hz.c1
    have x2 := hz.c2
    have x3 := hz.c3
    have x4 := hz.c4
    have xf := hz.f
    have xl := hz.lt
    by_cases hlt : k0 < xs.length
    · obtain ⟨b1, x, rfl, hb1, h5, hinx⟩ := HP.out k0 hlt
      obtain ⟨k7, n7, nm7, A7, l7, c7, A8, l8, c8, rfl, e0, e1, e2, e3, e4⟩ := h5
      have d0 := cell_later ho e0
      have d1 := cell_later ho e1
      have d2 := cell_later ho e2
      have d3 := cell_later ho e3
      have d4 := cell_later ho e4
      have HI := hide hin
      have K2 := hide (copyT_calls B d xs[k0] _ ((wr.alloc (.cells #[.int .i64 k7, .int .i64 n7, .string nm7, .slice A7 l7 c7, .slice A8 l8 c8] 29)).drew) hd (by show B ≤ (wr.alloc _).heap.size; simp; omega) (HWx.out k0 hlt) (hinx.keep fun b hb hS => ⟨hS, by show (wr.alloc _).heap[b]? = _; rw [Below.heap_alloc _ _ _ (by omega)]; exact ho.block b hb⟩))
      clear hv hin hz ho hinx e0 e1 e2 e3 e4 x0 x1 x2 x3 x4 xf
      go_wp2_with fail
      go_region_law (first
        | (refine step_madeT (f := 28) (B := B) (d := d + 1) (t := xs[k0]) rfl ?_ K2.out ?_
           · simp [go_sem]
           intro k9 n9 nm9 A9 l9 c9 A0 l0 c0 w5 hin5 hb5'
           have hz5 := hb5'.size
           have hz5' : wr.heap.size + 1 ≤ w5.heap.size := by
             have e : ((wr.alloc (.cells #[.int .i64 k7, .int .i64 n7, .string nm7, .slice A7 l7 c7, .slice A8 l8 c8] 29)).drew).heap.size = wr.heap.size + 1 := by show (wr.alloc _).heap.size = _; simp
             omega
           have hb5 : Below wr.heap.size wr w5 := ((Below.refl wr.heap.size wr).alloc (Nat.le_refl _) (.cells #[.int .i64 k7, .int .i64 n7, .string nm7, .slice A7 l7 c7, .slice A8 l8 c8] 29)).trans ⟨hb5'.os, hb5'.tape, hb5'.output, hb5'.size, fun j hj => hb5'.block j (by show j < (wr.alloc _).heap.size; simp; omega)⟩
           have HI5 : Hid (InTm w5 (fun b => b < B ∨ wr.heap.size < b) (d + 1) xs[k0] (.agg #[.int .i64 k9, .int .i64 n9, .string nm9, .slice A9 l9 c9, .slice A0 l0 c0])) := hin5.keep fun b _ hS => ⟨hS.imp id fun h => by have h' : (wr.alloc (.cells #[.int .i64 k7, .int .i64 n7, .string nm7, .slice A7 l7 c7, .slice A8 l8 c8] 29)).heap.size ≤ b := h; simp at h'; omega, rfl⟩
           have HB5 := hide hb5
           have p0 := cell_later hb5 g0
           have p1 := cell_later hb5 g1
           have p2 := cell_later hb5 g2
           have p3 := cell_later hb5 g3
           have p4 := cell_later hb5 g4
           have pf : ∀ i, w5.frozen? ⟨w1.heap.size, i, none⟩ = false := fun i => by rw [World.frozen?_of_block (hb5.block _ gl)]; exact gf i
           have pl : w1.heap.size < w5.heap.size := Nat.lt_of_lt_of_le gl hb5.size
           clear hin5 hb5' hb5 hz5 K2)
        | (refine step_value (f := 30) (v := .agg #[.int .i64 3, .int .i64 0, .string ⟨#[]⟩, .slice none 0 0, .slice (some ⟨w5.heap.size, 0, none⟩) 2 2]) rfl ?_ (node_calls (some ⟨w5.heap.size, 0, none⟩) 2 2 _) ?_
           · simp [go_sem]
           intro w7 hb7
           have hb57 : Below wr.heap.size wr w7 := (HB5.out.alloc (by omega) _).trans (hb7.mono (by simp; omega))
           have HS := hide (HH1.out.store hb57 (by omega) (by omega) (by omega) (fun b h => h) (pair_in (S := fun b => b < B ∨ (w.heap.size + 1 < b ∧ b ≠ w1.heap.size)) (g := w5.heap.size) (fr := (0, 0)) (.inr ⟨by omega, by omega⟩) ((hb7.block _ (by simp)).trans (heap_alloc_new _ _)) (HI.out.keep fun b hb hS => ⟨hS, hb57.block b hb⟩)
             ((HI5.out.deeper (e := d + 1 + k0) (by omega)).keep fun b hb hS => ⟨hS.imp id fun h => ⟨by omega, by omega⟩, (hb7.block b (by simp; omega)).trans (Below.heap_alloc _ _ _ hb)⟩) 2))
           have r0 := cell_later hb57 g0
           have r1 := cell_later hb57 g1
           have r2 := cell_later hb57 g2
           have r3 := cell_later hb57 g3
           have r4 := cell_later hb57 g4
           have rf : ∀ i, w7.frozen? ⟨w1.heap.size, i, none⟩ = false := fun i => by rw [World.frozen?_of_block (hb57.block _ gl)]; exact gf i
           have rl : w1.heap.size < w7.heap.size := Nat.lt_of_lt_of_le gl hb57.size
           clear hb7 hb57 p0 p1 p2 p3 p4 pf))
      all_goals
        go_wp2_with fail
        go_roundg (xs.length - (k0 + 1))
        case measure => omega
        case rel => exact ⟨k0 + 1, by omega, by go_num, by rw [applyT_succ f xs k0 hlt]; exact HS.out⟩
    · have hk : k0 = xs.length := by omega
      subst hk
      rw [List.take_length] at hin
      have HFl := hide (fill5 (r := w.heap.size + 1) (u0 := .int .i64 k2) (u1 := .int .i64 n2) (u2 := .string nm2) (u3 := .slice A5 l5 c5) (u4 := .slice A6 l6 c6) (by omega) hB ho (fun b _ h => h.imp id fun h => ⟨by omega, by omega⟩) hin)
      clear hv hin hz ho
      go_wp2_with fail
      refine bodyPost_ret (v := .agg #[.int .i64 k2, .int .i64 n2, .string nm2, .slice A5 l5 c5, .slice A6 l6 c6]) (by simp [results, Tryz.results13, go_sem, x0, x1, x2, x3, x4]) rfl ?_
      exact ⟨_, _, _, _, _, _, _, _, _, rfl, HFl.out.1, HFl.out.2⟩

end Go.Proofs.YtafdlaaohglfdaaGreatDoor
