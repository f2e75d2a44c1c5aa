/- The contracts of isApplied, isEquation, rankOf, start, shapeOf. -/
import Derived.Test.YtockffblncdikaaGreatDoorLw
namespace Go.Proofs.YtockffblncdikaaGreatDoor
open Go.RowKit
set_option maxRecDepth 100000
set_option maxHeartbeats 16000000
def StepG (B : Prop) (n0 : Nat) (w : World) (pb : Nat) (wb : Wk) (l : List UInt8) (tg : Bool) (st : List Pc) (tk : List ByteArray) (m : Nat) (e : Ending) (w' : World) : Prop :=
 (∃ l' tg' st2, e = .returned (.tuple #[]) /\ PS w' n0 pb wb l' tg' (st ++ st2) /\ Below n0 w w' /\ (st ++ st2).length <= 33554432 /\ l.length <= l'.length /\ wtS st2 < m /\ (l.length < 8388608 -> l' = l /\ tg' = tg /\ popT st2 = tk)) \/ (B /\ Thr n0 w e w')
abbrev StepR (B : Prop) (n0 : Nat) (w : World) (pb : Nat) (wb : Wk) (l : List UInt8) (tg : Bool) (st : List Pc) (p : Pc) (e : Ending) (w' : World) : Prop := StepG B n0 w pb wb l tg st p.toks p.wt e w'
section
variable {n0 pb : Nat} {wb : Wk} {tg : Bool} {l : List UInt8} {st : List Pc} {B : Prop}
theorem StepG.form {w w' : World} {tk : List ByteArray} {m : Nat} {e : Ending} (h : StepG B n0 w pb wb l tg st tk m e w') : e = .returned (.tuple #[]) \/ ∃ fb, e = .panicked [{ v := .iface 41 (.pointer (some ⟨fb, 0, none⟩)), recovered := false }] := by
 rcases h with ⟨_, _, _, he, _⟩ | ⟨_, _, fb, he⟩
 . exact .inl he
 . exact .inr ⟨fb, he⟩
theorem StepR.form {w w' : World} {p : Pc} {e : Ending} (h : StepR B n0 w pb wb l tg st p e w') : e = .returned (.tuple #[]) \/ ∃ fb, e = .panicked [{ v := .iface 41 (.pointer (some ⟨fb, 0, none⟩)), recovered := false }] := StepG.form h
theorem PsIn.made (w : World) (n1 : Nat) (hn : n1 <= w.heap.size) (pcs : List Pc) (cs : Array Value) (hcs : cs.toList = flatP pcs) (T : TypeId) : PsIn (w.alloc (.cells cs T)) n1 (some ⟨w.heap.size, 0, none⟩) pcs := fun i hi => by
 refine ⟨w.heap.size, rfl, hn, fun q hq => ?_⟩
 have hc : (w.alloc (.cells cs T)).cell? ⟨w.heap.size, i * 6 + q, none⟩ = cs[i * 6 + q]? := by
  unfold World.cell?; rw [heap_alloc_new]
  rfl
 rw [hc, <- Array.getElem?_toList, hcs]; clear hc hcs
 induction pcs generalizing i with
 | nil => exact absurd hi (by simp)
 | cons p pcs ih =>
   have e : flatP (p :: pcs) = p.cells.toList ++ flatP pcs := rfl; have hp : p.cells.toList.length = 6 := by rw [Array.length_toList, p.size]
   rw [e]
   cases i with
   | zero =>
     rw [List.getElem?_append_left (by omega)]
     simp
   | succ i =>
     rw [List.getElem?_append_right (by omega), hp]; have e2 : (i + 1) * 6 + q - 6 = i * 6 + q := by omega
     rw [e2]; exact ih i (by simpa using hi)
theorem next_stepG (tk : List ByteArray) (m : Nat) (pcs : List Pc) (cs : Array Value) {c : Nat} (hcs : cs.toList = flatP pcs) (ht : pcs.flatMap Pc.toks = tk) (hw : wtS pcs < m) {w W : World} (hok : ∀ q ∈ pcs, q.Ok w n0) (hl : pcs.length <= 1000000000) (h : PS w n0 pb wb l tg st) (hb : Below w.heap.size w W) (hst : st.length <= 33554432) (hB : B \/ wtS st + m <= 33554432) :
 Calls Tryz.prog 74 #[.pointer (some ⟨pb, 0, none⟩), .slice (some ⟨W.heap.size, 0, none⟩) pcs.length c] (W.alloc (.cells cs 106)) fun e w' => StepG B n0 w pb wb l tg st tk m e w' := by
 have hz := hb.size; have hlo := h.lo; have hlt := h.lt; have h1 := wtS_len pcs; have h2 := wtS_len st; have hb1 : Below w.heap.size w (W.alloc (.cells cs 106)) := hb.alloc hz _
 have hb2 : Below n0 w (W.alloc (.cells cs 106)) := hb1.mono (by omega)
 refine (next_calls (B := B) pcs _ c w (W.alloc (.cells cs 106)) h hb1 (PsIn.made W w.heap.size hz pcs cs hcs 106) hok (by omega) (hB.imp id fun x => by omega)).mono ?_; intro e w' hr
 rcases hr with ⟨he, hP, hB2, hn⟩ | ⟨hb', hth⟩
 . refine .inl ⟨l, tg, pcs.reverse, he, hP, hb2.trans hB2, by rw [List.length_append, List.length_reverse]; exact hn, Nat.le_refl _, by rw [wtS_reverse]; exact hw, fun _ => ⟨rfl, rfl, by rw [popT_reverse, ht]⟩⟩
 . exact .inr ⟨hb', hth.from hb2⟩
theorem next_step (p : Pc) (pcs : List Pc) (cs : Array Value) {c : Nat} (hcs : cs.toList = flatP pcs) (ht : pcs.flatMap Pc.toks = p.toks) (hw : wtS pcs < p.wt) {w W : World} (hok : ∀ q ∈ pcs, q.Ok w n0) (hl : pcs.length <= 1000000000) (h : PS w n0 pb wb l tg st) (hb : Below w.heap.size w W) (hst : st.length <= 33554432) (hB : B \/ wtS st + p.wt <= 33554432) :
 Calls Tryz.prog 74 #[.pointer (some ⟨pb, 0, none⟩), .slice (some ⟨W.heap.size, 0, none⟩) pcs.length c] (W.alloc (.cells cs 106)) fun e w' => StepR B n0 w pb wb l tg st p e w' := next_stepG p.toks p.wt pcs cs hcs ht hw hok hl h hb hst hB
theorem Tb.low {w w' : World} (h : Tb w) (hb : Below n0 w w') (h8 : 8 < n0) : Tb w' := h.of_blocks (fun k hk => hb.block k (by omega)) hb.size
theorem Pow10.low {w w' : World} (h : Tb w) (hb : Below w.heap.size w w') : Pow10 w' := (h.later hb).pw
end
theorem top_lvK : ∀ (x : LvB) (k : Nat), lvK x k = lvK (topL x) (k + chain x)
 | .succ a, k => by
   have := top_lvK a (k + 1)
   simp only [lvK, topL, chain]
   rw [this, show k + 1 + chain a = k + (chain a + 1) by omega]
 | .zero, _ => rfl
 | .param _, _ => rfl
 | .max _ _, _ => rfl
 | .imax _ _, _ => rfl
theorem top_lvGo : ∀ (x : LvB) (k : Nat), lvGo x k = lvGo (topL x) (k + chain x)
 | .succ a, k => by
   have := top_lvGo a (k + 1)
   simp only [lvGo, topL, chain]
   rw [this, show k + 1 + chain a = k + (chain a + 1) by omega]
 | .zero, _ => rfl
 | .param _, _ => rfl
 | .max _ _, _ => rfl
 | .imax _ _, _ => rfl
theorem top_good : ∀ {x : LvB} {k : Nat}, GoodAt x k -> GoodAt (topL x) (k + chain x)
 | .succ a, k, h => by
   have := top_good (x := a) (k := k + 1) h
   simp only [topL, chain]
   rw [show k + (chain a + 1) = k + 1 + chain a by omega]; exact this
 | .zero, _, h => h
 | .param _, _, h => h
 | .max _ _, _, h => h
 | .imax _ _, _, h => h
theorem chain_isSL : ∀ x : LvB, isSL x = decide (chain x ≠ 0)
 | .succ _ => by simp [isSL, chain]
 | .zero => rfl
 | .param _ => rfl
 | .max _ _ => rfl
 | .imax _ _ => rfl
theorem top_lw : ∀ x : LvB, lw x = lw (topL x) + (if chain x = 0 then 0 else 8)
 | .succ a => by
   have := top_lw a
   simp only [lw, topL, chain, chain_isSL]
   by_cases h : chain a = 0
   . rw [if_pos h] at this
     simp [h, this]
   . rw [if_neg h] at this
     simp [h, this]
 | .zero => rfl
 | .param _ => rfl
 | .max _ _ => rfl
 | .imax _ _ => rfl
theorem top_not : ∀ x : LvB, isS (topL x) = false
 | .succ a => top_not a
 | .zero => rfl
 | .param _ => rfl
 | .max _ _ => rfl
 | .imax _ _ => rfl
theorem num_few : ∀ k, k < 100 -> (numB k).size <= 100 := by decide +kernel
theorem XAt.args {w : World} {S : Nat -> Prop} {e : Ex} {b o : Nat} (h : XAt w S e b o) (hx : 0 < e.xs.length) : ∃ g, (∃ n c, w.cell? ⟨b, o + 8, none⟩ = some (.slice (some ⟨g, 0, none⟩) n c) /\ 0 < n) /\ S g /\ Opn w g /\ ∃ u, w.cell? ⟨g, 0, none⟩ = some u := by
 obtain ⟨v, hs, hi, hc⟩ := h
 cases hi with
 | mk A c A' c' hl vs hb hv =>
   obtain ⟨g, rfl, hg, hz, hq⟩ := hb 0 hx; exact ⟨g, ⟨_, _, hc 8 (by omega), hx⟩, hg, hz.2, _, (hq 0 (by omega)).trans (Array.getElem?_eq_getElem (by omega))⟩
theorem Tryz.size154 : (Tryz.prog.info? 154).map (·.size) = some 4 := by kernel_rfl
theorem shapeOf_calls {n0 : Nat} (e : Ex) (b o : Nat) (w : World) (h : XAt w (fun b => b < n0) e b o) (hx : 0 < e.xs.length) : Calls Tryz.prog 91 #[.pointer (some ⟨b, o, none⟩)] w fun r w' => ∃ (g : Nat) (k : Int) (nm : ByteArray) (im : Bool), r = .returned (.agg #[.pointer (some ⟨g, 0, none⟩), .int .i64 k, .string nm, .bool im]) /\ KeyF w n0 (.agg #[.pointer (some ⟨g, 0, none⟩), .int .i64 k, .string nm, .bool im]) /\ Below w.heap.size w w' := by
 obtain ⟨g, ⟨n, c', c8, hn⟩, hg⟩ := h.args hx; have hn' : (0 : Int) < (n : Int) := by omega
 obtain ⟨kd, a, nm, ex, gi, inf, im, ls, xs⟩ := e; obtain ⟨_, _, _, _, hlt, _, c0, c2, _, _, _, c6, _⟩ := h.open; clear h hx
 have HK : Hid (KeyF w n0 (.agg #[.pointer (some ⟨g, 0, none⟩), .int .i64 (kd : Nat), .string nm, .bool im])) := hide ⟨g, _, _, _, rfl, hg⟩; clear hg; have hne : ¬ b = w.heap.size := by omega
 have F : ∀ W, Below w.heap.size w W -> W.cell? ⟨b, o, none⟩ = some (.int .i64 (kd : Nat)) /\ W.cell? ⟨b, o + 2, none⟩ = some (.string nm) /\ W.cell? ⟨b, o + 6, none⟩ = some (.bool im) /\ W.cell? ⟨b, o + 8, none⟩ = some (.slice (some ⟨g, 0, none⟩) n c') := fun W hW => ⟨cell_later hW c0, cell_later hW c2, cell_later hW c6, cell_later hW c8⟩
 generalize (kd : Int) = k at *
 go_enter Tryz.func91, Tryz.ntmps91
 go_wp2_with fail
 go_region_held3 (fun w' => w'.cell? ⟨b, o, none⟩ = some (.int .i64 k) /\ w'.cell? ⟨b, o + 2, none⟩ = some (.string nm) /\ w'.cell? ⟨b, o + 6, none⟩ = some (.bool im) /\ w'.cell? ⟨b, o + 8, none⟩ = some (.slice (some ⟨g, 0, none⟩) n c')) (first | assumption | exact F _ (Below.refl _ _) | exact F _ (Below.refl _ _).drew | exact F _ ((Below.refl _ _).drew.alloc (Nat.le_refl _) _) | exact F _ ((Below.refl _ _).alloc (Nat.le_refl _) _).drew) (fail)
 all_goals
  go_wp2_with fail
  refine bodyPost_ret (results_cell_row rfl _ _ w.heap.size 154 _ (0, 0) _ rfl (heap_alloc_new w _) Tryz.underlying154 rfl Tryz.size154) rfl ?_
  exact ⟨g, k, nm, im, rfl, HK.out, ((Below.refl _ _).alloc (Nat.le_refl _) _).drew⟩
def appB (e : Ex) : Bool := e.kd == 4 && e.xs.length == 2
theorem isApplied_calls {S : Nat -> Prop} (e : Ex) (b o : Nat) (w : World) (h : XAt w S e b o) : Calls Tryz.prog 121 #[.pointer (some ⟨b, o, none⟩)] w fun r w' => r = .returned (.bool (appB e)) /\ w' = w := by
 obtain ⟨kd, a, nm, ex, gi, inf, im, ls, xs⟩ := e; obtain ⟨A, c, A', c', _, _, c0, _, _, _, _, _, _, c8, _⟩ := h.open; clear h; have e0 : appB (.node kd a nm ex gi inf im ls xs) = (kd == 4 && xs.length == 2) := rfl
 rw [e0]; clear e0; rename_i hkid; clear hkid; generalize xs.length = n at *
 by_cases hk : kd = 4
 . subst hk
   by_cases hn : n = 2
   . subst hn
     go_enter Tryz.func121, Tryz.ntmps121
     go_wp2_with fail
     go_ret; exact ⟨rfl, rfl⟩
   . have q1 : ((n : Int) == 2) = false := by simp; omega
     have q2 : (n == 2) = false := by simpa using hn
     rw [q2]; clear hn q2
     go_enter Tryz.func121, Tryz.ntmps121
     go_wp2_with fail
     go_ret; exact ⟨rfl, rfl⟩
 . have q1 : ((kd : Int) == 4) = false := by simp; omega
   have q2 : (kd == 4) = false := by simpa using hk
   rw [q2]; clear hk q2
   go_enter Tryz.func121, Tryz.ntmps121
   go_wp2_with fail
   go_ret; exact ⟨rfl, rfl⟩
theorem isEquation_no {S : Nat -> Prop} (e : Ex) (b o : Nat) (w : World) (h : XAt w S e b o) (h1 : appB e = false) : Calls Tryz.prog 111 #[.pointer (some ⟨b, o, none⟩)] w fun r w' => r = .returned (.bool false) /\ w' = w := by
 have KA := hide (isApplied_calls e b o w h); rw [h1] at KA; clear h h1
 go_enter Tryz.func111, Tryz.ntmps111
 go_wp2_with (go_at_call 121; refine KA.out.mono ?_)
 intro r w1 h1; obtain ⟨rfl, hw1⟩ := h1; have hw1' := hw1.symm; subst hw1'; clear hw1
 go_wp2_with fail
 go_ret; exact ⟨rfl, rfl⟩
theorem isEquation_one {S : Nat -> Prop} (a : Nat) (f x : Ex) (b o : Nat) (w : World) (h : XAt w S (appX a f x) b o) (h1 : appB f = false) : Calls Tryz.prog 111 #[.pointer (some ⟨b, o, none⟩)] w fun r w' => r = .returned (.bool false) /\ w' = w := by
 have KA := hide (isApplied_calls _ b o w h); rw [show appB (appX a f x) = true from rfl] at KA; obtain ⟨A, c, A', c', _, _, c0, _, _, _, _, _, _, c8, _, hkid⟩ := h.open; obtain ⟨g, rfl, hf⟩ := hkid 0 (by simp)
 have KF : Hid (Calls Tryz.prog 121 #[.pointer (some ⟨g, 0, none⟩)] w fun r w' => r = .returned (.bool false) /\ w' = w) := hide (h1 ▸ isApplied_calls f g 0 w (by simpa using hf)); clear h h1 hkid hf
 simp only [List.length_cons, List.length_nil] at c8
 go_enter Tryz.func111, Tryz.ntmps111
 go_wp2_with (go_at_call 121; refine KA.out.mono ?_)
 intro r w1 h1; obtain ⟨rfl, hw1⟩ := h1; have hw1' := hw1.symm; subst hw1'; clear hw1
 go_wp2_with (go_at_call 121; refine KF.out.mono ?_)
 intro r w1 h1; obtain ⟨rfl, hw1⟩ := h1; have hw1' := hw1.symm; subst hw1'; clear hw1
 go_wp2_with fail
 go_ret; exact ⟨rfl, rfl⟩
theorem isEquation_two {S : Nat -> Prop} (a a1 : Nat) (g y x : Ex) (b o : Nat) (w : World) (h : XAt w S (appX a (appX a1 g y) x) b o) : Calls Tryz.prog 111 #[.pointer (some ⟨b, o, none⟩)] w fun r w' => r = .returned (.bool (g.kd == 1 && g.inf)) /\ w' = w := by
 have KA := hide (isApplied_calls _ b o w h); rw [show appB (appX a (appX a1 g y) x) = true from rfl] at KA; obtain ⟨A, c, A', c', _, _, c0, _, _, _, _, _, _, c8, _, hkid⟩ := h.open
 obtain ⟨g0, rfl, hf⟩ := hkid 0 (by simp); have hf' : XAt w S (appX a1 g y) g0 0 := by simpa using hf
 have KF : Hid (Calls Tryz.prog 121 #[.pointer (some ⟨g0, 0, none⟩)] w fun r w' => r = .returned (.bool true) /\ w' = w) := hide (isApplied_calls (appX a1 g y) g0 0 w hf')
 obtain ⟨_, _, A1', c1', _, _, _, _, _, _, _, _, _, d8, _, hkid1⟩ := hf'.open; obtain ⟨g1, rfl, hg⟩ := hkid1 0 (by simp); have hg' : XAt w S g g1 0 := by simpa using hg
 clear h hkid hf hf' hkid1 hg; obtain ⟨kd2, a2, nm2, ex2, gi2, inf2, im2, ls2, xs2⟩ := g; obtain ⟨_, _, _, _, _, _, f0, _, _, _, f5, _⟩ := hg'.open
 simp only [List.length_cons, List.length_nil, Nat.zero_add] at c8 d8 f0 f5
 simp only [Ex.kd, Ex.inf]
 clear hg'
 by_cases hk1 : kd2 = 1
 . subst hk1
   go_enter Tryz.func111, Tryz.ntmps111
   go_wp2_with (go_at_call 121; refine KA.out.mono ?_)
   intro r w1 h1; obtain ⟨rfl, hw1⟩ := h1; have hw1' := hw1.symm; subst hw1'; clear hw1
   go_wp2_with (go_at_call 121; refine KF.out.mono ?_)
   intro r w1 h1; obtain ⟨rfl, hw1⟩ := h1; have hw1' := hw1.symm; subst hw1'; clear hw1
   go_wp2_with fail
   go_ret; exact ⟨rfl, rfl⟩
 . have q1 : ((kd2 : Int) == 1) = false := by simp; omega
   have q2 : (kd2 == 1) = false := by simpa using hk1
   rw [q2]; clear hk1 q2
   go_enter Tryz.func111, Tryz.ntmps111
   go_wp2_with (go_at_call 121; refine KA.out.mono ?_)
   intro r w1 h1; obtain ⟨rfl, hw1⟩ := h1; have hw1' := hw1.symm; subst hw1'; clear hw1
   go_wp2_with (go_at_call 121; refine KF.out.mono ?_)
   intro r w1 h1; obtain ⟨rfl, hw1⟩ := h1; have hw1' := hw1.symm; subst hw1'; clear hw1
   go_wp2_with fail
   go_ret; exact ⟨rfl, rfl⟩
theorem Sp.inf {e : Ex} {t : List ByteArray} (h : Sp e t) : e.inf = false := by cases h <;> rfl
theorem isEquation_calls {S : Nat -> Prop} (e : Ex) (t : List ByteArray) (hs : Sp e t) (b o : Nat) (w : World) (h : XAt w S e b o) : Calls Tryz.prog 111 #[.pointer (some ⟨b, o, none⟩)] w fun r w' => r = .returned (.bool (isEq e)) /\ w' = w := by
 cases hs with
 | app a f x t u hf hx he =>
   rw [he]
   cases hf with
   | app a1 g y t1 u1 hg hy he1 =>
     have := isEquation_two a a1 g y x b o w h; rw [hg.inf, Bool.and_false] at this; exact this
   | eq a1 b1 c1 x1 y1 t1 u1 hx1 hy1 => exact isEquation_two a a1 _ y1 x b o w h
   | _ => exact isEquation_one a _ x b o w h rfl
 | eq a b1 c x y t u hx hy => exact isEquation_two a b1 _ x y b o w h
 | _ => exact isEquation_no _ b o w h rfl
theorem rankOf_calls {S : Nat -> Prop} (e : Ex) (t : List ByteArray) (hs : Sp e t) (b o : Nat) (w : World) (h : XAt w S e b o) : Calls Tryz.prog 92 #[.pointer (some ⟨b, o, none⟩)] w fun r w' => r = .returned (.int .i64 (rkX e : Nat)) /\ w' = w := by
 have KE := hide (isEquation_calls e t hs b o w h); have hq : isEq e = true -> e.kd = 4 := fun h => by unfold isEq at h; simp only [Bool.and_eq_true, beq_iff_eq] at h; exact h.1.1.1
 obtain ⟨kd, a, nm, ex, gi, inf, im, ls, xs⟩ := e; obtain ⟨_, _, _, _, _, _, c0, _⟩ := h.open; have hq : isEq (.node kd a nm ex gi inf im ls xs) = true -> kd = 4 := hq
 have hr : rkX (.node kd a nm ex gi inf im ls xs) = if isEq (.node kd a nm ex gi inf im ls xs) = true then 1 else if kd = 4 then 2 else if kd = 5 \/ kd = 6 \/ kd = 7 then 0 else 3 := rfl
 rw [hr]; clear hr; generalize isEq (.node kd a nm ex gi inf im ls xs) = q at *; clear h hs
 by_cases h4 : kd = 4
 . subst h4
   cases q with
   | true =>
     clear hq
     go_enter Tryz.func92, Tryz.ntmps92
     go_wp2_with (go_at_call 111; refine KE.out.mono ?_)
     go_ret; exact ⟨rfl, rfl⟩
   | false =>
     clear hq
     go_enter Tryz.func92, Tryz.ntmps92
     go_wp2_with (go_at_call 111; refine KE.out.mono ?_)
     intro r w1 h1; obtain ⟨rfl, hw1⟩ := h1; have hw1' := hw1.symm; subst hw1'; clear hw1
     go_wp2_with fail
     go_ret; exact ⟨rfl, rfl⟩
 . have hqf : q = false := by cases q with | false => rfl | true => exact absurd (hq rfl) h4
   subst hqf; have q4 : ((kd : Int) == 4) = false := by simp; omega
   rw [if_neg (by simp), if_neg h4]
   by_cases h5 : kd = 5
   . subst h5
     rw [if_pos (by simp)]; clear hq KE h4 q4
     go_enter Tryz.func92, Tryz.ntmps92
     go_wp2_with fail
     go_ret; exact ⟨rfl, rfl⟩
   . by_cases h6 : kd = 6
     . subst h6
       rw [if_pos (by simp)]; clear hq KE h4 q4 h5
       go_enter Tryz.func92, Tryz.ntmps92
       go_wp2_with fail
       go_ret; exact ⟨rfl, rfl⟩
     . by_cases h7 : kd = 7
       . subst h7
         rw [if_pos (by simp)]; clear hq KE h4 q4 h5 h6
         go_enter Tryz.func92, Tryz.ntmps92
         go_wp2_with fail
         go_ret; exact ⟨rfl, rfl⟩
       . have q5 : ((kd : Int) == 5) = false := by simp; omega
         have q6 : ((kd : Int) == 6) = false := by simp; omega
         have q7 : ((kd : Int) == 7) = false := by simp; omega
         rw [if_neg (by omega)]; clear hq KE h4 h5 h6 h7
         go_enter Tryz.func92, Tryz.ntmps92
         go_wp2_with fail
         go_ret; exact ⟨rfl, rfl⟩
section
variable {n0 pb : Nat} {wb : Wk} {tg : Bool} {l : List UInt8} {st : List Pc} {B : Prop}
theorem start_calls (w : World) (h : PS w n0 pb wb l tg st) : Calls Tryz.prog 112 #[.pointer (some ⟨pb, 0, none⟩)] w fun r w' => ∃ f : Nat, r = .returned (.int .i64 (f : Nat)) /\ f <= 1099511627776 /\ w' = w := by
 obtain ⟨_, c3, c5, cf⟩ := h.cells; have hf := h.few; clear h
 cases tg with
 | true =>
   go_enter Tryz.func112, Tryz.ntmps112
   go_wp2_with fail
   go_ret; exact ⟨l.length, rfl, by omega, rfl⟩
 | false =>
   have hw : IntKind.i64.wrap ((l.length : Int) + 1) = ((l.length + 1 : Nat) : Int) := by rw [show ((l.length : Int) + 1) = ((l.length + 1 : Nat) : Int) by omega, IntKind.wrap_i64]; omega
   have hf1 : l.length + 1 <= 1099511627776 := by omega
   go_enter Tryz.func112, Tryz.ntmps112
   go_wp2_with fail
   go_ret; exact ⟨l.length + 1, rfl, hf1, rfl⟩
end
end Go.Proofs.YtockffblncdikaaGreatDoor
