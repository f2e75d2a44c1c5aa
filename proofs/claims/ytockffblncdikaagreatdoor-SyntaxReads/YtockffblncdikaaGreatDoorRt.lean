/- The contract of repeat. -/
import Derived.Test.YtockffblncdikaaGreatDoorRm
import Derived.Test.YtockffblncdikaaGreatDoorBv
import Derived.Test.YtockffblncdikaaGreatDoorXq
import Derived.Deep.DeepCutAuto
import Derived.Deep.CutBlock
namespace Go.Proofs.YtockffblncdikaaGreatDoor
open Go.RowKit
set_option maxRecDepth 100000
set_option maxHeartbeats 16000000
section
variable {n0 pb : Nat} {wb : Wk} {tg : Bool} {l : List UInt8} {st : List Pc} {B : Prop}
def RepR (B : Prop) (n0 : Nat) (w : World) (pb : Nat) (wb : Wk) (l : List UInt8) (tg : Bool) (st : List Pc) (e : Ex) (b o : Nat) (r : Ending) (w' : World) : Prop :=
 (r = .returned (.bool false) /\ Below n0 w w' /\ ((e.xs.length = 0 /\ PS w' n0 pb wb l tg st) \/ ∃ f, 0 < e.xs.length /\ PS w' n0 pb wb l tg (st ++ [.en e b o f]) /\ st.length + 1 <= 33554432)) \/
 (r = .returned (.bool true) /\ Below n0 w w' /\ ∃ l' tg', 8388608 <= l.length /\ l.length <= l'.length /\ PS w' n0 pb wb l' tg' st) \/ (B /\ Thr n0 w r w')
theorem repeat_none (e : Ex) (b o : Nat) (w : World) (h : PS w n0 pb wb l tg st) (hX : XAt w (fun b => b < n0) e b o) (hx : e.xs.length = 0) : Calls Tryz.prog 93 #[.pointer (some ⟨pb, 0, none⟩), .pointer (some ⟨b, o, none⟩)] w fun r w' => RepR B n0 w pb wb l tg st e b o r w' := by
 have HF : Hid (RepR B n0 w pb wb l tg st e b o (.returned (.bool false)) w) := hide (.inl ⟨rfl, Below.refl _ _, .inl ⟨hx, h⟩⟩); obtain ⟨kd, a, nm, ex, gi, inf, im, ls, xs⟩ := e
 obtain ⟨_, _, A', c', _, _, _, _, _, _, _, _, _, c8, _, _⟩ := hX.open; have hx' : xs.length = 0 := hx; rw [hx'] at c8; clear hX h hx hx'
 go_enter Tryz.func93, Tryz.ntmps93
 go_wp2_with fail
 go_ret; exact HF.out
theorem repeat_some (e : Ex) (b o : Nat) (w : World) (h : PS w n0 pb wb l tg st) (hX : XAt w (fun b => b < n0) e b o) (hx : 0 < e.xs.length) (hst : st.length <= 33554432) (hB : B \/ (wtS st + 1 <= 33554432 /\ l.length < 8388608)) : Calls Tryz.prog 93 #[.pointer (some ⟨pb, 0, none⟩), .pointer (some ⟨b, o, none⟩)] w fun r w' => RepR B n0 w pb wb l tg st e b o r w' := by
 have HP := hide h; obtain ⟨pp, bv, tv, mb, tac, hXX⟩ := h; obtain ⟨_, _, _, _, _, _, _, _, c8, _, cf⟩ := hXX.c; have hlo := hXX.rest.lo; have hlt := hXX.lt; obtain ⟨g0, ⟨n, c', x8, hn⟩, _⟩ := hX.args hx
 have hn0 : ((n : Int) == 0) = false := by simp; omega
 have HSh : Hid (∀ W, Below w.heap.size w W -> Calls Tryz.prog 91 #[.pointer (some ⟨b, o, none⟩)] W fun r w' => ∃ (g : Nat) (k : Int) (nm : ByteArray) (im : Bool), r = .returned (.agg #[.pointer (some ⟨g, 0, none⟩), .int .i64 k, .string nm, .bool im]) /\ Hid (∃ (f t : Nat) (ok : Bool), (∀ W', Below w'.heap.size w' W' -> (Instr.lookup 73 (.map (some mb)) (.agg #[.pointer (some ⟨g, 0, none⟩), .int .i64 k, .string nm, .bool im]) true).run Tryz.prog W' = .ok (.tuple #[.agg #[.int .i64 ((f : Nat) : Int), .int .i64 ((t : Nat) : Int)], .bool ok]) W') /\ (ok = true -> f <= t /\ t <= l.length /\ 8388608 <= l.length)) /\ Below W.heap.size W w') := hide fun W hW => by
  have hx' : XAt W (fun b => b < n0) e b o := hX.keep fun b hb hs => ⟨hs, hW.block b hb⟩
  refine (shapeOf_calls e b o W hx' hx).mono ?_; rintro r w' ⟨g, k, nm, im, he, hK, hb'⟩; have hBw : Below w.heap.size w w' := hW.trans (hb'.mono hW.size)
  have hKw : KeyF w' n0 (.agg #[.pointer (some ⟨g, 0, none⟩), .int .i64 k, .string nm, .bool im]) := hK.keep fun b hb hl => hb'.block b hl
  obtain ⟨f, t, ok, h1, h2⟩ := map_lookup (hXX.later hBw).rest.map hKw; exact ⟨g, k, nm, im, he, ⟨f, t, ok, fun W' hW' => h1 W' hW' (by have := hBw.size; omega), h2⟩, hb'⟩
 have hne : ¬ pb = w.heap.size := by omega
 have G : ∀ W, Below w.heap.size w W -> W.cell? ⟨pb, 8, none⟩ = some (.map (some mb)) := fun W hW => cell_later hW c8
 have HX := hide hX; clear hXX hX
 go_enter Tryz.func93, Tryz.ntmps93
 go_upto_region 3 with fail
 go_cut [5, 6] (fun v5 v6 wx => ∃ (x f t : Nat) (ok : Bool), v5 = .pointer (some ⟨x, 0, none⟩) /\ v6 = .bool ok /\ Hid (w.heap.size <= x /\ Below w.heap.size w wx /\ wx.heap[x]? = some (.cells #[.int .i64 ((f : Nat) : Int), .int .i64 ((t : Nat) : Int)] 152 (0, 0)) /\ (ok = true -> f <= t /\ t <= l.length /\ 8388608 <= l.length)))
 case first =>
  have c8d : w.drew.cell? ⟨pb, 8, none⟩ = some (.map (some mb)) := c8
  go_region_with (go_at_call 91; first
   | (refine (HSh.out _ (Below.refl _ _).drew).mono ?_
      intro r w1 h1; obtain ⟨g, k, nm, im, rfl, HU, hq1⟩ := h1; obtain ⟨f, t, ok, hrun, hft⟩ := HU.out; have hrun1 := hrun w1 (Below.refl _ _)
      have hrun2 := hrun (w1.alloc (.cells #[.int .i64 0, .int .i64 0] 152)) ((Below.refl _ _).alloc (Nat.le_refl _) _)
      have S1 : w1.cell? ⟨pb, 8, none⟩ = some (.map (some mb)) := G _ ((Below.refl _ _).drew.trans hq1)
      have S2 : (w1.alloc (.cells #[.int .i64 0, .int .i64 0] 152)).cell? ⟨pb, 8, none⟩ = some (.map (some mb)) := G _ (((Below.refl _ _).drew.trans hq1).alloc (by have := hq1.size; simpa using this) _)
      have HFt := hide hft; have hz1 : w.heap.size <= w1.heap.size := by have := hq1.size; simpa using this
      have HV : Hid (w.heap.size <= w1.heap.size /\ Below w.heap.size w (w1.alloc (.cells #[.int .i64 ((f : Nat) : Int), .int .i64 ((t : Nat) : Int)] 152)) /\ (w1.alloc (.cells #[.int .i64 ((f : Nat) : Int), .int .i64 ((t : Nat) : Int)] 152)).heap[w1.heap.size]? = some (.cells #[.int .i64 ((f : Nat) : Int), .int .i64 ((t : Nat) : Int)] 152 (0, 0)) /\ (ok = true -> f <= t /\ t <= l.length /\ 8388608 <= l.length)) := hide ⟨hz1, ((Below.refl _ _).drew.trans hq1).alloc hz1 _, heap_alloc_new _ _, hft⟩
      clear hrun hft HU hq1)
   | (refine (HSh.out _ ((Below.refl _ _).drew.alloc (Nat.le_refl _) _)).mono ?_
      intro r w1 h1; obtain ⟨g, k, nm, im, rfl, HU, hq1⟩ := h1; obtain ⟨f, t, ok, hrun, hft⟩ := HU.out; have hrun1 := hrun w1 (Below.refl _ _)
      have hbx := (hq1.block w.heap.size (by simp)).trans (heap_alloc_new w.drew (.cells #[.int .i64 0, .int .i64 0] 152)); have r0 := cell_of hbx 0 rfl; have r1 := cell_of hbx 1 rfl; have rf := frozen_of hbx
      have HQ : Below w.heap.size w w1 := ((Below.refl w.heap.size w).drew.alloc (Nat.le_refl _) _).trans (hq1.mono (by simp)); have S1 : w1.cell? ⟨pb, 8, none⟩ = some (.map (some mb)) := G _ HQ
      have HV : Hid (w.heap.size <= w.heap.size /\ Below w.heap.size w ((w1.setCell ⟨w.heap.size, 0, none⟩ (.int .i64 ((f : Nat) : Int))).setCell ⟨w.heap.size, 1, none⟩ (.int .i64 ((t : Nat) : Int))) /\ ((w1.setCell ⟨w.heap.size, 0, none⟩ (.int .i64 ((f : Nat) : Int))).setCell ⟨w.heap.size, 1, none⟩ (.int .i64 ((t : Nat) : Int))).heap[w.heap.size]? = some (.cells #[.int .i64 ((f : Nat) : Int), .int .i64 ((t : Nat) : Int)] 152 (0, 0)) /\ (ok = true -> f <= t /\ t <= l.length /\ 8388608 <= l.length)) := hide ⟨Nat.le_refl _, (HQ.setCell (p := ⟨w.heap.size, 0, none⟩) (Nat.le_refl _) _).setCell (p := ⟨w.heap.size, 1, none⟩) (Nat.le_refl _) _, heap_setCell_same _ _ 1 _ _ _ (heap_setCell_same _ _ 0 _ _ _ hbx), hft⟩
      clear hrun hft HU hq1 hbx HQ))
  all_goals
   go_wp2_with fail
   go_meet
   case rel => exact ⟨_, f, t, ok, rfl, rfl, HV.out⟩
 case rest =>
  obtain ⟨x, f, t, ok, rfl, rfl, HC⟩ := hcut; obtain ⟨hxl, hBc, hxb, hft⟩ := HC.out; have hPc := HP.out.later hBc; have hXc : XAt wc (fun b => b < n0) e b o := HX.out.keep fun b hb hs => ⟨hs, hBc.block b hb⟩
  have HBc : Hid (Below n0 w wc) := hide (hBc.mono (by omega)); have hstl := wtS_len st
  cases ok with
  | false =>
    have KS := hide (start_calls wc hPc); have HPc := hide hPc; have HXc := hide hXc; clear hPc hXc hBc hxb hft HC HSh G
    go_wp2_with (go_at_call 112; refine KS.out.mono ?_)
    intro r w2 h2; obtain ⟨f2, rfl, hf2, hw2⟩ := h2; have hw2' := hw2.symm; subst hw2'; clear hw2
    have KN := hide (next_calls (B := B) [Pc.en e b o f2] (some ⟨wc.heap.size, 0, none⟩) 1 wc (wc.alloc (.cells #[.string ⟨#[]⟩, .pointer (some ⟨b, o, none⟩), .pointer none, .int .i64 0, .bool true, .int .i64 (f2 : Nat)] 106)) HPc.out ((Below.refl _ _).alloc (Nat.le_refl _) _) (PsIn.made wc wc.heap.size (Nat.le_refl _) [Pc.en e b o f2] _ rfl 106) (fun q hq => by rw [List.mem_singleton.1 hq]; exact ⟨HXc.out, hx, hf2⟩) (by simp; omega) (hB.imp id fun y => by simp; omega))
    go_wp2_with (go_at_call 74; refine KN.out.mono ?_)
    intro r w9 h9
    rcases h9 with ⟨rfl, hP9, hB9, hn9⟩ | ⟨hb9, hth⟩
    . have HF : Hid (RepR B n0 w pb wb l tg st e b o (.returned (.bool false)) w9) := hide (.inl ⟨rfl, (HBc.out.alloc (by have := HPc.out.lt; omega) _).trans hB9, .inr ⟨f2, hx, hP9, hn9⟩⟩)
      clear hP9 hB9 hn9 KN KS
      go_wp2_with fail
      go_ret; exact HF.out
    . have HF : Hid (RepR B n0 w pb wb l tg st e b o r w9) := hide (.inr (.inr ⟨hb9, hth.from (HBc.out.alloc (by have := HPc.out.lt; omega) _)⟩))
      obtain ⟨-, fb, rfl⟩ := hth; clear KN KS
      go_wp2_with fail
      exact ⟨rfl, HF.out⟩
  | true =>
    obtain ⟨hf1, hf2, hlong⟩ := hft rfl; have hb : B := hB.resolve_right (fun y => by omega); have hxp : x ≠ pb := by omega
    obtain ⟨_, _, c5, cff⟩ := hPc.cells
    cases tg with
    | true =>
      obtain ⟨w2, hw2⟩ : ∃ w2, w2 = wc := ⟨_, rfl⟩; subst hw2; have HP2 := hide hPc; have HB2 : Hid (Below n0 w w2) := HBc; have hxb2 := hxb; have hPcc := c5; clear hPc hXc hBc hft HC HSh G
      obtain ⟨pp2, bv2, tv2, mb2, tac2, hX2⟩ := HP2.out; have hl2 : l.length <= (l).length := by simp
      have KU := hide (use_calls (B := B) (t - f) (by have := hX2.few; omega) w2 hX2 (.inl hb)); have y0 := cell_of hxb2 0 rfl; have y1 := cell_of hxb2 1 rfl
      have hwd : IntKind.i64.wrap (((t : Nat) : Int) - ((f : Nat) : Int)) = ((t - f : Nat) : Int) := by have := hX2.few; rw [show ((t : Nat) : Int) - ((f : Nat) : Int) = ((t - f : Nat) : Int) by omega, IntKind.wrap_i64]; omega
      have HFt : Hid (f <= t /\ t <= (l).length) := hide ⟨hf1, by omega⟩; clear hX2
      go_wp2_with (go_at_call 80; refine KU.out.mono ?_)
      intro r w3 h3
      rcases h3 with ⟨rfl, hX3, hb3, ho3⟩ | ⟨hb9, hth⟩
      rotate_left
      . have HF : Hid (RepR B n0 w pb wb l true st e b o r w3) := hide (.inr (.inr ⟨hb9, hth.from HB2.out⟩))
        obtain ⟨-, fb, rfl⟩ := hth
        go_wp2_with fail
        exact ⟨rfl, HF.out⟩
      have hxb3 := (ho3 x _ _ _ hxb2 hxp (by decide)).trans hxb2; obtain ⟨_, _, d2, _, _, d5, _, _, _, _, df⟩ := hX3.c; have HB3 := hide (HB2.out.trans hb3); have HX3 := hide hX3; have HL2 := hide hl2
      obtain ⟨wb, kk, ko⟩ := wb
      cases wb with
      | false =>
        replace d2 : w3.cell? ⟨pb, 2, none⟩ = some (.bool false) := d2
        have HF : Hid (RepR B n0 w pb ⟨false, kk, ko⟩ l true st e b o (.returned (.bool true)) (w3.setCell ⟨pb, 5, none⟩ (.bool false))) := hide (by
         have h4 := HX3.out; have hln : (l ++ List.replicate (t - f) (0 : UInt8)).length = (l).length + (t - f) := by rw [List.length_append, List.length_replicate]
         have h5 : PX w3 n0 pb ⟨false, kk, ko⟩ (l ++ List.replicate (t - f) (0 : UInt8)).length (l ++ List.replicate (t - f) (0 : UInt8)) true st pp2 bv2 tv2 mb2 tac2 := by
          rw [hln]; exact ⟨h4.blk, h4.few, h4.rest.lo, h4.rest.stk, h4.rest.ok, h4.rest.map, (fun e => nomatch (show false = true from e)), h4.rest.tac⟩
         exact .inr (.inl ⟨rfl, HB3.out.setCell (p := ⟨pb, 5, none⟩) hlo _, _, false, hlong, by rw [hln]; have := HL2.out; omega, ⟨_, _, _, _, _, h5.setTg false⟩⟩))
        clear KU hX3 hb3 ho3 hl2
        go_wp2_with fail
        go_ret; exact HF.out
      | true =>
        replace d2 : w3.cell? ⟨pb, 2, none⟩ = some (.bool true) := d2
        have KSt : Hid (∀ W, Below w3.heap.size w3 W -> Calls Tryz.prog 23 #[.pointer (some ⟨pb, 0, none⟩)] W fun r w' => r = .returned (.string ⟨(l).toArray⟩) /\ Hid (PX w' n0 pb ⟨true, kk, ko⟩ ((l).length + (t - f)) (l) true st pp2 bv2 tv2 mb2 tac2 /\ Below n0 w w' /\ Oth pb W w')) := hide fun W hW => by
         have hz := hW.size; have hn3 : n0 <= w3.heap.size := by have := HX3.out.lt; omega
         exact (bString_calls W (HX3.out.later hW)).mono fun r w' ⟨h1, h2, h3, h4⟩ => ⟨h1, h2, (HB3.out.trans (hW.mono hn3)).trans h3, h4⟩
        have KWr : Hid (∀ (s2 : ByteArray) (W : World), s2.size = t - f -> PX W n0 pb ⟨true, kk, ko⟩ ((l).length + (t - f)) (l) true st pp2 bv2 tv2 mb2 tac2 -> Calls Tryz.prog 81 #[.pointer (some ⟨pb, 0, none⟩), .string s2] W fun r w' => r = .returned (.tuple #[.int .i64 s2.size, .nilIface]) /\ Hid ((∃ l5, (l).length <= l5.length /\ PS w' n0 pb ⟨true, kk, ko⟩ l5 true st) /\ Below n0 W w' /\ Oth pb W w')) := hide fun s2 W hs2 hW => by
         have hfw := hW.few; refine (writeString_calls s2 W hW (by omega) (by omega)).mono ?_; rintro r w' ⟨pp5, bv5, he, h1, h2, h3⟩
         have hln : ((l) ++ s2.data.toList).length = (l).length + (t - f) := by rw [List.length_append, Array.length_toList]; show _ + s2.size = _; rw [hs2]
         exact ⟨he, ⟨_, by rw [hln]; omega, pp5, bv5, tv2, mb2, tac2, by rw [hln]; exact h1⟩, h2, h3⟩
        have G3 : ∀ W, Below w3.heap.size w3 W -> W.cell? ⟨x, 0, none⟩ = some (.int .i64 ((f : Nat) : Int)) /\ W.cell? ⟨x, 1, none⟩ = some (.int .i64 ((t : Nat) : Int)) := fun W hW => ⟨cell_later hW (cell_of hxb3 0 rfl), cell_later hW (cell_of hxb3 1 rfl)⟩
        have HXb := hide hxb3; have hq1 : f <= t := hf1; have hq2 : t <= (l).length := HFt.out.2; have hq3 : (f : Int) <= (t : Int) := by omega
        have hq4 : (t : Int) <= (l.length : Int) := by have h := hq2; first | (simp at h; omega) | omega
        clear KU hX3 hb3 ho3 hl2
        go_wp2_with fail
        go_region_held3 (fun w' => w'.cell? ⟨x, 0, none⟩ = some (.int .i64 ((f : Nat) : Int)) /\ w'.cell? ⟨x, 1, none⟩ = some (.int .i64 ((t : Nat) : Int))) (first | assumption | exact G3 _ (Below.refl _ _).drew) (first
         | (go_at_call 23
            refine (KSt.out _ (Below.refl _ _).drew).mono ?_; rintro r w4 ⟨rfl, H4⟩; have hx4 := (H4.out.2.2 x _ _ _ HXb.out hxp (by decide)).trans HXb.out
            have S4 : w4.cell? ⟨x, 0, none⟩ = some (.int .i64 ((f : Nat) : Int)) /\ w4.cell? ⟨x, 1, none⟩ = some (.int .i64 ((t : Nat) : Int)) := ⟨cell_of hx4 0 rfl, cell_of hx4 1 rfl⟩; have HX4 := hide hx4
            clear hx4)
         | (go_at_call 81
            refine (KWr.out _ w4 ?_ H4.out.1).mono ?_
            . have h := hq2
              simp [ByteArray.size] at h ⊢
              omega
            rintro r w5 ⟨rfl, H5⟩; have hx5 := (H5.out.2.2 x _ _ _ HX4.out hxp (by decide)).trans HX4.out
            have S5 : w5.cell? ⟨x, 0, none⟩ = some (.int .i64 ((f : Nat) : Int)) /\ w5.cell? ⟨x, 1, none⟩ = some (.int .i64 ((t : Nat) : Int)) := ⟨cell_of hx5 0 rfl, cell_of hx5 1 rfl⟩; clear hx5))
        all_goals
         obtain ⟨l5, hl5, hP5⟩ := H5.out.1; obtain ⟨_, _, e5, ef⟩ := hP5.cells
         have HF : Hid (RepR B n0 w pb ⟨true, kk, ko⟩ l true st e b o (.returned (.bool true)) (w5.setCell ⟨pb, 5, none⟩ (.bool false))) := hide (.inr (.inl ⟨rfl, (H4.out.2.1.trans H5.out.2.1).setCell (p := ⟨pb, 5, none⟩) hlo _, l5, false, hlong, by have := HL2.out; omega, hP5.setTg false⟩))
         clear hP5 H5 H4 KSt KWr G3
         go_wp2_with fail
         go_ret; exact HF.out
    | false =>
      have KP := hide (put_calls2 (B := B) (⟨#[32]⟩ : ByteArray) (by decide) wc hPc (.inl hb)); clear hPc hXc hBc hft HC HSh G
      go_wp2_with (go_at_call 57; refine KP.out.mono ?_)
      intro r w2 h2
      rcases h2 with ⟨rfl, hP2, hb2, ho2⟩ | ⟨hb9, hth⟩
      rotate_left
      . have HF : Hid (RepR B n0 w pb wb l false st e b o r w2) := hide (.inr (.inr ⟨hb9, hth.from HBc.out⟩))
        obtain ⟨-, fb, rfl⟩ := hth
        go_wp2_with fail
        exact ⟨rfl, HF.out⟩
      have HP2 : Hid (PS w2 n0 pb wb (l ++ [32]) false st) := hide hP2; have HB2 : Hid (Below n0 w w2) := hide (HBc.out.trans hb2); have hxb2 := (ho2 x _ _ _ hxb hxp (by decide)).trans hxb
      clear hP2 hb2 ho2 KP c5 cff; obtain ⟨pp2, bv2, tv2, mb2, tac2, hX2⟩ := HP2.out; have hl2 : l.length <= (l ++ [32]).length := by simp
      have KU := hide (use_calls (B := B) (t - f) (by have := hX2.few; omega) w2 hX2 (.inl hb)); have y0 := cell_of hxb2 0 rfl; have y1 := cell_of hxb2 1 rfl
      have hwd : IntKind.i64.wrap (((t : Nat) : Int) - ((f : Nat) : Int)) = ((t - f : Nat) : Int) := by have := hX2.few; rw [show ((t : Nat) : Int) - ((f : Nat) : Int) = ((t - f : Nat) : Int) by omega, IntKind.wrap_i64]; omega
      have HFt : Hid (f <= t /\ t <= (l ++ [32]).length) := hide ⟨hf1, by omega⟩; clear hX2
      go_wp2_with (go_at_call 80; refine KU.out.mono ?_)
      intro r w3 h3
      rcases h3 with ⟨rfl, hX3, hb3, ho3⟩ | ⟨hb9, hth⟩
      rotate_left
      . have HF : Hid (RepR B n0 w pb wb l false st e b o r w3) := hide (.inr (.inr ⟨hb9, hth.from HB2.out⟩))
        obtain ⟨-, fb, rfl⟩ := hth
        go_wp2_with fail
        exact ⟨rfl, HF.out⟩
      have hxb3 := (ho3 x _ _ _ hxb2 hxp (by decide)).trans hxb2; obtain ⟨_, _, d2, _, _, d5, _, _, _, _, df⟩ := hX3.c; have HB3 := hide (HB2.out.trans hb3); have HX3 := hide hX3; have HL2 := hide hl2
      obtain ⟨wb, kk, ko⟩ := wb
      cases wb with
      | false =>
        replace d2 : w3.cell? ⟨pb, 2, none⟩ = some (.bool false) := d2
        have HF : Hid (RepR B n0 w pb ⟨false, kk, ko⟩ l false st e b o (.returned (.bool true)) (w3.setCell ⟨pb, 5, none⟩ (.bool false))) := hide (by
         have h4 := HX3.out; have hln : (l ++ [32] ++ List.replicate (t - f) (0 : UInt8)).length = (l ++ [32]).length + (t - f) := by rw [List.length_append, List.length_replicate]
         have h5 : PX w3 n0 pb ⟨false, kk, ko⟩ (l ++ [32] ++ List.replicate (t - f) (0 : UInt8)).length (l ++ [32] ++ List.replicate (t - f) (0 : UInt8)) false st pp2 bv2 tv2 mb2 tac2 := by
          rw [hln]; exact ⟨h4.blk, h4.few, h4.rest.lo, h4.rest.stk, h4.rest.ok, h4.rest.map, (fun e => nomatch (show false = true from e)), h4.rest.tac⟩
         exact .inr (.inl ⟨rfl, HB3.out.setCell (p := ⟨pb, 5, none⟩) hlo _, _, false, hlong, by rw [hln]; have := HL2.out; omega, ⟨_, _, _, _, _, h5.setTg false⟩⟩))
        clear KU hX3 hb3 ho3 hl2
        go_wp2_with fail
        go_ret; exact HF.out
      | true =>
        replace d2 : w3.cell? ⟨pb, 2, none⟩ = some (.bool true) := d2
        have KSt : Hid (∀ W, Below w3.heap.size w3 W -> Calls Tryz.prog 23 #[.pointer (some ⟨pb, 0, none⟩)] W fun r w' => r = .returned (.string ⟨(l ++ [32]).toArray⟩) /\ Hid (PX w' n0 pb ⟨true, kk, ko⟩ ((l ++ [32]).length + (t - f)) (l ++ [32]) false st pp2 bv2 tv2 mb2 tac2 /\ Below n0 w w' /\ Oth pb W w')) := hide fun W hW => by
         have hz := hW.size; have hn3 : n0 <= w3.heap.size := by have := HX3.out.lt; omega
         exact (bString_calls W (HX3.out.later hW)).mono fun r w' ⟨h1, h2, h3, h4⟩ => ⟨h1, h2, (HB3.out.trans (hW.mono hn3)).trans h3, h4⟩
        have KWr : Hid (∀ (s2 : ByteArray) (W : World), s2.size = t - f -> PX W n0 pb ⟨true, kk, ko⟩ ((l ++ [32]).length + (t - f)) (l ++ [32]) false st pp2 bv2 tv2 mb2 tac2 -> Calls Tryz.prog 81 #[.pointer (some ⟨pb, 0, none⟩), .string s2] W fun r w' => r = .returned (.tuple #[.int .i64 s2.size, .nilIface]) /\ Hid ((∃ l5, (l ++ [32]).length <= l5.length /\ PS w' n0 pb ⟨true, kk, ko⟩ l5 false st) /\ Below n0 W w' /\ Oth pb W w')) := hide fun s2 W hs2 hW => by
         have hfw := hW.few; refine (writeString_calls s2 W hW (by omega) (by omega)).mono ?_; rintro r w' ⟨pp5, bv5, he, h1, h2, h3⟩
         have hln : ((l ++ [32]) ++ s2.data.toList).length = (l ++ [32]).length + (t - f) := by rw [List.length_append, Array.length_toList]; show _ + s2.size = _; rw [hs2]
         exact ⟨he, ⟨_, by rw [hln]; omega, pp5, bv5, tv2, mb2, tac2, by rw [hln]; exact h1⟩, h2, h3⟩
        have G3 : ∀ W, Below w3.heap.size w3 W -> W.cell? ⟨x, 0, none⟩ = some (.int .i64 ((f : Nat) : Int)) /\ W.cell? ⟨x, 1, none⟩ = some (.int .i64 ((t : Nat) : Int)) := fun W hW => ⟨cell_later hW (cell_of hxb3 0 rfl), cell_later hW (cell_of hxb3 1 rfl)⟩
        have HXb := hide hxb3; have hq1 : f <= t := hf1; have hq2 : t <= (l ++ [32]).length := HFt.out.2; have hq3 : (f : Int) <= (t : Int) := by omega
        have hq4 : (t : Int) <= (l.length : Int) + 1 := by have h := hq2; first | (simp at h; omega) | omega
        clear KU hX3 hb3 ho3 hl2
        go_wp2_with fail
        go_region_held3 (fun w' => w'.cell? ⟨x, 0, none⟩ = some (.int .i64 ((f : Nat) : Int)) /\ w'.cell? ⟨x, 1, none⟩ = some (.int .i64 ((t : Nat) : Int))) (first | assumption | exact G3 _ (Below.refl _ _).drew) (first
         | (go_at_call 23
            refine (KSt.out _ (Below.refl _ _).drew).mono ?_; rintro r w4 ⟨rfl, H4⟩; have hx4 := (H4.out.2.2 x _ _ _ HXb.out hxp (by decide)).trans HXb.out
            have S4 : w4.cell? ⟨x, 0, none⟩ = some (.int .i64 ((f : Nat) : Int)) /\ w4.cell? ⟨x, 1, none⟩ = some (.int .i64 ((t : Nat) : Int)) := ⟨cell_of hx4 0 rfl, cell_of hx4 1 rfl⟩; have HX4 := hide hx4
            clear hx4)
         | (go_at_call 81
            refine (KWr.out _ w4 ?_ H4.out.1).mono ?_
            . have h := hq2
              simp [ByteArray.size] at h ⊢
              omega
            rintro r w5 ⟨rfl, H5⟩; have hx5 := (H5.out.2.2 x _ _ _ HX4.out hxp (by decide)).trans HX4.out
            have S5 : w5.cell? ⟨x, 0, none⟩ = some (.int .i64 ((f : Nat) : Int)) /\ w5.cell? ⟨x, 1, none⟩ = some (.int .i64 ((t : Nat) : Int)) := ⟨cell_of hx5 0 rfl, cell_of hx5 1 rfl⟩; clear hx5))
        all_goals
         obtain ⟨l5, hl5, hP5⟩ := H5.out.1; obtain ⟨_, _, e5, ef⟩ := hP5.cells
         have HF : Hid (RepR B n0 w pb ⟨true, kk, ko⟩ l false st e b o (.returned (.bool true)) (w5.setCell ⟨pb, 5, none⟩ (.bool false))) := hide (.inr (.inl ⟨rfl, (H4.out.2.1.trans H5.out.2.1).setCell (p := ⟨pb, 5, none⟩) hlo _, l5, false, hlong, by have := HL2.out; omega, hP5.setTg false⟩))
         clear hP5 H5 H4 KSt KWr G3
         go_wp2_with fail
         go_ret; exact HF.out
end
end Go.Proofs.YtockffblncdikaaGreatDoor
