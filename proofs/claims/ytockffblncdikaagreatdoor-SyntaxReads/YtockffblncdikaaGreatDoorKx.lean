/- The contract of expr. -/
import Derived.Test.YtockffblncdikaaGreatDoorKe
namespace Go.Proofs.YtockffblncdikaaGreatDoor
open Go.RowKit
set_option maxRecDepth 100000
set_option maxHeartbeats 16000000
section
variable {n0 pb : Nat} {wb : Wk} {tg : Bool} {l : List UInt8} {st : List Pc} {B : Prop}
theorem expr_brk (e : Ex) (t : List ByteArray) (hs : Sp e t) (b o k : Nat) (hrk : rkX e < k) (hF : ExFit 1000000 e) (w : World) (hP : PS w n0 pb wb l tg st) (hX : XAt w (fun b => b < n0) e b o) (hst : st.length <= 33554432) (hB : B \/ wtS st + (xw e + 3 * k) <= 33554432) :
 Calls Tryz.prog 76 #[.pointer (some ⟨pb, 0, none⟩), .pointer (some ⟨b, o, none⟩), .int .i64 (k : Nat)] w fun r w' => StepR B n0 w pb wb l tg st (.ex e t b o k) r w' := by
 have KR : Hid (Calls Tryz.prog 92 #[.pointer (some ⟨b, o, none⟩)] w fun r w' => r = .returned (.int .i64 (rkX e : Nat)) /\ w' = w) := hide (rankOf_calls e t hs b o w hX)
 have hlt : ((rkX e : Int) < (k : Int)) = True := by simp; omega
 have HP := hide hP; have HB := hide hB; have HO : Hid ((Pc.ex e t b o 0).Ok w n0) := hide ⟨hX, hs, by omega, hF⟩
 have HT : Hid ([Pc.tok sOpen, Pc.ex e t b o 0, Pc.tok sShut].flatMap Pc.toks = (Pc.ex e t b o k).toks) := hide (by
  show sOpen :: (brk (decide (rkX e < 0)) t ++ (sShut :: [])) = brk (decide (rkX e < k)) t; rw [decide_eq_false (by omega), decide_eq_true hrk]
  rfl)
 have HW : Hid (wtS [Pc.tok sOpen, Pc.ex e t b o 0, Pc.tok sShut] < (Pc.ex e t b o k).wt) := hide (by
  show 1 + ((xw e + 3 * 0) + (1 + 0)) < xw e + 3 * k; omega)
 have KO : Hid (∀ W, Calls Tryz.prog 50 #[.string sOpen] W fun e w' => e = .returned (.agg #[.string sOpen, .pointer none, .pointer none, .int .i64 0, .bool false, .int .i64 0]) /\ Below W.heap.size W w') := hide fun W => word_calls sOpen W
 have KS : Hid (∀ W, Calls Tryz.prog 50 #[.string sShut] W fun e w' => e = .returned (.agg #[.string sShut, .pointer none, .pointer none, .int .i64 0, .bool false, .int .i64 0]) /\ Below W.heap.size W w') := hide fun W => word_calls sShut W
 have KE : Hid (∀ W, Calls Tryz.prog 54 #[.pointer (some ⟨b, o, none⟩), .int .i64 0] W fun e' w' => e' = .returned (.agg #[.string ⟨#[]⟩, .pointer (some ⟨b, o, none⟩), .pointer none, .int .i64 0, .bool false, .int .i64 0]) /\ Below W.heap.size W w') := hide fun W => exprIn_calls e t b o 0 W
 generalize rkX e = rk at *; clear hP hX hB hs hrk hF
 go_enter Tryz.func76, Tryz.ntmps76
 go_wp2_with (go_at_call 92; refine KR.out.mono ?_)
 intro r w1 h1; obtain ⟨rfl, hw1⟩ := h1; have hw1' := hw1.symm; subst hw1'; clear hw1 KR
 go_wp2_with (go_at_call 50; refine (KO.out w).mono ?_)
 rintro r w2 ⟨rfl, hq2⟩
 go_wp2_with (go_at_call 54; refine (KE.out w2).mono ?_)
 rintro r w3 ⟨rfl, hq3⟩
 go_wp2_with (go_at_call 50; refine (KS.out w3).mono ?_)
 rintro r w4 ⟨rfl, hq4⟩; have hb4 : Below w.heap.size w w4 := (hq2.trans (hq3.mono hq2.size)).trans (hq4.mono (Nat.le_trans hq2.size hq3.size))
 have KN := hide (next_step (B := B) (c := 3) (Pc.ex e t b o k) [Pc.tok sOpen, Pc.ex e t b o 0, Pc.tok sShut] _ rfl HT.out HW.out (oks_cons (show sOpen.size <= 100 by decide) (oks_cons HO.out (oks_cons (show sShut.size <= 100 by decide) oks_nil))) (by simp) HP.out hb4 hst HB.out)
 clear hb4 hq2 hq3 hq4 KO KS KE
 go_wp2_with (go_at_call 74; refine KN.out.mono ?_)
 intro r w9 h9; have HF := hide h9
 rcases StepR.form h9 with rfl | ⟨fb, rfl⟩
 . clear h9 KN
   go_wp2_with fail
   go_end0; exact HF.out
 . clear h9 KN
   go_wp2_with fail
   exact ⟨rfl, HF.out⟩
theorem expr_hole (a : Nat) (b o k : Nat) (hk : k <= 3) (w : World) (hP : PS w n0 pb wb l tg st) (hX : XAt w (fun b => b < n0) (.node 3 a ⟨#[]⟩ false false false false [] []) b o) (_ : ExFit 1000000 (.node 3 a ⟨#[]⟩ false false false false [] [])) (hrk : k <= rkX (.node 3 a ⟨#[]⟩ false false false false [] [])) (hst : st.length <= 33554432) (hB : B \/ (wtS st + (xw (.node 3 a ⟨#[]⟩ false false false false [] []) + 3 * k) <= 33554432 /\ l.length < 8388608)) :
 Calls Tryz.prog 76 #[.pointer (some ⟨pb, 0, none⟩), .pointer (some ⟨b, o, none⟩), .int .i64 (k : Nat)] w fun r w' => StepR B n0 w pb wb l tg st (.ex (.node 3 a ⟨#[]⟩ false false false false [] []) [sHole] b o k) r w' := by
 have hs : Sp (.node 3 a ⟨#[]⟩ false false false false [] []) [sHole] := .hole a
 have KR : Hid (Calls Tryz.prog 92 #[.pointer (some ⟨b, o, none⟩)] w fun r w' => r = .returned (.int .i64 (rkX (.node 3 a ⟨#[]⟩ false false false false [] []) : Nat)) /\ w' = w) := hide (rankOf_calls (.node 3 a ⟨#[]⟩ false false false false [] []) _ hs b o w hX)
 have KP := hide (rep_calls (.node 3 a ⟨#[]⟩ false false false false [] []) [sHole] b o k w hP hX hst hB)
 have HK : Hid (inK (.node 3 a ⟨#[]⟩ false false false false [] []) k [sHole] = [sHole]) := hide (by show brk (decide (rkX (.node 3 a ⟨#[]⟩ false false false false [] []) < k)) _ = _; rw [decide_eq_false (by omega)]; rfl)
 obtain ⟨hbn, hc0⟩ := hX.kind; obtain ⟨_, _, _, _, _, _, _, hnm, _⟩ := hX.open
 have HXo : Hid (∀ W, Below n0 w W -> W.cell? ⟨b, o, none⟩ = some (.int .i64 3) /\ W.cell? ⟨b, o + 2, none⟩ = some (.string ⟨#[]⟩)) := hide fun W hW => ⟨(World.cell?_of_block (a := ⟨b, o, none⟩) (hW.block b hbn)).trans hc0, (World.cell?_of_block (a := ⟨b, o + 2, none⟩) (hW.block b hbn)).trans hnm⟩
 have HB : Hid (∀ st0, wtS st0 <= 1 -> B \/ wtS (st ++ st0) + (xw (.node 3 a ⟨#[]⟩ false false false false [] []) - 1) <= 33554432) := hide fun st0 h0 => hB.imp id fun ⟨h1, _⟩ => by
  have hx0 : 24 <= xw (.node 3 a ⟨#[]⟩ false false false false [] []) := by rw [xw_node]; omega
  rw [wtS_append]; omega
 have hlt : ((rkX (.node 3 a ⟨#[]⟩ false false false false [] []) : Int) < (k : Int)) = False := by simp; omega
 have HW : Hid (wtS [Pc.tok sHole] < xw (.node 3 a ⟨#[]⟩ false false false false [] []) - 1) := hide (by
  show 1 + 0 < _; rw [xw_node]
  simp only [List.map_nil, List.sum_nil]
  omega)
 have KW := kw_word; have HT : Hid ([Pc.tok sHole].flatMap Pc.toks = [sHole]) := hide (rfl); clear hP hX hB hs hrk hc0 hnm; generalize ((.node 3 a ⟨#[]⟩ false false false false [] []) : Ex) = e at *
 generalize ([sHole] : List ByteArray) = t0 at *; generalize rkX e = rk at *
 go_enter Tryz.func76, Tryz.ntmps76
 go_wp2_with (go_at_call 92; refine KR.out.mono ?_)
 intro r w1 h1; obtain ⟨rfl, hw1⟩ := h1; have hw1' := hw1.symm; subst hw1'; clear hw1 KR
 go_wp2_with (go_at_call 93; refine KP.out.mono ?_)
 intro r w2 h2; clear KP
 rcases h2 with ⟨rfl, st0, H0⟩ | ⟨rfl, HF⟩ | ⟨⟨fb, rfl⟩, HF⟩
 rotate_left
 . go_wp2_with fail
   go_end0; exact HF.out
 . go_wp2_with fail
   exact ⟨rfl, HF.out⟩
 obtain ⟨hc, hn⟩ := HXo.out w2 H0.out.2.1; have hb0 : Below w2.heap.size w2 w2 := Below.refl _ _
 go_wp2_with (go_at_call 50; refine (KW.out sHole w2).mono ?_)
 rintro r v0 ⟨rfl, hq⟩; have hb1 : Below w2.heap.size w2 v0 := hb0.trans (hq.mono hb0.size); clear hq
 have KN := hide (next_stepG (B := B) (c := 1) t0 (xw e - 1) [Pc.tok sHole] _ rfl HT.out HW.out (oks_cons (show sHole.size <= 100 by decide) oks_nil) (by simp) H0.out.1 hb1 H0.out.2.2.1 (HB.out st0 H0.out.2.2.2.1))
 clear hb0 hb1
 go_wp2_with (go_at_call 74; refine KN.out.mono ?_)
 intro r w9 h9; have HF : Hid (StepR B n0 w pb wb l tg st (.ex e t0 b o k) r w9) := hide (h9.outer H0.out.2.1 H0.out.2.2.2.1 H0.out.2.2.2.2 HK.out)
 rcases h9.form with rfl | ⟨fb, rfl⟩
 . clear h9 KN
   go_wp2_with fail
   go_end0; exact HF.out
 . clear h9 KN
   go_wp2_with fail
   exact ⟨rfl, HF.out⟩
theorem expr_is (a : Nat) (e1 x1 : Ex) (t u : List ByteArray) (ht : Sp e1 t) (hu : Sp x1 u) (b o k : Nat) (hk : k <= 3) (w : World) (hP : PS w n0 pb wb l tg st) (hX : XAt w (fun b => b < n0) (.node 8 a ⟨#[]⟩ false false false false [] [e1, x1]) b o) (hF : ExFit 1000000 (.node 8 a ⟨#[]⟩ false false false false [] [e1, x1])) (hrk : k <= rkX (.node 8 a ⟨#[]⟩ false false false false [] [e1, x1])) (hst : st.length <= 33554432) (hB : B \/ (wtS st + (xw (.node 8 a ⟨#[]⟩ false false false false [] [e1, x1]) + 3 * k) <= 33554432 /\ l.length < 8388608)) :
 Calls Tryz.prog 76 #[.pointer (some ⟨pb, 0, none⟩), .pointer (some ⟨b, o, none⟩), .int .i64 (k : Nat)] w fun r w' => StepR B n0 w pb wb l tg st (.ex (.node 8 a ⟨#[]⟩ false false false false [] [e1, x1]) (sOpen :: ((t ++ sColon :: u) ++ [sShut])) b o k) r w' := by
 have hs : Sp (.node 8 a ⟨#[]⟩ false false false false [] [e1, x1]) (sOpen :: ((t ++ sColon :: u) ++ [sShut])) := .is a e1 x1 t u ht hu
 have KR : Hid (Calls Tryz.prog 92 #[.pointer (some ⟨b, o, none⟩)] w fun r w' => r = .returned (.int .i64 (rkX (.node 8 a ⟨#[]⟩ false false false false [] [e1, x1]) : Nat)) /\ w' = w) := hide (rankOf_calls (.node 8 a ⟨#[]⟩ false false false false [] [e1, x1]) _ hs b o w hX)
 have KP := hide (rep_calls (.node 8 a ⟨#[]⟩ false false false false [] [e1, x1]) (sOpen :: ((t ++ sColon :: u) ++ [sShut])) b o k w hP hX hst hB)
 have HK : Hid (inK (.node 8 a ⟨#[]⟩ false false false false [] [e1, x1]) k (sOpen :: ((t ++ sColon :: u) ++ [sShut])) = (sOpen :: ((t ++ sColon :: u) ++ [sShut]))) := hide (by show brk (decide (rkX (.node 8 a ⟨#[]⟩ false false false false [] [e1, x1]) < k)) _ = _; rw [decide_eq_false (by omega)]; rfl)
 obtain ⟨hbn, hc0⟩ := hX.kind; obtain ⟨g, ⟨n8, c80, c8, _⟩, _⟩ := hX.args (by simp [Ex.xs]); have HO0 : Hid ((Pc.ex e1 t g 0 0).Ok w n0) := hide (by simpa using kidOk hX hF (i := 0) (by simp) ht (by omega) ⟨_, _, c8⟩)
 have HO1 : Hid ((Pc.ex x1 u g 9 0).Ok w n0) := hide (by simpa using kidOk hX hF (i := 1) (by simp) hu (by omega) ⟨_, _, c8⟩)
 have KP0 : Hid (∀ (W : World), Below n0 w W -> Calls Tryz.prog 99 #[.pointer (some ⟨b, o, none⟩), .int .i64 0, .int .i64 0] W fun e' w' => e' = .returned (.agg #[.string ⟨#[]⟩, .pointer (some ⟨g, 0, none⟩), .pointer none, .int .i64 0, .bool false, .int .i64 0]) /\ Below W.heap.size W w') := hide fun W hW => part_at (.node 8 a ⟨#[]⟩ false false false false [] [e1, x1]) b o 0 0 g W (hX.keep fun b hb hs => ⟨hs, hW.block b hs⟩) (by simp [Ex.xs]) ⟨_, _, (World.cell?_of_block (a := ⟨b, o + 8, none⟩) (hW.block b hbn)).trans c8⟩
 have KP1 : Hid (∀ (W : World), Below n0 w W -> Calls Tryz.prog 99 #[.pointer (some ⟨b, o, none⟩), .int .i64 1, .int .i64 0] W fun e' w' => e' = .returned (.agg #[.string ⟨#[]⟩, .pointer (some ⟨g, 9, none⟩), .pointer none, .int .i64 0, .bool false, .int .i64 0]) /\ Below W.heap.size W w') := hide fun W hW => part_at (.node 8 a ⟨#[]⟩ false false false false [] [e1, x1]) b o 1 0 g W (hX.keep fun b hb hs => ⟨hs, hW.block b hs⟩) (by simp [Ex.xs]) ⟨_, _, (World.cell?_of_block (a := ⟨b, o + 8, none⟩) (hW.block b hbn)).trans c8⟩
 obtain ⟨_, _, _, _, _, _, _, hnm, _⟩ := hX.open
 have HXo : Hid (∀ W, Below n0 w W -> W.cell? ⟨b, o, none⟩ = some (.int .i64 8) /\ W.cell? ⟨b, o + 2, none⟩ = some (.string ⟨#[]⟩)) := hide fun W hW => ⟨(World.cell?_of_block (a := ⟨b, o, none⟩) (hW.block b hbn)).trans hc0, (World.cell?_of_block (a := ⟨b, o + 2, none⟩) (hW.block b hbn)).trans hnm⟩
 have HB : Hid (∀ st0, wtS st0 <= 1 -> B \/ wtS (st ++ st0) + (xw (.node 8 a ⟨#[]⟩ false false false false [] [e1, x1]) - 1) <= 33554432) := hide fun st0 h0 => hB.imp id fun ⟨h1, _⟩ => by
  have hx0 : 24 <= xw (.node 8 a ⟨#[]⟩ false false false false [] [e1, x1]) := by rw [xw_node]; omega
  rw [wtS_append]; omega
 have hlt : ((rkX (.node 8 a ⟨#[]⟩ false false false false [] [e1, x1]) : Int) < (k : Int)) = False := by simp; omega
 have HW : Hid (wtS [Pc.tok sOpen, Pc.ex e1 t g 0 0, Pc.tok sColon, Pc.ex x1 u g 9 0, Pc.tok sShut] < xw (.node 8 a ⟨#[]⟩ false false false false [] [e1, x1]) - 1) := hide (by
  show 1 + ((xw e1 + 3 * 0) + (1 + ((xw x1 + 3 * 0) + (1 + 0)))) < _; rw [xw_node]
  simp only [List.map_cons, List.sum_cons, List.map_nil, List.sum_nil]
  omega)
 have KW := kw_word; have HT : Hid ([Pc.tok sOpen, Pc.ex e1 t g 0 0, Pc.tok sColon, Pc.ex x1 u g 9 0, Pc.tok sShut].flatMap Pc.toks = (sOpen :: ((t ++ sColon :: u) ++ [sShut]))) := hide (by simp [Pc.toks, brk])
 clear hP hX hB hs hrk hF hc0 hnm c8; generalize ((.node 8 a ⟨#[]⟩ false false false false [] [e1, x1]) : Ex) = e at *; generalize ((sOpen :: ((t ++ sColon :: u) ++ [sShut])) : List ByteArray) = t0 at *
 generalize rkX e = rk at *
 go_enter Tryz.func76, Tryz.ntmps76
 go_wp2_with (go_at_call 92; refine KR.out.mono ?_)
 intro r w1 h1; obtain ⟨rfl, hw1⟩ := h1; have hw1' := hw1.symm; subst hw1'; clear hw1 KR
 go_wp2_with (go_at_call 93; refine KP.out.mono ?_)
 intro r w2 h2; clear KP
 rcases h2 with ⟨rfl, st0, H0⟩ | ⟨rfl, HF⟩ | ⟨⟨fb, rfl⟩, HF⟩
 rotate_left
 . go_wp2_with fail
   go_end0; exact HF.out
 . go_wp2_with fail
   exact ⟨rfl, HF.out⟩
 obtain ⟨hc, hn⟩ := HXo.out w2 H0.out.2.1; have hb0 : Below w2.heap.size w2 w2 := Below.refl _ _
 go_wp2_with (go_at_call 50; refine (KW.out sOpen w2).mono ?_)
 rintro r v0 ⟨rfl, hq⟩; have hb1 : Below w2.heap.size w2 v0 := hb0.trans (hq.mono hb0.size); clear hq
 go_wp2_with (go_at_call 99; refine (KP0.out v0 (H0.out.2.1.trans (hb1.mono (by have := H0.out.1.lt; have := H0.out.1.lo; omega)))).mono ?_)
 rintro r v1 ⟨rfl, hq⟩; have hb2 : Below w2.heap.size w2 v1 := hb1.trans (hq.mono hb1.size); clear hq
 go_wp2_with (go_at_call 50; refine (KW.out sColon v1).mono ?_)
 rintro r v2 ⟨rfl, hq⟩; have hb3 : Below w2.heap.size w2 v2 := hb2.trans (hq.mono hb2.size); clear hq
 go_wp2_with (go_at_call 99; refine (KP1.out v2 (H0.out.2.1.trans (hb3.mono (by have := H0.out.1.lt; have := H0.out.1.lo; omega)))).mono ?_)
 rintro r v3 ⟨rfl, hq⟩; have hb4 : Below w2.heap.size w2 v3 := hb3.trans (hq.mono hb3.size); clear hq
 go_wp2_with (go_at_call 50; refine (KW.out sShut v3).mono ?_)
 rintro r v4 ⟨rfl, hq⟩; have hb5 : Below w2.heap.size w2 v4 := hb4.trans (hq.mono hb4.size); clear hq
 have KN := hide (next_stepG (B := B) (c := 5) t0 (xw e - 1) [Pc.tok sOpen, Pc.ex e1 t g 0 0, Pc.tok sColon, Pc.ex x1 u g 9 0, Pc.tok sShut] _ rfl HT.out HW.out (oks_cons (show sOpen.size <= 100 by decide) (oks_cons (Pc.Ok.keep HO0.out (fun b hb => H0.out.2.1.block b hb)) (oks_cons (show sColon.size <= 100 by decide) (oks_cons (Pc.Ok.keep HO1.out (fun b hb => H0.out.2.1.block b hb)) (oks_cons (show sShut.size <= 100 by decide) oks_nil))))) (by simp) H0.out.1 hb5 H0.out.2.2.1 (HB.out st0 H0.out.2.2.2.1))
 clear hb0 hb1 hb2 hb3 hb4 hb5
 go_wp2_with (go_at_call 74; refine KN.out.mono ?_)
 intro r w9 h9; have HF : Hid (StepR B n0 w pb wb l tg st (.ex e t0 b o k) r w9) := hide (h9.outer H0.out.2.1 H0.out.2.2.2.1 H0.out.2.2.2.2 HK.out)
 rcases h9.form with rfl | ⟨fb, rfl⟩
 . clear h9 KN
   go_wp2_with fail
   go_end0; exact HF.out
 . clear h9 KN
   go_wp2_with fail
   exact ⟨rfl, HF.out⟩
end
section
variable {n0 pb : Nat} {wb : Wk} {tg : Bool} {l : List UInt8} {st : List Pc} {B : Prop}
theorem expr_let (a : Nat) (q : ByteArray) (x1 v1 y1 : Ex) (t u y : List ByteArray) (hq : LNm q) (ht : Sp x1 t) (hu : Sp v1 u) (hy : Sp y1 y) (b o k : Nat) (hk : k <= 3) (w : World) (hP : PS w n0 pb wb l tg st) (hX : XAt w (fun b => b < n0) (.node 7 a q false false false false [] [x1, v1, y1]) b o) (hF : ExFit 1000000 (.node 7 a q false false false false [] [x1, v1, y1])) (hrk : k <= rkX (.node 7 a q false false false false [] [x1, v1, y1])) (hst : st.length <= 33554432) (hB : B \/ (wtS st + (xw (.node 7 a q false false false false [] [x1, v1, y1]) + 3 * k) <= 33554432 /\ l.length < 8388608)) :
 Calls Tryz.prog 76 #[.pointer (some ⟨pb, 0, none⟩), .pointer (some ⟨b, o, none⟩), .int .i64 (k : Nat)] w fun r w' => StepR B n0 w pb wb l tg st (.ex (.node 7 a q false false false false [] [x1, v1, y1]) ((((wLet :: [q]) ++ sColon :: t) ++ sBe :: u) ++ wIn :: y) b o k) r w' := by
 have hs : Sp (.node 7 a q false false false false [] [x1, v1, y1]) ((((wLet :: [q]) ++ sColon :: t) ++ sBe :: u) ++ wIn :: y) := .lets a q x1 v1 y1 t u y hq ht hu hy
 have KR : Hid (Calls Tryz.prog 92 #[.pointer (some ⟨b, o, none⟩)] w fun r w' => r = .returned (.int .i64 (rkX (.node 7 a q false false false false [] [x1, v1, y1]) : Nat)) /\ w' = w) := hide (rankOf_calls (.node 7 a q false false false false [] [x1, v1, y1]) _ hs b o w hX)
 have KP := hide (rep_calls (.node 7 a q false false false false [] [x1, v1, y1]) ((((wLet :: [q]) ++ sColon :: t) ++ sBe :: u) ++ wIn :: y) b o k w hP hX hst hB)
 have HK : Hid (inK (.node 7 a q false false false false [] [x1, v1, y1]) k ((((wLet :: [q]) ++ sColon :: t) ++ sBe :: u) ++ wIn :: y) = ((((wLet :: [q]) ++ sColon :: t) ++ sBe :: u) ++ wIn :: y)) := hide (by show brk (decide (rkX (.node 7 a q false false false false [] [x1, v1, y1]) < k)) _ = _; rw [decide_eq_false (by omega)]; rfl)
 obtain ⟨hbn, hc0⟩ := hX.kind; obtain ⟨g, ⟨n8, c80, c8, _⟩, _⟩ := hX.args (by simp [Ex.xs]); have HO0 : Hid ((Pc.ex x1 t g 0 0).Ok w n0) := hide (by simpa using kidOk hX hF (i := 0) (by simp) ht (by omega) ⟨_, _, c8⟩)
 have HO1 : Hid ((Pc.ex v1 u g 9 0).Ok w n0) := hide (by simpa using kidOk hX hF (i := 1) (by simp) hu (by omega) ⟨_, _, c8⟩)
 have HO2 : Hid ((Pc.ex y1 y g 18 0).Ok w n0) := hide (by simpa using kidOk hX hF (i := 2) (by simp) hy (by omega) ⟨_, _, c8⟩)
 have KP0 : Hid (∀ (W : World), Below n0 w W -> Calls Tryz.prog 99 #[.pointer (some ⟨b, o, none⟩), .int .i64 0, .int .i64 0] W fun e' w' => e' = .returned (.agg #[.string ⟨#[]⟩, .pointer (some ⟨g, 0, none⟩), .pointer none, .int .i64 0, .bool false, .int .i64 0]) /\ Below W.heap.size W w') := hide fun W hW => part_at (.node 7 a q false false false false [] [x1, v1, y1]) b o 0 0 g W (hX.keep fun b hb hs => ⟨hs, hW.block b hs⟩) (by simp [Ex.xs]) ⟨_, _, (World.cell?_of_block (a := ⟨b, o + 8, none⟩) (hW.block b hbn)).trans c8⟩
 have KP1 : Hid (∀ (W : World), Below n0 w W -> Calls Tryz.prog 99 #[.pointer (some ⟨b, o, none⟩), .int .i64 1, .int .i64 0] W fun e' w' => e' = .returned (.agg #[.string ⟨#[]⟩, .pointer (some ⟨g, 9, none⟩), .pointer none, .int .i64 0, .bool false, .int .i64 0]) /\ Below W.heap.size W w') := hide fun W hW => part_at (.node 7 a q false false false false [] [x1, v1, y1]) b o 1 0 g W (hX.keep fun b hb hs => ⟨hs, hW.block b hs⟩) (by simp [Ex.xs]) ⟨_, _, (World.cell?_of_block (a := ⟨b, o + 8, none⟩) (hW.block b hbn)).trans c8⟩
 have KP2 : Hid (∀ (W : World), Below n0 w W -> Calls Tryz.prog 99 #[.pointer (some ⟨b, o, none⟩), .int .i64 2, .int .i64 0] W fun e' w' => e' = .returned (.agg #[.string ⟨#[]⟩, .pointer (some ⟨g, 18, none⟩), .pointer none, .int .i64 0, .bool false, .int .i64 0]) /\ Below W.heap.size W w') := hide fun W hW => part_at (.node 7 a q false false false false [] [x1, v1, y1]) b o 2 0 g W (hX.keep fun b hb hs => ⟨hs, hW.block b hs⟩) (by simp [Ex.xs]) ⟨_, _, (World.cell?_of_block (a := ⟨b, o + 8, none⟩) (hW.block b hbn)).trans c8⟩
 obtain ⟨_, _, _, _, _, _, _, hnm, _⟩ := hX.open
 have HXo : Hid (∀ W, Below n0 w W -> W.cell? ⟨b, o, none⟩ = some (.int .i64 7) /\ W.cell? ⟨b, o + 2, none⟩ = some (.string q)) := hide fun W hW => ⟨(World.cell?_of_block (a := ⟨b, o, none⟩) (hW.block b hbn)).trans hc0, (World.cell?_of_block (a := ⟨b, o + 2, none⟩) (hW.block b hbn)).trans hnm⟩
 have HB : Hid (∀ st0, wtS st0 <= 1 -> B \/ wtS (st ++ st0) + (xw (.node 7 a q false false false false [] [x1, v1, y1]) - 1) <= 33554432) := hide fun st0 h0 => hB.imp id fun ⟨h1, _⟩ => by
  have hx0 : 24 <= xw (.node 7 a q false false false false [] [x1, v1, y1]) := by rw [xw_node]; omega
  rw [wtS_append]; omega
 have hlt : ((rkX (.node 7 a q false false false false [] [x1, v1, y1]) : Int) < (k : Int)) = False := by simp; omega
 have HW : Hid (wtS [Pc.tok wLet, Pc.tok q, Pc.tok sColon, Pc.ex x1 t g 0 0, Pc.tok sBe, Pc.ex v1 u g 9 0, Pc.tok wIn, Pc.ex y1 y g 18 0] < xw (.node 7 a q false false false false [] [x1, v1, y1]) - 1) := hide (by
  show 1 + (1 + (1 + ((xw x1 + 3 * 0) + (1 + ((xw v1 + 3 * 0) + (1 + ((xw y1 + 3 * 0) + 0))))))) < _; rw [xw_node]
  simp only [List.map_cons, List.sum_cons, List.map_nil, List.sum_nil]
  omega)
 have KW := kw_word
 have HT : Hid ([Pc.tok wLet, Pc.tok q, Pc.tok sColon, Pc.ex x1 t g 0 0, Pc.tok sBe, Pc.ex v1 u g 9 0, Pc.tok wIn, Pc.ex y1 y g 18 0].flatMap Pc.toks = ((((wLet :: [q]) ++ sColon :: t) ++ sBe :: u) ++ wIn :: y)) := hide (by simp [Pc.toks, brk])
 clear hP hX hB hs hrk hF hc0 hnm c8; generalize ((.node 7 a q false false false false [] [x1, v1, y1]) : Ex) = e0 at *; generalize (((((wLet :: [q]) ++ sColon :: t) ++ sBe :: u) ++ wIn :: y) : List ByteArray) = t0 at *
 generalize rkX e0 = rk at *
 go_enter Tryz.func76, Tryz.ntmps76
 go_wp2_with (go_at_call 92; refine KR.out.mono ?_)
 intro r w1 h1; obtain ⟨rfl, hw1⟩ := h1; have hw1' := hw1.symm; subst hw1'; clear hw1 KR
 go_wp2_with (go_at_call 93; refine KP.out.mono ?_)
 intro r w2 h2; clear KP
 rcases h2 with ⟨rfl, st0, H0⟩ | ⟨rfl, HF⟩ | ⟨⟨fb, rfl⟩, HF⟩
 rotate_left
 . go_wp2_with fail
   go_end0; exact HF.out
 . go_wp2_with fail
   exact ⟨rfl, HF.out⟩
 obtain ⟨hc, hn⟩ := HXo.out w2 H0.out.2.1; have KWc := kwc_word
 have KPc0 : Hid (∀ (W : World), Below w2.heap.size w2 W -> Calls Tryz.prog 99 #[.pointer (some ⟨b, o, none⟩), .int .i64 0, .int .i64 0] W fun e' w' => ∃ v, e' = .returned (.agg v) /\ (v = #[.string ⟨#[]⟩, .pointer (some ⟨g, 0, none⟩), .pointer none, .int .i64 0, .bool false, .int .i64 0] /\ Below W.heap.size W w')) := hide fun W hW => (KP0.out W (H0.out.2.1.trans (hW.mono (by have := H0.out.1.lt; have := H0.out.1.lo; omega)))).mono fun e w' ⟨h1, h2⟩ => ⟨_, h1, rfl, h2⟩
 have KPc1 : Hid (∀ (W : World), Below w2.heap.size w2 W -> Calls Tryz.prog 99 #[.pointer (some ⟨b, o, none⟩), .int .i64 1, .int .i64 0] W fun e' w' => ∃ v, e' = .returned (.agg v) /\ (v = #[.string ⟨#[]⟩, .pointer (some ⟨g, 9, none⟩), .pointer none, .int .i64 0, .bool false, .int .i64 0] /\ Below W.heap.size W w')) := hide fun W hW => (KP1.out W (H0.out.2.1.trans (hW.mono (by have := H0.out.1.lt; have := H0.out.1.lo; omega)))).mono fun e w' ⟨h1, h2⟩ => ⟨_, h1, rfl, h2⟩
 have KPc2 : Hid (∀ (W : World), Below w2.heap.size w2 W -> Calls Tryz.prog 99 #[.pointer (some ⟨b, o, none⟩), .int .i64 2, .int .i64 0] W fun e' w' => ∃ v, e' = .returned (.agg v) /\ (v = #[.string ⟨#[]⟩, .pointer (some ⟨g, 18, none⟩), .pointer none, .int .i64 0, .bool false, .int .i64 0] /\ Below W.heap.size W w')) := hide fun W hW => (KP2.out W (H0.out.2.1.trans (hW.mono (by have := H0.out.1.lt; have := H0.out.1.lo; omega)))).mono fun e w' ⟨h1, h2⟩ => ⟨_, h1, rfl, h2⟩
 have KNx : Hid (∀ W, Below w2.heap.size w2 W -> Calls Tryz.prog 74 #[.pointer (some ⟨pb, 0, none⟩), .slice (some ⟨W.heap.size, 0, none⟩) 8 8] (W.alloc (.cells #[.string wLet, .pointer none, .pointer none, .int .i64 0, .bool false, .int .i64 0, .string q, .pointer none, .pointer none, .int .i64 0, .bool false, .int .i64 0, .string sColon, .pointer none, .pointer none, .int .i64 0, .bool false, .int .i64 0, .string ⟨#[]⟩, .pointer (some ⟨g, 0, none⟩), .pointer none, .int .i64 0, .bool false, .int .i64 0, .string sBe, .pointer none, .pointer none, .int .i64 0, .bool false, .int .i64 0, .string ⟨#[]⟩, .pointer (some ⟨g, 9, none⟩), .pointer none, .int .i64 0, .bool false, .int .i64 0, .string wIn, .pointer none, .pointer none, .int .i64 0, .bool false, .int .i64 0, .string ⟨#[]⟩, .pointer (some ⟨g, 18, none⟩), .pointer none, .int .i64 0, .bool false, .int .i64 0] 106)) fun e w' => StepG B n0 w2 pb wb l tg (st ++ st0) t0 (xw e0 - 1) e w') := hide fun W hW => next_stepG (B := B) (c := 8) t0 (xw e0 - 1) [Pc.tok wLet, Pc.tok q, Pc.tok sColon, Pc.ex x1 t g 0 0, Pc.tok sBe, Pc.ex v1 u g 9 0, Pc.tok wIn, Pc.ex y1 y g 18 0] _ rfl HT.out HW.out (oks_cons (show wLet.size <= 100 by decide) (oks_cons (show q.size <= 100 by have := hq.few; omega) (oks_cons (show sColon.size <= 100 by decide) (oks_cons (Pc.Ok.keep HO0.out (fun b hb => H0.out.2.1.block b hb)) (oks_cons (show sBe.size <= 100 by decide) (oks_cons (Pc.Ok.keep HO1.out (fun b hb => H0.out.2.1.block b hb)) (oks_cons (show wIn.size <= 100 by decide) (oks_cons (Pc.Ok.keep HO2.out (fun b hb => H0.out.2.1.block b hb)) oks_nil)))))))) (by simp) H0.out.1 hW H0.out.2.2.1 (HB.out st0 H0.out.2.2.2.1)
 have HG : Hid (∀ W, Below w2.heap.size w2 W -> W.cell? ⟨b, o + 2, none⟩ = some (.string q)) := hide fun W hW => (HXo.out W (H0.out.2.1.trans (hW.mono (by have := H0.out.1.lt; have := H0.out.1.lo; omega)))).2
 have hb : Hid (Below w2.heap.size w2 w2.drew) := hide (Below.refl _ _).drew; have S1 := HG.out _ hb.out; clear KP0 KP1 KP2 KW hn
 go_wp2_with fail
 go_region_law (first
  | (first | (refine step_cop (f := 50) rfl ?_ (KWc.out wLet _) ?_; · (simp [go_sem]; done)) | (refine step_cop (f := 50) rfl ?_ (KWc.out q _) ?_; · (simp [go_sem]; done)) | (refine step_cop (f := 50) rfl ?_ (KWc.out sColon _) ?_; · (simp [go_sem]; done)) | (refine step_cop (f := 50) rfl ?_ (KWc.out sBe _) ?_; · (simp [go_sem]; done)) | (refine step_cop (f := 50) rfl ?_ (KWc.out wIn _) ?_; · (simp [go_sem]; done)) | (refine step_cop (f := 99) rfl ?_ (KPc0.out _ hb.out) ?_; · (simp [go_sem]; done)) | (refine step_cop (f := 99) rfl ?_ (KPc1.out _ hb.out) ?_; · (simp [go_sem]; done)) | (refine step_cop (f := 99) rfl ?_ (KPc2.out _ hb.out) ?_; · (simp [go_sem]; done))
     rintro v w1 ⟨rfl, hq⟩; replace hb := hide (hb.out.trans (hq.mono hb.out.size)); have S1 := HG.out _ hb.out; clear hq)
  | (refine step_sg (f := 74) rfl ?_ (KNx.out _ hb.out) ?_ ?_
     . simp [go_sem]; done
     . intro fb w9 h9
       exact ⟨rfl, h9.outer H0.out.2.1 H0.out.2.2.2.1 H0.out.2.2.2.2 HK.out⟩
     intro w9 h9; have HF : Hid (StepR B n0 w pb wb l tg st (.ex e0 t0 b o k) (.returned (.tuple #[])) w9) := hide (h9.outer H0.out.2.1 H0.out.2.2.2.1 H0.out.2.2.2.2 HK.out); clear h9))
 all_goals
  clear KNx
  go_wp2_with fail
  go_end0; exact HF.out
end
section
variable {n0 pb : Nat} {wb : Wk} {tg : Bool} {l : List UInt8} {st : List Pc} {B : Prop}
theorem expr_calls (e : Ex) (t : List ByteArray) (hs : Sp e t) (b o k : Nat) (hk : k <= 3) (hF : ExFit 1000000 e) (w : World) (hP : PS w n0 pb wb l tg st) (hX : XAt w (fun b => b < n0) e b o) (hst : st.length <= 33554432) (hB : B \/ (wtS st + (xw e + 3 * k) <= 33554432 /\ l.length < 8388608)) :
 Calls Tryz.prog 76 #[.pointer (some ⟨pb, 0, none⟩), .pointer (some ⟨b, o, none⟩), .int .i64 (k : Nat)] w fun r w' => StepR B n0 w pb wb l tg st (.ex e t b o k) r w' := by
 by_cases hrk : k <= rkX e
 case neg => exact expr_brk e t hs b o k (by omega) hF w hP hX hst (hB.imp id (·.1))
 have hx : ∀ W : World, Below n0 w W -> XAt W (fun b => b < n0) e b o := fun W hW => hX.keep fun b _ hs => ⟨hs, hW.block b hs⟩
 have hs' := hs
 cases hs with
 | name a q ex hq =>
   refine expr_k1 _ _ hs' b o k rfl hrk w hP hX hst hB fun W1 st1 hP1 hW1 hst1 hB1 => ?_
   exact pcalled_calls a q ex false [] _ _ (by simp) rfl (by simp) (by have := hq.few; omega) (by simp) b o W1 hP1 (hx W1 hW1) (by simp) hst1 hB1
 | given a q ex lv ls hq hg =>
   refine expr_k1 _ _ hs' b o k rfl hrk w hP hX hst hB fun W1 st1 hP1 hW1 hst1 hB1 => ?_
   cases hF with
   | mk hl _ _ => exact pcalled_calls a q ex true (lv :: ls) _ _ (by simp) rfl (by simp) (by have := hq.few; omega) hg b o W1 hP1 (hx W1 hW1) hl hst1 hB1
 | hole a => exact expr_hole a b o k hk w hP hX hF hrk hst hB
 | sort a lv hg =>
   refine expr_k2 _ _ hs' b o k rfl hrk w hP hX hst hB fun W1 st1 hP1 hW1 hst1 hB1 => ?_
   exact psort_calls a lv hg b o W1 hP1 (hx W1 hW1) hst1 hB1
 | app a f x t u hf hx' he =>
   refine expr_k4 _ _ hs' b o k rfl hrk w hP hX hst hB fun W1 st1 hP1 hW1 hst1 hB1 => ?_
   exact apply_app a f x t u hf hx' he b o W1 hP1 (hx W1 hW1) hF hst1 hB1
 | eq a b1 c1 x y t u hx' hy =>
   refine expr_k4 _ _ hs' b o k rfl hrk w hP hX hst hB fun W1 st1 hP1 hW1 hst1 hB1 => ?_
   exact apply_eq a b1 c1 x y t u hx' hy b o W1 hP1 (hx W1 hW1) hF hst1 hB1
 | func a q im x y t u hq hx' hy =>
   refine expr_k5 _ _ hs' b o k rfl hrk w hP hX hst hB fun W1 st1 hP1 hW1 hst1 hB1 => ?_
   exact punder_calls 5 a q im x y t u hx' hy wFun sTo (by have := hq.few; omega) (by decide) (by decide) b o W1 hP1 (hx W1 hW1) hF hst1 hB1
 | all a q im x y t u hq hx' hy =>
   refine expr_k6 _ _ hs' b o k rfl hrk w hP hX hst hB fun W1 st1 hP1 hW1 hst1 hB1 => ?_
   exact forall_all a q im x y t u hq hx' hy b o W1 hP1 (hx W1 hW1) hF hst1 hB1
 | arrow a x y t u hx' hy =>
   refine expr_k6 _ _ hs' b o k rfl hrk w hP hX hst hB fun W1 st1 hP1 hW1 hst1 hB1 => ?_
   exact forall_arrow a x y t u hx' hy b o W1 hP1 (hx W1 hW1) hF hst1 hB1
 | lets a q x v y t u z hq hx' hv hy => exact expr_let a q x v y t u z hq hx' hv hy b o k hk w hP hX hF hrk hst hB
 | is a x y t u hx' hy => exact expr_is a x y t u hx' hy b o k hk w hP hX hF hrk hst hB
end
end Go.Proofs.YtockffblncdikaaGreatDoor
