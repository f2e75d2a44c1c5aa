/- The contract of sort. -/
import Derived.Test.YtockffblncdikaaGreatDoorXq
import Derived.Deep.RegionLaw
import Derived.Deep.DeepCutAuto
import Derived.Deep.CutBlock
namespace Go.Proofs.YtockffblncdikaaGreatDoor
open Go.RowKit
set_option maxRecDepth 100000
set_option maxHeartbeats 16000000
section
variable {n0 pb : Nat} {wb : Wk} {tg : Bool} {l : List UInt8} {st : List Pc} {B : Prop}
theorem oks_nil {w : World} : ∀ q ∈ ([] : List Pc), q.Ok w n0 := fun q hq => by simp at hq
theorem oks_cons {w : World} {p : Pc} {ps : List Pc} (h : p.Ok w n0) (h' : ∀ q ∈ ps, q.Ok w n0) : ∀ q ∈ p :: ps, q.Ok w n0 := fun q hq => by
 rcases List.mem_cons.1 hq with rfl | hq
 . exact h
 . exact h' q hq
theorem kidOk {w : World} {kd a : Nat} {nm : ByteArray} {ex gi inf im : Bool} {ls : List LvB} {xs : List Ex} {b o : Nat} (hX : XAt w (fun b => b < n0) (.node kd a nm ex gi inf im ls xs) b o) (hf : ExFit 1000000 (.node kd a nm ex gi inf im ls xs)) {i g k : Nat} {t : List ByteArray} (hi : i < xs.length) (hs : Sp xs[i] t) (hk : k <= 3) (hg : ∃ n c, w.cell? ⟨b, o + 8, none⟩ = some (.slice (some ⟨g, 0, none⟩) n c)) : (Pc.ex xs[i] t g (i * 9) k).Ok w n0 := by
 obtain ⟨_, _, A', c', _, _, _, _, _, _, _, _, _, c8, _, hkid⟩ := hX.open; obtain ⟨g', rfl, hA⟩ := hkid i hi; obtain ⟨n, c, hg⟩ := hg
 have : g' = g := by
  rw [c8] at hg; injection hg with hg; injection hg with hg _ _; injection hg with hg; injection hg with hg _ _
 subst this
 cases hf with
 | mk hl hx h => exact ⟨hA, hs, hk, h i hi⟩
theorem step_sg {ops : Array Oper} {o : Oper} {a : Act} {w w0 : World} {K : Act -> World -> Prop} {Q : Exit -> Act -> World -> Prop} {E : Prop} {args : Array Value} {f : FuncId} {tk : List ByteArray} {m : Nat}
 (hg : o.guard = none) (hrun : (execOp a.eval o).run Tryz.prog w = .ok (.enter f args) w) (hc : Calls Tryz.prog f args w fun e w' => StepG B n0 w0 pb wb l tg st tk m e w')
 (hth : ∀ (fb : Nat) (w' : World), StepG B n0 w0 pb wb l tg st tk m (.panicked [{ v := .iface 41 (.pointer (some ⟨fb, 0, none⟩)), recovered := false }]) w' -> Q (.panic [{ v := .iface 41 (.pointer (some ⟨fb, 0, none⟩)), recovered := false }]) a w')
 (hK : ∀ w' : World, StepG B n0 w0 pb wb l tg st tk m (.returned (.tuple #[])) w' -> K (a.put o.dst (.tuple #[])) w') :
 if Region.wanted o (yielded ops a.tmps) = true then Oper.wp Tryz.prog o a w K Q else E := by
 have hw : Region.wanted o (yielded ops a.tmps) = true := by simp [Region.wanted, hg]
 rw [if_pos hw]; unfold Oper.wp; rw [hrun]; refine hc.mono ?_; intro e w' h
 rcases h.form with rfl | ⟨fb, rfl⟩
 . exact hK w' h
 . exact hth fb w' h
theorem part_at {S : Nat -> Prop} (e : Ex) (b o i k g : Nat) (w : World) (h : XAt w S e b o) (hi : i < e.xs.length) (hg : ∃ n c, w.cell? ⟨b, o + 8, none⟩ = some (.slice (some ⟨g, 0, none⟩) n c)) :
 Calls Tryz.prog 99 #[.pointer (some ⟨b, o, none⟩), .int .i64 (i : Nat), .int .i64 (k : Nat)] w fun e' w' => e' = .returned (.agg #[.string ⟨#[]⟩, .pointer (some ⟨g, i * 9, none⟩), .pointer none, .int .i64 (k : Nat), .bool false, .int .i64 0]) /\ Below w.heap.size w w' := by
 obtain ⟨kd, a, nm, ex, gi, inf, im, ls, xs⟩ := e; obtain ⟨n', c', hg⟩ := hg; refine (part_calls b o i k [] w h hi).mono ?_; rintro e w' ⟨g2, he, _, hb, n2, c2, hg2⟩
 have : g2 = g := by
  rw [hg2] at hg; injection hg with hg; injection hg with hg _ _; injection hg with hg; injection hg with hg _ _
 subst this; exact ⟨he, hb⟩
theorem apply_app (a : Nat) (f x : Ex) (t u : List ByteArray) (hf : Sp f t) (hx : Sp x u) (he : isEq (appX a f x) = false) (b o : Nat) (w : World) (hP : PS w n0 pb wb l tg st) (hX : XAt w (fun b => b < n0) (appX a f x) b o) (hF : ExFit 1000000 (appX a f x)) (hst : st.length <= 33554432) (hB : B \/ wtS st + (xw (appX a f x) - 1) <= 33554432) :
 Calls Tryz.prog 96 #[.pointer (some ⟨pb, 0, none⟩), .pointer (some ⟨b, o, none⟩)] w fun r w' => StepG B n0 w pb wb l tg st (inK f 2 t ++ inK x 3 u) (xw (appX a f x) - 1) r w' := by
 have HP := hide hP; have HB := hide hB
 have KE : Hid (Calls Tryz.prog 111 #[.pointer (some ⟨b, o, none⟩)] w fun r w' => r = .returned (.bool false) /\ w' = w) := hide (he ▸ isEquation_calls _ _ (.app a f x t u hf hx he) b o w hX)
 obtain ⟨g, ⟨n, c, c8, _⟩, _⟩ := hX.args (by simp [Ex.xs]); have HO0 : Hid ((Pc.ex f t g 0 2).Ok w n0) := hide (by simpa using kidOk hX hF (i := 0) (by simp) hf (by omega) ⟨_, _, c8⟩)
 have HO1 : Hid ((Pc.ex x u g 9 3).Ok w n0) := hide (by simpa using kidOk hX hF (i := 1) (by simp) hx (by omega) ⟨_, _, c8⟩)
 have KP0_2 : Hid (∀ (W : World), Below w.heap.size w W -> Calls Tryz.prog 99 #[.pointer (some ⟨b, o, none⟩), .int .i64 0, .int .i64 2] W fun e' w' => e' = .returned (.agg #[.string ⟨#[]⟩, .pointer (some ⟨g, 0, none⟩), .pointer none, .int .i64 2, .bool false, .int .i64 0]) /\ Below W.heap.size W w') := hide fun W hW => part_at (appX a f x) b o 0 2 g W (hX.keep fun b hb hs => ⟨hs, hW.block b hb⟩) (by simp [Ex.xs]) ⟨_, _, cell_later hW c8⟩
 have KP1_3 : Hid (∀ (W : World), Below w.heap.size w W -> Calls Tryz.prog 99 #[.pointer (some ⟨b, o, none⟩), .int .i64 1, .int .i64 3] W fun e' w' => e' = .returned (.agg #[.string ⟨#[]⟩, .pointer (some ⟨g, 9, none⟩), .pointer none, .int .i64 3, .bool false, .int .i64 0]) /\ Below W.heap.size W w') := hide fun W hW => part_at (appX a f x) b o 1 3 g W (hX.keep fun b hb hs => ⟨hs, hW.block b hb⟩) (by simp [Ex.xs]) ⟨_, _, cell_later hW c8⟩
 have hw : wtS [Pc.ex f t g 0 2, Pc.ex x u g 9 3] < xw (appX a f x) - 1 := by
  show (xw f + 3 * 2) + ((xw x + 3 * 3) + 0) < xw (appX a f x) - 1; rw [show appX a f x = .node 4 a ⟨#[]⟩ false false false false [] [f, x] from rfl, xw_node]
  simp
  omega
 generalize xw (appX a f x) - 1 = m at *; clear hP hB hX hF c8
 go_enter Tryz.func96, Tryz.ntmps96
 go_wp2_with (go_at_call 111; refine KE.out.mono ?_)
 intro r w1 h1; obtain ⟨rfl, hw1⟩ := h1; have hw1' := hw1.symm; subst hw1'; clear hw1
 go_wp2_with (go_at_call 99; refine (KP0_2.out w (Below.refl w.heap.size w)).mono ?_)
 rintro e w1 ⟨rfl, hq1⟩; have hb1 : Below w.heap.size w w1 := (Below.refl w.heap.size w).trans (hq1.mono (Below.refl w.heap.size w).size)
 go_wp2_with (go_at_call 99; refine (KP1_3.out w1 hb1).mono ?_)
 rintro e w2 ⟨rfl, hq2⟩; have hb2 : Below w.heap.size w w2 := hb1.trans (hq2.mono hb1.size)
 have KN := hide (next_stepG (B := B) (c := 2) (inK f 2 t ++ inK x 3 u) m [Pc.ex f t g 0 2, Pc.ex x u g 9 3] _ rfl (by simp [Pc.toks]) hw (oks_cons HO0.out (oks_cons HO1.out oks_nil)) (by simp) HP.out hb2 hst HB.out)
 clear hb1 hq1 hb2 hq2
 go_wp2_with (go_at_call 74; refine KN.out.mono ?_)
 intro e w9 h9; have HF := hide h9
 rcases h9.form with rfl | ⟨fb, rfl⟩
 . clear h9 KN
   go_wp2_with fail
   go_end0; exact HF.out
 . clear h9 KN
   go_wp2_with fail
   exact ⟨rfl, HF.out⟩
theorem apply_eq (a b1 c1 : Nat) (x y : Ex) (t u : List ByteArray) (hx : Sp x t) (hy : Sp y u) (b o : Nat) (w : World) (hP : PS w n0 pb wb l tg st) (hX : XAt w (fun b => b < n0) (appX a (appX b1 (.node 1 c1 wEq false false true false [] []) x) y) b o) (hF : ExFit 1000000 (appX a (appX b1 (.node 1 c1 wEq false false true false [] []) x) y)) (hst : st.length <= 33554432) (hB : B \/ wtS st + (xw (appX a (appX b1 (.node 1 c1 wEq false false true false [] []) x) y) - 1) <= 33554432) :
 Calls Tryz.prog 96 #[.pointer (some ⟨pb, 0, none⟩), .pointer (some ⟨b, o, none⟩)] w fun r w' => StepG B n0 w pb wb l tg st (inK x 2 t ++ sEq :: inK y 2 u) (xw (appX a (appX b1 (.node 1 c1 wEq false false true false [] []) x) y) - 1) r w' := by
 have HP := hide hP; have HB := hide hB
 have KE : Hid (Calls Tryz.prog 111 #[.pointer (some ⟨b, o, none⟩)] w fun r w' => r = .returned (.bool true) /\ w' = w) := hide (isEquation_calls _ _ (.eq a b1 c1 x y t u hx hy) b o w hX)
 obtain ⟨_, _, A', c', _, _, _, _, _, _, _, _, _, c8, _, hkid⟩ := hX.open; obtain ⟨g, rfl, hf0⟩ := hkid 0 (by simp)
 have hf : XAt w (fun b => b < n0) (appX b1 (.node 1 c1 wEq false false true false [] []) x) g 0 := by simpa using hf0
 obtain ⟨g1, ⟨n1, d1, d8, _⟩, _⟩ := hf.args (by simp [Ex.xs])
 have hFf : ExFit 1000000 (appX b1 (.node 1 c1 wEq false false true false [] []) x) := by
  cases hF with
  | mk hl hx h => exact h 0 (by simp)
 have HO0 : Hid ((Pc.ex x t g1 9 2).Ok w n0) := hide (by simpa using kidOk hf hFf (i := 1) (by simp) hx (by omega) ⟨_, _, d8⟩)
 have HO1 : Hid ((Pc.ex y u g 9 2).Ok w n0) := hide (by simpa using kidOk hX hF (i := 1) (by simp) hy (by omega) ⟨_, _, c8⟩); have HOs : Hid ((Pc.tok sEq).Ok w n0) := hide (show sEq.size <= 100 by decide)
 have KPa : Hid (∀ (W : World), Below w.heap.size w W -> Calls Tryz.prog 99 #[.pointer (some ⟨g, 0, none⟩), .int .i64 1, .int .i64 2] W fun e' w' => e' = .returned (.agg #[.string ⟨#[]⟩, .pointer (some ⟨g1, 9, none⟩), .pointer none, .int .i64 2, .bool false, .int .i64 0]) /\ Below W.heap.size W w') := hide fun W hW => part_at (appX b1 (.node 1 c1 wEq false false true false [] []) x) g 0 1 2 g1 W (hf.keep fun b hb hs => ⟨hs, hW.block b hb⟩) (by simp [Ex.xs]) ⟨_, _, cell_later hW d8⟩
 have KW := kw_word
 have KP1_2 : Hid (∀ (W : World), Below w.heap.size w W -> Calls Tryz.prog 99 #[.pointer (some ⟨b, o, none⟩), .int .i64 1, .int .i64 2] W fun e' w' => e' = .returned (.agg #[.string ⟨#[]⟩, .pointer (some ⟨g, 9, none⟩), .pointer none, .int .i64 2, .bool false, .int .i64 0]) /\ Below W.heap.size W w') := hide fun W hW => part_at (appX a (appX b1 (.node 1 c1 wEq false false true false [] []) x) y) b o 1 2 g W (hX.keep fun b hb hs => ⟨hs, hW.block b hb⟩) (by simp [Ex.xs]) ⟨_, _, cell_later hW c8⟩
 have hw : wtS [Pc.ex x t g1 9 2, Pc.tok sEq, Pc.ex y u g 9 2] < xw (appX a (appX b1 (.node 1 c1 wEq false false true false [] []) x) y) - 1 := by
  show (xw x + 3 * 2) + (1 + ((xw y + 3 * 2) + 0)) < xw (appX a (appX b1 (.node 1 c1 wEq false false true false [] []) x) y) - 1
  simp [xw_node]
  omega
 generalize xw (appX a (appX b1 (.node 1 c1 wEq false false true false [] []) x) y) - 1 = m at *
 simp only [List.length_cons, List.length_nil] at c8
 clear hP hB hX hF hf hf0 hkid hFf d8
 go_enter Tryz.func96, Tryz.ntmps96
 go_wp2_with (go_at_call 111; refine KE.out.mono ?_)
 intro r w1 h1; obtain ⟨rfl, hw1⟩ := h1; have hw1' := hw1.symm; subst hw1'; clear hw1
 go_wp2_with (go_at_call 99; refine (KPa.out w (Below.refl w.heap.size w)).mono ?_)
 rintro e w1 ⟨rfl, hq1⟩; have hb1 : Below w.heap.size w w1 := (Below.refl w.heap.size w).trans (hq1.mono (Below.refl w.heap.size w).size)
 go_wp2_with (go_at_call 50; refine (KW.out sEq w1).mono ?_)
 rintro e w2 ⟨rfl, hq2⟩; have hb2 : Below w.heap.size w w2 := hb1.trans (hq2.mono hb1.size)
 go_wp2_with (go_at_call 99; refine (KP1_2.out w2 hb2).mono ?_)
 rintro e w3 ⟨rfl, hq3⟩; have hb3 : Below w.heap.size w w3 := hb2.trans (hq3.mono hb2.size)
 have KN := hide (next_stepG (B := B) (c := 3) (inK x 2 t ++ sEq :: inK y 2 u) m [Pc.ex x t g1 9 2, Pc.tok sEq, Pc.ex y u g 9 2] _ rfl (by simp [Pc.toks]) hw (oks_cons HO0.out (oks_cons HOs.out (oks_cons HO1.out oks_nil))) (by simp) HP.out hb3 hst HB.out)
 clear hb1 hq1 hb2 hq2 hb3 hq3
 go_wp2_with (go_at_call 74; refine KN.out.mono ?_)
 intro e w9 h9; have HF := hide h9
 rcases h9.form with rfl | ⟨fb, rfl⟩
 . clear h9 KN
   go_wp2_with fail
   go_end0; exact HF.out
 . clear h9 KN
   go_wp2_with fail
   exact ⟨rfl, HF.out⟩
theorem forall_arrow (a : Nat) (x y : Ex) (t u : List ByteArray) (hx : Sp x t) (hy : Sp y u) (b o : Nat) (w : World) (hP : PS w n0 pb wb l tg st) (hX : XAt w (fun b => b < n0) (.node 6 a ⟨#[]⟩ false false false false [] [x, y]) b o) (hF : ExFit 1000000 (.node 6 a ⟨#[]⟩ false false false false [] [x, y])) (hst : st.length <= 33554432) (hB : B \/ wtS st + (xw (.node 6 a ⟨#[]⟩ false false false false [] [x, y]) - 1) <= 33554432) :
 Calls Tryz.prog 98 #[.pointer (some ⟨pb, 0, none⟩), .pointer (some ⟨b, o, none⟩)] w fun r w' => StepG B n0 w pb wb l tg st (inK x 1 t ++ sArrow :: u) (xw (.node 6 a ⟨#[]⟩ false false false false [] [x, y]) - 1) r w' := by
 have HP := hide hP; have HB := hide hB; obtain ⟨A, c0, A', c', hlt, _, e0, e2, _, _, _, e6, _, c8, _, hkid⟩ := hX.open; obtain ⟨g, rfl, hf0⟩ := hkid 0 (by simp)
 have HO0 : Hid ((Pc.ex x t g 0 1).Ok w n0) := hide (by simpa using kidOk hX hF (i := 0) (by simp) hx (by omega) ⟨_, _, c8⟩)
 have HO1 : Hid ((Pc.ex y u g 9 0).Ok w n0) := hide (by simpa using kidOk hX hF (i := 1) (by simp) hy (by omega) ⟨_, _, c8⟩); have HOs : Hid ((Pc.tok sArrow).Ok w n0) := hide (show sArrow.size <= 100 by decide)
 have KW := kw_word
 have KP0_1 : Hid (∀ (W : World), Below w.heap.size w W -> Calls Tryz.prog 99 #[.pointer (some ⟨b, o, none⟩), .int .i64 0, .int .i64 1] W fun e' w' => e' = .returned (.agg #[.string ⟨#[]⟩, .pointer (some ⟨g, 0, none⟩), .pointer none, .int .i64 1, .bool false, .int .i64 0]) /\ Below W.heap.size W w') := hide fun W hW => part_at (.node 6 a ⟨#[]⟩ false false false false [] [x, y]) b o 0 1 g W (hX.keep fun b hb hs => ⟨hs, hW.block b hb⟩) (by simp [Ex.xs]) ⟨_, _, cell_later hW c8⟩
 have KP1_0 : Hid (∀ (W : World), Below w.heap.size w W -> Calls Tryz.prog 99 #[.pointer (some ⟨b, o, none⟩), .int .i64 1, .int .i64 0] W fun e' w' => e' = .returned (.agg #[.string ⟨#[]⟩, .pointer (some ⟨g, 9, none⟩), .pointer none, .int .i64 0, .bool false, .int .i64 0]) /\ Below W.heap.size W w') := hide fun W hW => part_at (.node 6 a ⟨#[]⟩ false false false false [] [x, y]) b o 1 0 g W (hX.keep fun b hb hs => ⟨hs, hW.block b hb⟩) (by simp [Ex.xs]) ⟨_, _, cell_later hW c8⟩
 have hw : wtS [Pc.ex x t g 0 1, Pc.tok sArrow, Pc.ex y u g 9 0] < xw (.node 6 a ⟨#[]⟩ false false false false [] [x, y]) - 1 := by
  show (xw x + 3 * 1) + (1 + ((xw y + 3 * 0) + 0)) < xw (.node 6 a ⟨#[]⟩ false false false false [] [x, y]) - 1
  simp [xw_node]
  omega
 generalize xw (.node 6 a ⟨#[]⟩ false false false false [] [x, y]) - 1 = m at *
 simp only [List.length_cons, List.length_nil] at c8
 clear hP hB hX hF hf0 hkid
 go_enter Tryz.func98, Tryz.ntmps98
 go_wp2_with (go_at_call 99; refine (KP0_1.out w (Below.refl w.heap.size w)).mono ?_)
 rintro e w1 ⟨rfl, hq1⟩; have hb1 : Below w.heap.size w w1 := (Below.refl w.heap.size w).trans (hq1.mono (Below.refl w.heap.size w).size)
 go_wp2_with (go_at_call 50; refine (KW.out sArrow w1).mono ?_)
 rintro e w2 ⟨rfl, hq2⟩; have hb2 : Below w.heap.size w w2 := hb1.trans (hq2.mono hb1.size)
 go_wp2_with (go_at_call 99; refine (KP1_0.out w2 hb2).mono ?_)
 rintro e w3 ⟨rfl, hq3⟩; have hb3 : Below w.heap.size w w3 := hb2.trans (hq3.mono hb2.size)
 have KN := hide (next_stepG (B := B) (c := 3) (inK x 1 t ++ sArrow :: u) m [Pc.ex x t g 0 1, Pc.tok sArrow, Pc.ex y u g 9 0] _ rfl (by simp [Pc.toks, inK, brk]) hw (oks_cons HO0.out (oks_cons HOs.out (oks_cons HO1.out oks_nil))) (by simp) HP.out hb3 hst HB.out)
 clear hb1 hq1 hb2 hq2 hb3 hq3
 go_wp2_with (go_at_call 74; refine KN.out.mono ?_)
 intro e w9 h9; have HF := hide h9
 rcases h9.form with rfl | ⟨fb, rfl⟩
 . clear h9 KN
   go_wp2_with fail
   go_end0; exact HF.out
 . clear h9 KN
   go_wp2_with fail
   exact ⟨rfl, HF.out⟩
theorem punder_calls (kd a : Nat) (q : ByteArray) (im : Bool) (x y : Ex) (t u : List ByteArray) (hx : Sp x t) (hy : Sp y u) (wd sg : ByteArray) (hq : q.size <= 100) (hwd : wd.size <= 100) (hsg : sg.size <= 100) (b o : Nat) (w : World) (hP : PS w n0 pb wb l tg st) (hX : XAt w (fun b => b < n0) (.node kd a q false false false im [] [x, y]) b o) (hF : ExFit 1000000 (.node kd a q false false false im [] [x, y])) (hst : st.length <= 33554432) (hB : B \/ wtS st + (xw (.node kd a q false false false im [] [x, y]) - 1) <= 33554432) :
 Calls Tryz.prog 97 #[.pointer (some ⟨pb, 0, none⟩), .string wd, .pointer (some ⟨b, o, none⟩), .string sg] w fun r w' => StepG B n0 w pb wb l tg st ((wd :: binK q im t) ++ sg :: u) (xw (.node kd a q false false false im [] [x, y]) - 1) r w' := by
 have HP := hide hP; have HB := hide hB; obtain ⟨A, c0, A', c', hlt, _, e0, e2, _, _, _, e6, _, c8, _, hkid⟩ := hX.open; obtain ⟨g, rfl, hf0⟩ := hkid 0 (by simp)
 have HO0 : Hid ((Pc.ex x t g 0 0).Ok w n0) := hide (by simpa using kidOk hX hF (i := 0) (by simp) hx (by omega) ⟨_, _, c8⟩)
 have HO1 : Hid ((Pc.ex y u g 9 0).Ok w n0) := hide (by simpa using kidOk hX hF (i := 1) (by simp) hy (by omega) ⟨_, _, c8⟩)
 have HOb : Hid ((Pc.tok (if im = true then sBrace else sOpen)).Ok w n0 /\ (Pc.tok (if im = true then sUnbrace else sShut)).Ok w n0) := hide (by cases im <;> exact ⟨(by decide : (_ : ByteArray).size <= 100), (by decide : (_ : ByteArray).size <= 100)⟩)
 have KB := hide (brackets_calls im w)
 have htk : ([Pc.tok wd, Pc.tok (if im = true then sBrace else sOpen), Pc.tok q, Pc.tok sColon, Pc.ex x t g 0 0, Pc.tok (if im = true then sUnbrace else sShut), Pc.tok sg, Pc.ex y u g 9 0] : List Pc).flatMap Pc.toks = (wd :: binK q im t) ++ sg :: u := by cases im <;> simp [Pc.toks, inK, brk, binK]
 have G : ∀ W, Below w.heap.size w W -> W.cell? ⟨b, o + 2, none⟩ = some (.string q) := fun W hW => cell_later hW e2
 have KW := kw_word
 have KP0_0 : Hid (∀ (W : World), Below w.heap.size w W -> Calls Tryz.prog 99 #[.pointer (some ⟨b, o, none⟩), .int .i64 0, .int .i64 0] W fun e' w' => e' = .returned (.agg #[.string ⟨#[]⟩, .pointer (some ⟨g, 0, none⟩), .pointer none, .int .i64 0, .bool false, .int .i64 0]) /\ Below W.heap.size W w') := hide fun W hW => part_at (.node kd a q false false false im [] [x, y]) b o 0 0 g W (hX.keep fun b hb hs => ⟨hs, hW.block b hb⟩) (by simp [Ex.xs]) ⟨_, _, cell_later hW c8⟩
 have KP1_0 : Hid (∀ (W : World), Below w.heap.size w W -> Calls Tryz.prog 99 #[.pointer (some ⟨b, o, none⟩), .int .i64 1, .int .i64 0] W fun e' w' => e' = .returned (.agg #[.string ⟨#[]⟩, .pointer (some ⟨g, 9, none⟩), .pointer none, .int .i64 0, .bool false, .int .i64 0]) /\ Below W.heap.size W w') := hide fun W hW => part_at (.node kd a q false false false im [] [x, y]) b o 1 0 g W (hX.keep fun b hb hs => ⟨hs, hW.block b hb⟩) (by simp [Ex.xs]) ⟨_, _, cell_later hW c8⟩
 have hw : wtS [Pc.tok wd, Pc.tok (if im = true then sBrace else sOpen), Pc.tok q, Pc.tok sColon, Pc.ex x t g 0 0, Pc.tok (if im = true then sUnbrace else sShut), Pc.tok sg, Pc.ex y u g 9 0] < xw (.node kd a q false false false im [] [x, y]) - 1 := by
  show 1 + (1 + (1 + (1 + ((xw x + 3 * 0) + (1 + (1 + ((xw y + 3 * 0) + 0))))))) < xw (.node kd a q false false false im [] [x, y]) - 1
  simp [xw_node]
  omega
 generalize xw (.node kd a q false false false im [] [x, y]) - 1 = m at *
 simp only [List.length_cons, List.length_nil] at c8
 clear hP hB hX hF hf0 hkid
 go_enter Tryz.func97, Tryz.ntmps97
 generalize (if im = true then sBrace else sOpen) = br1 at *; generalize (if im = true then sUnbrace else sShut) = br2 at *
 go_wp2_with (go_at_call 53; refine KB.out.mono ?_)
 intro r w1 h1; obtain ⟨rfl, hw1⟩ := h1; have hw1' := hw1.symm; subst hw1'; clear hw1; clear KB; have KWc := kwc_word
 have KPc0_0 : Hid (∀ (W : World), Below w.heap.size w W -> Calls Tryz.prog 99 #[.pointer (some ⟨b, o, none⟩), .int .i64 0, .int .i64 0] W fun e' w' => ∃ v, e' = .returned (.agg v) /\ (v = #[.string ⟨#[]⟩, .pointer (some ⟨g, 0, none⟩), .pointer none, .int .i64 0, .bool false, .int .i64 0] /\ Below W.heap.size W w')) := hide fun W hW => (KP0_0.out W hW).mono fun e w' ⟨h1, h2⟩ => ⟨_, h1, rfl, h2⟩
 have KPc1_0 : Hid (∀ (W : World), Below w.heap.size w W -> Calls Tryz.prog 99 #[.pointer (some ⟨b, o, none⟩), .int .i64 1, .int .i64 0] W fun e' w' => ∃ v, e' = .returned (.agg v) /\ (v = #[.string ⟨#[]⟩, .pointer (some ⟨g, 9, none⟩), .pointer none, .int .i64 0, .bool false, .int .i64 0] /\ Below W.heap.size W w')) := hide fun W hW => (KP1_0.out W hW).mono fun e w' ⟨h1, h2⟩ => ⟨_, h1, rfl, h2⟩
 have KNx : Hid (∀ W, Below w.heap.size w W -> Calls Tryz.prog 74 #[.pointer (some ⟨pb, 0, none⟩), .slice (some ⟨W.heap.size, 0, none⟩) 8 8] (W.alloc (.cells #[.string wd, .pointer none, .pointer none, .int .i64 0, .bool false, .int .i64 0, .string br1, .pointer none, .pointer none, .int .i64 0, .bool false, .int .i64 0, .string q, .pointer none, .pointer none, .int .i64 0, .bool false, .int .i64 0, .string sColon, .pointer none, .pointer none, .int .i64 0, .bool false, .int .i64 0, .string ⟨#[]⟩, .pointer (some ⟨g, 0, none⟩), .pointer none, .int .i64 0, .bool false, .int .i64 0, .string br2, .pointer none, .pointer none, .int .i64 0, .bool false, .int .i64 0, .string sg, .pointer none, .pointer none, .int .i64 0, .bool false, .int .i64 0, .string ⟨#[]⟩, .pointer (some ⟨g, 9, none⟩), .pointer none, .int .i64 0, .bool false, .int .i64 0] 106)) fun e w' => StepG B n0 w pb wb l tg st ((wd :: binK q im t) ++ sg :: u) m e w') := hide fun W hW => next_stepG (B := B) (c := 8) ((wd :: binK q im t) ++ sg :: u) m [Pc.tok wd, Pc.tok br1, Pc.tok q, Pc.tok sColon, Pc.ex x t g 0 0, Pc.tok br2, Pc.tok sg, Pc.ex y u g 9 0] _ rfl htk hw (oks_cons (show wd.size <= 100 from hwd) (oks_cons HOb.out.1 (oks_cons (show q.size <= 100 from hq) (oks_cons (show sColon.size <= 100 by decide) (oks_cons HO0.out (oks_cons HOb.out.2 (oks_cons (show sg.size <= 100 from hsg) (oks_cons HO1.out oks_nil)))))))) (by simp) HP.out hW hst HB.out
 have hb : Hid (Below w.heap.size w w.drew) := hide (Below.refl _ _).drew; have S1 := G _ hb.out; have HG := hide G; clear G
 go_wp2_with fail
 go_region_law (first
  | (first | (refine step_cop (f := 50) rfl ?_ (KWc.out wd _) ?_; · (simp [go_sem]; done)) | (refine step_cop (f := 50) rfl ?_ (KWc.out br1 _) ?_; · (simp [go_sem]; done)) | (refine step_cop (f := 50) rfl ?_ (KWc.out q _) ?_; · (simp [go_sem]; done)) | (refine step_cop (f := 50) rfl ?_ (KWc.out sColon _) ?_; · (simp [go_sem]; done)) | (refine step_cop (f := 50) rfl ?_ (KWc.out br2 _) ?_; · (simp [go_sem]; done)) | (refine step_cop (f := 50) rfl ?_ (KWc.out sg _) ?_; · (simp [go_sem]; done)) | (refine step_cop (f := 99) rfl ?_ (KPc0_0.out _ hb.out) ?_; · (simp [go_sem]; done)) | (refine step_cop (f := 99) rfl ?_ (KPc1_0.out _ hb.out) ?_; · (simp [go_sem]; done))
     rintro v w1 ⟨rfl, hq⟩; replace hb := hide (hb.out.trans (hq.mono hb.out.size)); have S1 := HG.out _ hb.out; clear hq)
  | (refine step_sg (f := 74) rfl ?_ (KNx.out _ hb.out) ?_ ?_
     . simp [go_sem]; done
     . intro fb w9 h9
       exact ⟨rfl, h9⟩
     intro w9 h9; have HF := hide h9; clear h9))
 all_goals
  clear KNx
  go_wp2_with fail
  go_end0; exact HF.out
theorem forall_all (a : Nat) (q : ByteArray) (im : Bool) (x y : Ex) (t u : List ByteArray) (hq : LNm q) (hx : Sp x t) (hy : Sp y u) (b o : Nat) (w : World) (hP : PS w n0 pb wb l tg st) (hX : XAt w (fun b => b < n0) (.node 6 a q false false false im [] [x, y]) b o) (hF : ExFit 1000000 (.node 6 a q false false false im [] [x, y])) (hst : st.length <= 33554432) (hB : B \/ wtS st + (xw (.node 6 a q false false false im [] [x, y]) - 1) <= 33554432) :
 Calls Tryz.prog 98 #[.pointer (some ⟨pb, 0, none⟩), .pointer (some ⟨b, o, none⟩)] w fun r w' => StepG B n0 w pb wb l tg st ((wForall :: binK q im t) ++ sComma :: u) (xw (.node 6 a q false false false im [] [x, y]) - 1) r w' := by
 have KU := hide (punder_calls (B := B) 6 a q im x y t u hx hy wForall sComma (by have := hq.few; omega) (by decide) (by decide) b o w hP hX hF hst hB); obtain ⟨_, _, _, _, _, _, _, e2, _⟩ := hX.open
 have hne : (q.toList == ([] : List UInt8)) = false := ne_empty (fun e => by have := hq.pos; rw [e] at this; exact absurd this (by decide)); clear hP hX hF hB hst
 go_enter Tryz.func98, Tryz.ntmps98
 go_wp2_with (go_at_call 97; refine KU.out.mono ?_)
 intro e w9 h9; have HF := hide h9
 rcases h9.form with rfl | ⟨fb, rfl⟩
 . clear h9 KU
   go_wp2_with fail
   go_end0; exact HF.out
 . clear h9 KU
   go_wp2_with fail
   exact ⟨rfl, HF.out⟩
end
section
variable {n0 pb : Nat} {wb : Wk} {tg : Bool} {l : List UInt8} {st : List Pc} {B : Prop}
theorem psort_calls (a : Nat) (lv : LvB) (hg : GoodAt lv 0) (b o : Nat) (w : World) (hP : PS w n0 pb wb l tg st) (hX : XAt w (fun b => b < n0) (sortX a lv) b o) (hst : st.length <= 33554432) (hB : B \/ wtS st + (xw (sortX a lv) - 1) <= 33554432) :
 Calls Tryz.prog 95 #[.pointer (some ⟨pb, 0, none⟩), .pointer (some ⟨b, o, none⟩)] w fun r w' => StepG B n0 w pb wb l tg st (sortK lv) (xw (sortX a lv) - 1) r w' := by
 have HP := hide hP; have HB := hide hB; have hlo := hP.lo; have hlt := hP.lt; obtain ⟨A, c0, A', c', hltb, _, _, _, _, _, _, _, c7, _, hkl, _⟩ := hX.open; obtain ⟨g, rfl, hL0⟩ := hkl 0 (by simp)
 have hL : LAt w (fun b => b < n0) lv g 0 := by simpa using hL0
 obtain ⟨A2, d2, hltg, hgn, e0, e1, e2, hkid⟩ := hL.open; have HL := hide hL; have HOl : Hid ((Pc.lv lv g 0 3).Ok w n0) := hide ⟨hL, hg, by omega⟩
 have hbo : ∀ W, Below w.heap.size w W -> W.cell? ⟨b, o + 7, none⟩ = some (.slice (some ⟨g, 0, none⟩) 1 c0) := fun W hW => cell_later hW (by simpa using c7)
 have hB0 : Below w.heap.size w (w.alloc (.cells #[.int .i64 0, .string ⟨#[]⟩, .slice none 0 0] 164)) := (Below.refl _ _).alloc (Nat.le_refl _) _
 have hbz := heap_alloc_new w (.cells #[.int .i64 0, .string ⟨#[]⟩, .slice none 0 0] 164); have z0 := cell_of hbz 0 rfl; have z1 := cell_of hbz 1 rfl; have z2 := cell_of hbz 2 rfl; have zf := frozen_of hbz
 have f0 := cell_later hB0 e0; have f1 := cell_later hB0 e1; have f2 := cell_later hB0 e2; have f7 := hbo _ hB0
 have hB1 : Below w.heap.size w (w.alloc (.cells #[.int .i64 (kndL lv : Nat), .string (nmL lv), .slice A2 (kidsL lv).length d2] 164)) := (Below.refl _ _).alloc (Nat.le_refl _) _
 have hbx := heap_alloc_new w (.cells #[.int .i64 (kndL lv : Nat), .string (nmL lv), .slice A2 (kidsL lv).length d2] 164)
 have hLb : LAt (w.alloc (.cells #[.int .i64 (kndL lv : Nat), .string (nmL lv), .slice A2 (kidsL lv).length d2] 164)) (fun _ => True) lv w.heap.size 0 := by
  obtain ⟨v, _, h3, hp⟩ := hL; obtain ⟨k, nm, A, n, cap, rfl, h0, h1, h2⟩ := h3; have q0 := h0.symm.trans e0; have q1 := h1.symm.trans e1; have q2 := h2.symm.trans e2
  simp at q0 q1 q2
  obtain ⟨rfl, rfl, rfl⟩ := q2; subst q0; subst q1; exact ⟨_, trivial, ⟨_, _, _, _, _, rfl, cell_of hbx 0 rfl, cell_of hbx 1 rfl, cell_of hbx 2 rfl⟩, hp.keep fun b hb _ => ⟨trivial, hB1.block b hb⟩⟩
 have KS : Hid (Calls Tryz.prog 113 #[.pointer (some ⟨w.heap.size, 0, none⟩)] (w.alloc (.cells #[.int .i64 (kndL lv : Nat), .string (nmL lv), .slice A2 (kidsL lv).length d2] 164)) fun e w' => e = .returned (.bool (isS lv)) /\ w' = (w.alloc (.cells #[.int .i64 (kndL lv : Nat), .string (nmL lv), .slice A2 (kidsL lv).length d2] 164))) := hide (isSuccessor_calls lv w.heap.size 0 _ hLb)
 have KW := kw_word; have hxw : xw (sortX a lv) = 24 + (lw lv + 2) := by rw [show sortX a lv = .node 2 a ⟨#[]⟩ false false false false [lv] [] from rfl, xw_node]; simp
 have hlw : 2 <= lw lv := lw_two lv; have HXw : Hid (1 < xw (sortX a lv) - 1 /\ 1 + ((lw lv + 3) + 0) < xw (sortX a lv) - 1) := hide (by omega); generalize xw (sortX a lv) - 1 = m at *
 clear hP hB hX hkl hL hL0 hLb hxw hlw; have w1e : ∃ W, W = w.alloc (.cells #[.int .i64 (kndL lv : Nat), .string (nmL lv), .slice A2 (kidsL lv).length d2] 164) := ⟨_, rfl⟩
 go_enter Tryz.func95, Tryz.ntmps95
 go_upto_block 0 with fail
 generalize (w.alloc (.cells #[.int .i64 (kndL lv : Nat), .string (nmL lv), .slice A2 (kidsL lv).length d2] 164)) = W1 at *; have HG := hide hbo; have HB1 := hide hB1; have b0 := cell_of hbx 0 rfl
 have b2 := cell_of hbx 2 rfl; clear hbo hB0 hbz z0 z1 z2 zf f0 f1 f2 f7 hbx c7
 cases hlv : lv with
 | zero =>
   rw [hlv] at b0
   simp only [kndL] at b0
   subst hlv; clear KS hkid b2; have hb2 := HB1.out
   go_wp2_with (go_at_call 50; refine (KW.out wProp W1).mono ?_)
   rintro e w3 ⟨rfl, hq3⟩; have hb3 : Below w.heap.size w w3 := hb2.trans (hq3.mono hb2.size)
   have KN := hide (next_stepG (B := B) (c := 1) (sortK .zero) m [Pc.tok wProp] _ rfl rfl HXw.out.1 (oks_cons (show wProp.size <= 100 by decide) oks_nil) (by simp) HP.out hb3 hst HB.out); clear hb3 hq3
   go_wp2_with (go_at_call 74; refine KN.out.mono ?_)
   intro e w9 h9; have HF := hide h9
   rcases h9.form with rfl | ⟨fb, rfl⟩
   . clear h9 KN
     go_wp2_with fail
     go_end0; exact HF.out
   . clear h9 KN
     go_wp2_with fail
     exact ⟨rfl, HF.out⟩
 | succ a =>
   rw [hlv] at b0 b2 KS; have hs : isS (.succ a : LvB) = true := rfl; rw [hs] at KS
   simp only [kndL] at b0
   simp only [kidsL, List.length_cons, List.length_nil] at b2
   subst hlv; obtain ⟨ga, rfl, hA⟩ := hkid 0 (by simp [kidsL]); obtain ⟨A3, d3, _, _, k0, _, _, _⟩ := hA.open
   have k0' : W1.cell? ⟨ga, 0, none⟩ = some (.int .i64 (kndL a : Nat)) := cell_later HB1.out (by simpa [kidsL] using k0); clear hkid hA
   by_cases ha : kndL a = 0
   . have ha' : a = .zero := by cases a <;> first | rfl | (simp [kndL] at ha)
     subst ha'
     simp only [kndL] at k0'
     have hb2 := HB1.out
     go_wp2_with (go_at_call 113; refine KS.out.mono ?_)
     intro r w1 h1; obtain ⟨rfl, hw1⟩ := h1; have hw1' := hw1.symm; subst hw1'; clear hw1
     go_wp2_with (go_at_call 50; refine (KW.out wType W1).mono ?_)
     rintro e w3 ⟨rfl, hq3⟩; have hb3 : Below w.heap.size w w3 := hb2.trans (hq3.mono hb2.size)
     have KN := hide (next_stepG (B := B) (c := 1) (sortK (.succ .zero)) m [Pc.tok wType] _ rfl rfl HXw.out.1 (oks_cons (show wType.size <= 100 by decide) oks_nil) (by simp) HP.out hb3 hst HB.out); clear hb3 hq3
     go_wp2_with (go_at_call 74; refine KN.out.mono ?_)
     intro e w9 h9; have HF := hide h9
     rcases h9.form with rfl | ⟨fb, rfl⟩
     . clear h9 KN
       go_wp2_with fail
       go_end0; exact HF.out
     . clear h9 KN
       go_wp2_with fail
       exact ⟨rfl, HF.out⟩
   . have hsk : sortK (.succ a) = wSort :: latK (.succ a) (lvK (.succ a) 0) := by cases a <;> first | rfl | (simp [kndL] at ha)
     have ha1 : (((kndL a : Nat) : Int) == 0) = false := by simp; omega
     go_wp2_with (go_at_call 113; refine KS.out.mono ?_)
     intro r w1 h1; obtain ⟨rfl, hw1⟩ := h1; have hw1' := hw1.symm; subst hw1'; clear hw1; have KWc := kwc_word
     have KLc : Hid (∀ (W : World), Calls Tryz.prog 102 #[.pointer (some ⟨g, 0, none⟩), .int .i64 3] W fun e w' => ∃ v, e = .returned (.agg v) /\ (v = #[.string ⟨#[]⟩, .pointer none, .pointer (some ⟨g, 0, none⟩), .int .i64 3, .bool false, .int .i64 0] /\ Below W.heap.size W w')) := hide fun W => (levelIn_calls .zero g 0 3 W).mono fun e w' ⟨h1, h2⟩ => ⟨_, h1, rfl, h2⟩
     have KNx : Hid (∀ W, Below w.heap.size w W -> Calls Tryz.prog 74 #[.pointer (some ⟨pb, 0, none⟩), .slice (some ⟨W.heap.size, 0, none⟩) 2 2] (W.alloc (.cells #[.string wSort, .pointer none, .pointer none, .int .i64 0, .bool false, .int .i64 0, .string ⟨#[]⟩, .pointer none, .pointer (some ⟨g, 0, none⟩), .int .i64 3, .bool false, .int .i64 0] 106)) fun e w' => StepG B n0 w pb wb l tg st (sortK (.succ a)) m e w') := hide fun W hW => next_stepG (B := B) (c := 2) (sortK (.succ a)) m [Pc.tok wSort, Pc.lv (.succ a) g 0 3] _ rfl (by rw [hsk]; simp [Pc.toks]) HXw.out.2 (oks_cons (show wSort.size <= 100 by decide) (oks_cons HOl.out oks_nil)) (by simp) HP.out hW hst HB.out
     have hb : Hid (Below w.heap.size w W1.drew) := hide HB1.out.drew; have S1 := HG.out _ hb.out
     go_wp2_with fail
     go_region_law (first
      | ((refine step_cop (f := 50) rfl ?_ (KWc.out wSort _) ?_; · (simp [go_sem]; done))
         rintro v w1 ⟨rfl, hq⟩; replace hb := hide (hb.out.trans (hq.mono hb.out.size)); have S1 := HG.out _ hb.out; clear hq)
      | ((refine step_cop (f := 102) rfl ?_ (KLc.out _) ?_; · (simp [go_sem]; done))
         rintro v w1 ⟨rfl, hq⟩; replace hb := hide (hb.out.trans (hq.mono hb.out.size)); have S1 := HG.out _ hb.out; clear hq)
      | (refine step_sg (f := 74) rfl ?_ (KNx.out _ hb.out) ?_ ?_
         . simp [go_sem]; done
         . intro fb w9 h9
           exact ⟨rfl, h9⟩
         intro w9 h9; have HF := hide h9; clear h9))
     all_goals
      clear KNx
      go_wp2_with fail
      go_end0; exact HF.out
 | param q =>
   rw [hlv] at b0 KS; have hs : isS (.param q : LvB) = false := rfl; rw [hs] at KS
   simp only [kndL] at b0
   subst hlv; have hsk : sortK (.param q) = wSort :: latK (.param q) (lvK (.param q) 0) := rfl; clear hkid b2
   go_wp2_with (go_at_call 113; refine KS.out.mono ?_)
   intro r w1 h1; obtain ⟨rfl, hw1⟩ := h1; have hw1' := hw1.symm; subst hw1'; clear hw1; have KWc := kwc_word
   have KLc : Hid (∀ (W : World), Calls Tryz.prog 102 #[.pointer (some ⟨g, 0, none⟩), .int .i64 3] W fun e w' => ∃ v, e = .returned (.agg v) /\ (v = #[.string ⟨#[]⟩, .pointer none, .pointer (some ⟨g, 0, none⟩), .int .i64 3, .bool false, .int .i64 0] /\ Below W.heap.size W w')) := hide fun W => (levelIn_calls .zero g 0 3 W).mono fun e w' ⟨h1, h2⟩ => ⟨_, h1, rfl, h2⟩
   have KNx : Hid (∀ W, Below w.heap.size w W -> Calls Tryz.prog 74 #[.pointer (some ⟨pb, 0, none⟩), .slice (some ⟨W.heap.size, 0, none⟩) 2 2] (W.alloc (.cells #[.string wSort, .pointer none, .pointer none, .int .i64 0, .bool false, .int .i64 0, .string ⟨#[]⟩, .pointer none, .pointer (some ⟨g, 0, none⟩), .int .i64 3, .bool false, .int .i64 0] 106)) fun e w' => StepG B n0 w pb wb l tg st (sortK (.param q)) m e w') := hide fun W hW => next_stepG (B := B) (c := 2) (sortK (.param q)) m [Pc.tok wSort, Pc.lv (.param q) g 0 3] _ rfl (by rw [hsk]; simp [Pc.toks]) HXw.out.2 (oks_cons (show wSort.size <= 100 by decide) (oks_cons HOl.out oks_nil)) (by simp) HP.out hW hst HB.out
   have hb : Hid (Below w.heap.size w W1.drew) := hide HB1.out.drew; have S1 := HG.out _ hb.out
   go_wp2_with fail
   go_region_law (first
    | ((refine step_cop (f := 50) rfl ?_ (KWc.out wSort _) ?_; · (simp [go_sem]; done))
       rintro v w1 ⟨rfl, hq⟩; replace hb := hide (hb.out.trans (hq.mono hb.out.size)); have S1 := HG.out _ hb.out; clear hq)
    | ((refine step_cop (f := 102) rfl ?_ (KLc.out _) ?_; · (simp [go_sem]; done))
       rintro v w1 ⟨rfl, hq⟩; replace hb := hide (hb.out.trans (hq.mono hb.out.size)); have S1 := HG.out _ hb.out; clear hq)
    | (refine step_sg (f := 74) rfl ?_ (KNx.out _ hb.out) ?_ ?_
       . simp [go_sem]; done
       . intro fb w9 h9
         exact ⟨rfl, h9⟩
       intro w9 h9; have HF := hide h9; clear h9))
   all_goals
    clear KNx
    go_wp2_with fail
    go_end0; exact HF.out
 | max a d =>
   rw [hlv] at b0 KS; have hs : isS (.max a d : LvB) = false := rfl; rw [hs] at KS
   simp only [kndL] at b0
   subst hlv; have hsk : sortK (.max a d) = wSort :: latK (.max a d) (lvK (.max a d) 0) := rfl; clear hkid b2
   go_wp2_with (go_at_call 113; refine KS.out.mono ?_)
   intro r w1 h1; obtain ⟨rfl, hw1⟩ := h1; have hw1' := hw1.symm; subst hw1'; clear hw1; have KWc := kwc_word
   have KLc : Hid (∀ (W : World), Calls Tryz.prog 102 #[.pointer (some ⟨g, 0, none⟩), .int .i64 3] W fun e w' => ∃ v, e = .returned (.agg v) /\ (v = #[.string ⟨#[]⟩, .pointer none, .pointer (some ⟨g, 0, none⟩), .int .i64 3, .bool false, .int .i64 0] /\ Below W.heap.size W w')) := hide fun W => (levelIn_calls .zero g 0 3 W).mono fun e w' ⟨h1, h2⟩ => ⟨_, h1, rfl, h2⟩
   have KNx : Hid (∀ W, Below w.heap.size w W -> Calls Tryz.prog 74 #[.pointer (some ⟨pb, 0, none⟩), .slice (some ⟨W.heap.size, 0, none⟩) 2 2] (W.alloc (.cells #[.string wSort, .pointer none, .pointer none, .int .i64 0, .bool false, .int .i64 0, .string ⟨#[]⟩, .pointer none, .pointer (some ⟨g, 0, none⟩), .int .i64 3, .bool false, .int .i64 0] 106)) fun e w' => StepG B n0 w pb wb l tg st (sortK (.max a d)) m e w') := hide fun W hW => next_stepG (B := B) (c := 2) (sortK (.max a d)) m [Pc.tok wSort, Pc.lv (.max a d) g 0 3] _ rfl (by rw [hsk]; simp [Pc.toks]) HXw.out.2 (oks_cons (show wSort.size <= 100 by decide) (oks_cons HOl.out oks_nil)) (by simp) HP.out hW hst HB.out
   have hb : Hid (Below w.heap.size w W1.drew) := hide HB1.out.drew; have S1 := HG.out _ hb.out
   go_wp2_with fail
   go_region_law (first
    | ((refine step_cop (f := 50) rfl ?_ (KWc.out wSort _) ?_; · (simp [go_sem]; done))
       rintro v w1 ⟨rfl, hq⟩; replace hb := hide (hb.out.trans (hq.mono hb.out.size)); have S1 := HG.out _ hb.out; clear hq)
    | ((refine step_cop (f := 102) rfl ?_ (KLc.out _) ?_; · (simp [go_sem]; done))
       rintro v w1 ⟨rfl, hq⟩; replace hb := hide (hb.out.trans (hq.mono hb.out.size)); have S1 := HG.out _ hb.out; clear hq)
    | (refine step_sg (f := 74) rfl ?_ (KNx.out _ hb.out) ?_ ?_
       . simp [go_sem]; done
       . intro fb w9 h9
         exact ⟨rfl, h9⟩
       intro w9 h9; have HF := hide h9; clear h9))
   all_goals
    clear KNx
    go_wp2_with fail
    go_end0; exact HF.out
 | imax a d =>
   rw [hlv] at b0 KS; have hs : isS (.imax a d : LvB) = false := rfl; rw [hs] at KS
   simp only [kndL] at b0
   subst hlv; have hsk : sortK (.imax a d) = wSort :: latK (.imax a d) (lvK (.imax a d) 0) := rfl; clear hkid b2
   go_wp2_with (go_at_call 113; refine KS.out.mono ?_)
   intro r w1 h1; obtain ⟨rfl, hw1⟩ := h1; have hw1' := hw1.symm; subst hw1'; clear hw1; have KWc := kwc_word
   have KLc : Hid (∀ (W : World), Calls Tryz.prog 102 #[.pointer (some ⟨g, 0, none⟩), .int .i64 3] W fun e w' => ∃ v, e = .returned (.agg v) /\ (v = #[.string ⟨#[]⟩, .pointer none, .pointer (some ⟨g, 0, none⟩), .int .i64 3, .bool false, .int .i64 0] /\ Below W.heap.size W w')) := hide fun W => (levelIn_calls .zero g 0 3 W).mono fun e w' ⟨h1, h2⟩ => ⟨_, h1, rfl, h2⟩
   have KNx : Hid (∀ W, Below w.heap.size w W -> Calls Tryz.prog 74 #[.pointer (some ⟨pb, 0, none⟩), .slice (some ⟨W.heap.size, 0, none⟩) 2 2] (W.alloc (.cells #[.string wSort, .pointer none, .pointer none, .int .i64 0, .bool false, .int .i64 0, .string ⟨#[]⟩, .pointer none, .pointer (some ⟨g, 0, none⟩), .int .i64 3, .bool false, .int .i64 0] 106)) fun e w' => StepG B n0 w pb wb l tg st (sortK (.imax a d)) m e w') := hide fun W hW => next_stepG (B := B) (c := 2) (sortK (.imax a d)) m [Pc.tok wSort, Pc.lv (.imax a d) g 0 3] _ rfl (by rw [hsk]; simp [Pc.toks]) HXw.out.2 (oks_cons (show wSort.size <= 100 by decide) (oks_cons HOl.out oks_nil)) (by simp) HP.out hW hst HB.out
   have hb : Hid (Below w.heap.size w W1.drew) := hide HB1.out.drew; have S1 := HG.out _ hb.out
   go_wp2_with fail
   go_region_law (first
    | ((refine step_cop (f := 50) rfl ?_ (KWc.out wSort _) ?_; · (simp [go_sem]; done))
       rintro v w1 ⟨rfl, hq⟩; replace hb := hide (hb.out.trans (hq.mono hb.out.size)); have S1 := HG.out _ hb.out; clear hq)
    | ((refine step_cop (f := 102) rfl ?_ (KLc.out _) ?_; · (simp [go_sem]; done))
       rintro v w1 ⟨rfl, hq⟩; replace hb := hide (hb.out.trans (hq.mono hb.out.size)); have S1 := HG.out _ hb.out; clear hq)
    | (refine step_sg (f := 74) rfl ?_ (KNx.out _ hb.out) ?_ ?_
       . simp [go_sem]; done
       . intro fb w9 h9
         exact ⟨rfl, h9⟩
       intro w9 h9; have HF := hide h9; clear h9))
   all_goals
    clear KNx
    go_wp2_with fail
    go_end0; exact HF.out
end
end Go.Proofs.YtockffblncdikaaGreatDoor
