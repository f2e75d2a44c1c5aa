/- LevelWorthy holds, as a tied card: what the listed variables give the walk; the row; the card. Its listed variables are tied to the program's text (over the pruned copy of the project that this seat holds). -/
import Derived.Test.YtpdoegjddiaaoaaDoorScan
import Derived.Test.YtpdoegjddiaaoaaDoorRows
import Derived.Test.YtpdoegjddiaaoaaDoorWalk
import Derived.LaidSub
import Derived.ProofKit
import Derived.OpenShut
import Derived.ShutString
import Derived.ChangeOld
import Derived.Below
import Derived.Deep.Slices
import Derived.LaidMore
import Derived.Stop.Joined
import Derived.Test.YtpdoegjddiaaoaaDoorTie
import Derived.Test.YtpdoegjddiaaoaaDoorCards
import Derived.SevenTiedAt
namespace Go.Proofs.YtpdoegjddiaaoaaDoor
open Go.ChangeShapes Go.WideShapes Go.ChangeAt Go.RowKit
open Go.ChangeMaps (open_string shut_string)

theorem cells3 : Tryd.prog.cellsOf 3 = 1 := by kernel_rfl
theorem cells4 : Tryd.prog.cellsOf 4 = 1 := by kernel_rfl
theorem cells5 : Tryd.prog.cellsOf 5 = 1 := by kernel_rfl
theorem cells9 : Tryd.prog.cellsOf 9 = 1 := by kernel_rfl
theorem gShapes : Tryd.prog.globalNamed "provekernel/notation.levelShapes" = some 0 := by kernel_rfl
theorem tShapes : (Tryd.prog.globals[0]?).map (·.type) = some 78 := by kernel_rfl
theorem gSpans : Tryd.prog.globalNamed "provekernel/notation.nameSpans" = some 1 := by kernel_rfl
theorem tSpans : (Tryd.prog.globals[1]?).map (·.type) = some 112 := by kernel_rfl
theorem cells77 : Tryd.prog.cellsOf 77 = 2 := by kernel_rfl
theorem cells78 : Tryd.prog.cellsOf 78 = 10 := by kernel_rfl
theorem cells111 : Tryd.prog.cellsOf 111 = 3 := by kernel_rfl
theorem cells112 : Tryd.prog.cellsOf 112 = 18 := by kernel_rfl

set_option maxRecDepth 100000 in
/-- One row of the table, out of its reading. -/
theorem shape_cells {W : World} {n : Nat} {cs : List Value} {d : DataW Unit × List MemPlace} (ht : DataW.trod (fun _ => ()) Tryd.prog W 0 (fun _ => true) false n 77 cs = some d) :
    ∃ (s : ByteArray) (k : Int), cs = [.string s, .int .i64 k] ∧ d.1 = .agg [.lit (.string s.data.toList), .lit (.int .i64 k)] := by
  obtain ⟨xs, m, _, hd, hlen, hxs, hf⟩ := DataW.trod_struct Tryd.underlying77 ht
  rw [cells77] at hlen
  match cs, hlen with
  | [v0, v1], _ =>
    match xs, hxs with
    | [z0, z1], _ =>
      have f0 : DataW.trod (fun _ => ()) Tryd.prog W 0 (fun _ => true) false m 9 (List.take (Tryd.prog.cellsOf 9) (List.drop 0 [v0, v1])) = some z0 := hf 0 _ rfl
      rw [cells9] at f0
      have f1 : DataW.trod (fun _ => ()) Tryd.prog W 0 (fun _ => true) false m 3 (List.take (Tryd.prog.cellsOf 3) (List.drop 1 [v0, v1])) = some z1 := hf 1 _ rfl
      rw [cells3] at f1
      obtain ⟨s, h0, e0, _⟩ := DataW.trod_string Tryd.underlying9 f0
      obtain ⟨k, h1, e1, _⟩ := DataW.trod_int Tryd.underlying3 f1
      simp at h0 h1
      subst h0 h1
      exact ⟨s, k, rfl, by rw [hd, e0, e1]; rfl⟩

set_option maxRecDepth 100000 in
/-- One span, out of its reading. -/
theorem span_cells {W : World} {n : Nat} {cs : List Value} {d : DataW Unit × List MemPlace} (ht : DataW.trod (fun _ => ()) Tryd.prog W 0 (fun _ => true) false n 111 cs = some d) :
    ∃ (j k : Int) (b : Bool), cs = [.int .u8 j, .int .u8 k, .bool b] ∧ d.1 = .agg [.lit (.int .u8 j), .lit (.int .u8 k), .lit (.bool b)] := by
  obtain ⟨xs, m, _, hd, hlen, hxs, hf⟩ := DataW.trod_struct Tryd.underlying111 ht
  rw [cells111] at hlen
  match cs, hlen with
  | [v0, v1, v2], _ =>
    match xs, hxs with
    | [z0, z1, z2], _ =>
      have f0 : DataW.trod (fun _ => ()) Tryd.prog W 0 (fun _ => true) false m 5 (List.take (Tryd.prog.cellsOf 5) (List.drop 0 [v0, v1, v2])) = some z0 := hf 0 _ rfl
      rw [cells5] at f0
      have f1 : DataW.trod (fun _ => ()) Tryd.prog W 0 (fun _ => true) false m 5 (List.take (Tryd.prog.cellsOf 5) (List.drop 1 [v0, v1, v2])) = some z1 := hf 1 _ rfl
      rw [cells5] at f1
      have f2 : DataW.trod (fun _ => ()) Tryd.prog W 0 (fun _ => true) false m 4 (List.take (Tryd.prog.cellsOf 4) (List.drop 2 [v0, v1, v2])) = some z2 := hf 2 _ rfl
      rw [cells4] at f2
      obtain ⟨j, h0, e0, _⟩ := DataW.trod_int Tryd.underlying5 f0
      obtain ⟨k, h1, e1, _⟩ := DataW.trod_int Tryd.underlying5 f1
      obtain ⟨b, h2, e2⟩ := DataW.trod_bool Tryd.underlying4 f2
      simp at h0 h1 h2
      subst h0 h1 h2
      exact ⟨j, k, b, rfl, by rw [hd, e0, e1, e2]; rfl⟩

theorem str_of {s : ByteArray} {l : List UInt8} (h : s.data.toList = l) : s = ⟨l.toArray⟩ := by
  cases s; simp at h; subst h; simp

/-- The two variables that the walk reads, of those that the row lists. -/
abbrev two : List (String × DataW Unit) := [("provekernel/notation.levelShapes", Rows.laid_provekernel_notation_levelShapes), ("provekernel/notation.nameSpans", Rows.laid_provekernel_notation_nameSpans)]
theorem two_of : Rows.levelWorthyRow.laid.filter (fun x => x.1 == "provekernel/notation.levelShapes" || x.1 == "provekernel/notation.nameSpans") = two := by
  simp [Rows.levelWorthyRow, two]

set_option maxRecDepth 100000 in
/-- What the condition gives the walk: the two tables. -/
theorem of_laid {W : World} (h : laidMetH Tryd.prog Rows.levelWorthyRow.laid W) : Tabs W := by
  have h := h.filter (fun x => x.1 == "provekernel/notation.levelShapes" || x.1 == "provekernel/notation.nameSpans")
  rw [two_of, MakeChecks.laidMetH_plain _ _ _ (by kernel_rfl)] at h
  obtain ⟨ps, ⟨g0, t0, cs0, f0, p0, q0, hg0, ht0, hv0, hd0, ⟨g1, t1, cs1, f1, p1, q1, hg1, ht1, hv1, hd1, _, _⟩, _⟩, _, _⟩ := h
  obtain rfl := Option.some.inj (gShapes.symm.trans hg0)
  obtain rfl := Option.some.inj (tShapes.symm.trans ht0)
  obtain rfl := Option.some.inj (gSpans.symm.trans hg1)
  obtain rfl := Option.some.inj (tSpans.symm.trans ht1)
  have hT : Table W ∧ Parts W := by
    obtain ⟨xs, m, _, hx, hlen, hn, hel⟩ := DataW.trod_array Tryd.underlying78 hd0
    rw [cells78] at hlen
    have hc := World.var?_cell hg0 hv0
    simp only [Prod.mk.injEq] at hx
    match xs, hn with
    | [x0, x1, x2, x3, x4], _ =>
      obtain ⟨l⟩ := cs0
      match l, hlen with
      | [v0, v1, v2, v3, v4, v5, v6, v7, v8, v9], _ =>
        have r0 := hel 0 (by decide)
        have r1 := hel 1 (by decide)
        have r2 := hel 2 (by decide)
        have r3 := hel 3 (by decide)
        have r4 := hel 4 (by decide)
        rw [cells77] at r0 r1 r2 r3 r4
        obtain ⟨s0, j0, c0, d0⟩ := shape_cells (d := x0) r0
        obtain ⟨s1, j1, c1, d1⟩ := shape_cells (d := x1) r1
        obtain ⟨s2, j2, c2, d2⟩ := shape_cells (d := x2) r2
        obtain ⟨s3, j3, c3, d3⟩ := shape_cells (d := x3) r3
        obtain ⟨s4, j4, c4, d4⟩ := shape_cells (d := x4) r4
        simp at c0 c1 c2 c3 c4
        have hx1 := hx.1
        simp only [List.map_cons, List.map_nil, d0, d1, d2, d3, d4, Rows.laid_provekernel_notation_levelShapes, DataW.agg.injEq, List.cons.injEq, DataW.lit.injEq, Lit.string.injEq, Lit.int.injEq, and_true, true_and] at hx1
        obtain ⟨⟨e0, i0⟩, ⟨e1, i1⟩, ⟨e2, i2⟩, ⟨e3, i3⟩, ⟨e4, i4⟩⟩ := hx1
        refine ⟨⟨?_, ?_, ?_, ?_, ?_⟩, ⟨?_, ?_, ?_, ?_, ?_⟩⟩
        · rw [hc]; simp [c0.1, str_of e0.symm]
        · rw [hc]; simp [c1.1, str_of e1.symm]
        · rw [hc]; simp [c2.1, str_of e2.symm]
        · rw [hc]; simp [c3.1, str_of e3.symm]
        · rw [hc]; simp [c4.1, str_of e4.symm]
        · rw [hc]; simp [c0.2, i0]
        · rw [hc]; simp [c1.2, i1]
        · rw [hc]; simp [c2.2, i2]
        · rw [hc]; simp [c3.2, i3]
        · rw [hc]; simp [c4.2, i4]
  have hS : Spans W := by
    obtain ⟨xs, m, _, hx, hlen, hn, hel⟩ := DataW.trod_array Tryd.underlying112 hd1
    rw [cells112] at hlen
    have hc := World.var?_cell hg1 hv1
    simp only [Prod.mk.injEq] at hx
    match xs, hn with
    | [x0, x1, x2, x3, x4, x5], _ =>
      obtain ⟨l⟩ := cs1
      match l, hlen with
      | [v0, v1, v2, v3, v4, v5, v6, v7, v8, v9, v10, v11, v12, v13, v14, v15, v16, v17], _ =>
        have r0 := hel 0 (by decide)
        have r1 := hel 1 (by decide)
        have r2 := hel 2 (by decide)
        have r3 := hel 3 (by decide)
        have r4 := hel 4 (by decide)
        have r5 := hel 5 (by decide)
        rw [cells111] at r0 r1 r2 r3 r4 r5
        obtain ⟨j0, k0, b0, c0, d0⟩ := span_cells (d := x0) r0
        obtain ⟨j1, k1, b1, c1, d1⟩ := span_cells (d := x1) r1
        obtain ⟨j2, k2, b2, c2, d2⟩ := span_cells (d := x2) r2
        obtain ⟨j3, k3, b3, c3, d3⟩ := span_cells (d := x3) r3
        obtain ⟨j4, k4, b4, c4, d4⟩ := span_cells (d := x4) r4
        obtain ⟨j5, k5, b5, c5, d5⟩ := span_cells (d := x5) r5
        simp at c0 c1 c2 c3 c4 c5
        have hx1 := hx.1
        simp only [List.map_cons, List.map_nil, d0, d1, d2, d3, d4, d5, Rows.laid_provekernel_notation_nameSpans, DataW.agg.injEq, List.cons.injEq, DataW.lit.injEq, Lit.bool.injEq, Lit.int.injEq, and_true, true_and] at hx1
        obtain ⟨⟨i0, n0, q0⟩, ⟨i1, n1, q1⟩, ⟨i2, n2, q2⟩, ⟨i3, n3, q3⟩, ⟨i4, n4, q4⟩, ⟨i5, n5, q5⟩⟩ := hx1
        obtain ⟨a0, a1, a2⟩ := c0
        obtain ⟨a3, a4, a5⟩ := c1
        obtain ⟨a6, a7, a8⟩ := c2
        obtain ⟨a9, a10, a11⟩ := c3
        obtain ⟨a12, a13, a14⟩ := c4
        obtain ⟨a15, a16, a17⟩ := c5
        refine ⟨?_, ?_, ?_, ?_, ?_, ?_, ?_, ?_, ?_, ?_, ?_, ?_, ?_, ?_, ?_, ?_, ?_, ?_⟩
        · rw [hc]; simp [a0, i0]
        · rw [hc]; simp [a1, n0]
        · rw [hc]; simp [a2, q0]
        · rw [hc]; simp [a3, i1]
        · rw [hc]; simp [a4, n1]
        · rw [hc]; simp [a5, q1]
        · rw [hc]; simp [a6, i2]
        · rw [hc]; simp [a7, n2]
        · rw [hc]; simp [a8, q2]
        · rw [hc]; simp [a9, i3]
        · rw [hc]; simp [a10, n3]
        · rw [hc]; simp [a11, q3]
        · rw [hc]; simp [a12, i4]
        · rw [hc]; simp [a13, n4]
        · rw [hc]; simp [a14, q4]
        · rw [hc]; simp [a15, i5]
        · rw [hc]; simp [a16, n5]
        · rw [hc]; simp [a17, q5]
  exact ⟨hT.1, hS, hT.2⟩

/-- The heap that the door's own run leaves meets the condition. -/
theorem door_met (os : Os) (args : Array Value) : laidMetH Tryd.prog Rows.levelWorthyRow.laid ((World.doorLaid Tryd.prog 400 os).forCall (fun _ _ => 0) ⟨#[], args, []⟩).memory :=
  laidMetH_of_parts3 (fuel := 8) (laidMet_of_run' 8 (by kernel_rfl) (by kernel_rfl)) (by kernel_rfl) (by kernel_rfl)



theorem own : ownKnob Tryd.prog.godebug = none := by kernel_rfl
theorem laidOut : laidOutB Tryd.prog = true := by kernel_rfl

theorem fits_wf {x : Int} (h : (Lit.int .i64 x).wf = true) : Fits x := by
  unfold Lit.wf at h
  rw [Bool.and_eq_true, decide_eq_true_eq, decide_eq_true_eq] at h
  have e1 : IntKind.i64.min = -9223372036854775808 := by decide
  have e2 : IntKind.i64.max = 9223372036854775807 := by decide
  rw [e1, e2] at h
  exact h

theorem cells25 : Tryd.prog.cellsOf 25 = 6 := by kernel_rfl
set_option maxRecDepth 100000 in
/-- A step's six cells, out of its reading. -/
theorem op_cells {H : Type} {enc : TypeId × Value → H} {W : World} {base n : Nat} {spare : Nat → Bool} {held : Bool} {cs : List Value} {d : DataW H × List MemPlace} (ht : DataW.trod enc Tryd.prog W base spare held n 25 cs = some d) :
    ∃ (kd x y : Int) (S T U : ByteArray), cs = [.int .i64 kd, .string S, .string T, .string U, .int .i64 x, .int .i64 y] ∧ S.size ≤ maxLen ∧ T.size ≤ maxLen ∧ Fits x ∧ Fits y := by
  obtain ⟨xs, m, _, _, hlen, hxs, hf⟩ := DataW.trod_struct Tryd.underlying25 ht
  rw [cells25] at hlen
  match cs, hlen with
  | [v0, v1, v2, v3, v4, v5], _ =>
    have g : ∀ i, i < 6 → ∃ z, xs[i]? = some z := fun i hi => ⟨xs[i]'(by rw [hxs]; exact hi), List.getElem?_eq_getElem _⟩
    obtain ⟨z0, e0⟩ := g 0 (by omega)
    obtain ⟨z1, e1⟩ := g 1 (by omega)
    obtain ⟨z2, e2⟩ := g 2 (by omega)
    obtain ⟨z3, e3⟩ := g 3 (by omega)
    obtain ⟨z4, e4⟩ := g 4 (by omega)
    obtain ⟨z5, e5⟩ := g 5 (by omega)
    have f0 : DataW.trod enc Tryd.prog W base spare held m 3 (List.take (Tryd.prog.cellsOf 3) (List.drop 0 [v0, v1, v2, v3, v4, v5])) = some z0 := (hf 0 _ rfl).trans e0
    rw [cells3] at f0
    have f1 : DataW.trod enc Tryd.prog W base spare held m 9 (List.take (Tryd.prog.cellsOf 9) (List.drop 1 [v0, v1, v2, v3, v4, v5])) = some z1 := (hf 1 _ rfl).trans e1
    rw [cells9] at f1
    have f2 : DataW.trod enc Tryd.prog W base spare held m 9 (List.take (Tryd.prog.cellsOf 9) (List.drop 2 [v0, v1, v2, v3, v4, v5])) = some z2 := (hf 2 _ rfl).trans e2
    rw [cells9] at f2
    have f3 : DataW.trod enc Tryd.prog W base spare held m 9 (List.take (Tryd.prog.cellsOf 9) (List.drop 3 [v0, v1, v2, v3, v4, v5])) = some z3 := (hf 3 _ rfl).trans e3
    rw [cells9] at f3
    have f4 : DataW.trod enc Tryd.prog W base spare held m 3 (List.take (Tryd.prog.cellsOf 3) (List.drop 4 [v0, v1, v2, v3, v4, v5])) = some z4 := (hf 4 _ rfl).trans e4
    rw [cells3] at f4
    have f5 : DataW.trod enc Tryd.prog W base spare held m 3 (List.take (Tryd.prog.cellsOf 3) (List.drop 5 [v0, v1, v2, v3, v4, v5])) = some z5 := (hf 5 _ rfl).trans e5
    rw [cells3] at f5
    obtain ⟨kd, h0, _⟩ := DataW.trod_int Tryd.underlying3 f0
    obtain ⟨S, h1, _, hS⟩ := DataW.trod_string Tryd.underlying9 f1
    obtain ⟨T, h2, _, hT⟩ := DataW.trod_string Tryd.underlying9 f2
    obtain ⟨U, h3, _, _⟩ := DataW.trod_string Tryd.underlying9 f3
    obtain ⟨x, h4, _, hx⟩ := DataW.trod_int Tryd.underlying3 f4
    obtain ⟨y, h5, _, hy⟩ := DataW.trod_int Tryd.underlying3 f5
    simp at h0 h1 h2 h3 h4 h5
    subst h0 h1 h2 h3 h4 h5
    exact ⟨kd, x, y, S, T, U, rfl, hS, hT, fits_wf hx, fits_wf hy⟩

set_option maxRecDepth 100000 in
theorem lifted (os : Os) (started : os.Started) (H : Type) (enc : TypeId × Value → H) :
    ReturnsInHanded {} Tryd.checked os 3 .any (fun w args => (Rows.levelWorthySpec.pre enc Tryd.prog Tryd.f3 [] false w args ∧ laidMetH Tryd.prog Rows.levelWorthyRow.laid w) ∧ sizedMet enc Tryd.prog Tryd.f3 (OpenSpec.ofChange Rows.levelWorthySpec) false w args)
      (Rows.levelWorthySpec.post enc Tryd.prog Tryd.f3 false true false false) := by
  refine returnsInHanded_of_change_and (C := Tryd.checked) (X := fun w _ => laidMetH Tryd.prog Rows.levelWorthyRow.laid w) (fun _ _ _ hh h => h.of_heap hh) own started (by kernel_rfl) Tryd.func3
    (ChangeSpec.witness_shaped (enc := enc) (C := Tryd.checked) (os := os) (X := fun w _ => laidMetH Tryd.prog Rows.levelWorthyRow.laid w) false (World.doorLaid Tryd.prog 400 os) #[.slice none 0 0] 8 rfl (World.shaped_of_RefB (by kernel_rfl) (by kernel_rfl)) (by kernel_rfl) (by kernel_rfl) (by kernel_rfl) (door_met os _)) ?_
  intro W base args ds gs before hval0 hW _ _ hL _
  have hval : ∀ (j : Nat) t v, Tryd.f3.params[j]? = some t → args[j]? = some v → Value.okWide Tryd.prog W .any base t v := hval0
  have hW' := hW
  obtain ⟨p, q, hA0, hV, rfl, hfz, hnd⟩ := hW
  have hA : DataW.TrodAll enc Tryd.prog W 0 (fun _ => true) true Tryd.f3.params.toList args.toList ds p := hA0
  rw [Tryd.params3] at hA hval
  obtain ⟨v0, vs0, d0, ds0, p0, q0, hargs, rfl, rfl, h0, r0⟩ := trodAll_cons hA
  obtain ⟨rfl, rfl, rfl⟩ := trodAll_nil r0
  obtain rfl : args = #[v0] := by cases args; simp_all
  obtain ⟨rfl, rfl⟩ := trodVars_none hV
  obtain ⟨a0, len0, cap0, rfl⟩ := okWide_slice Tryd.underlying22 (hval 0 22 v0 rfl rfl)
  have k0 := h0
  have lt0 : ∀ x ∈ p0, x.block < W.heap.size := by obtain ⟨m, hm⟩ := k0; exact DataW.trod_lt m _ _ _ hm
  have w0 : IsOps W a0 len0 := by
    obtain ⟨fuel, hf⟩ := h0
    rcases Deep.open_slice Tryd.underlying22 hf with ⟨hcs, _⟩ | ⟨x, l, c, m, n, D, Pl, hcs, _, hl, hm, hmm, _, hel⟩
    · simp [Value.cells] at hcs
      obtain ⟨rfl, rfl, rfl⟩ := hcs
      exact ⟨by unfold maxLen; omega, fun i hi => absurd hi (by omega)⟩
    · simp [Value.cells] at hcs
      obtain ⟨rfl, rfl, rfl⟩ := hcs
      refine ⟨by omega, fun i hi => ?_⟩
      have hmi : ∀ j, j < len0 → j < m := fun j hj => by rw [hmm]; simp; omega
      obtain ⟨b, off, spot⟩ := x
      have hspot : spot = none := by
        obtain ⟨cs, hc, ht⟩ := hel 0 (hmi 0 (by omega))
        obtain ⟨kd, x, y, S, T, U, rfl, _⟩ := op_cells ht
        rw [cells25] at hc
        have := (World.cells?_some hc).2.2 0 (by omega)
        simpa [Addr.add] using World.cell?_spot this
      subst hspot
      obtain ⟨cs, hc, ht⟩ := hel i (hmi i hi)
      obtain ⟨kd, x, y, S, T, U, rfl, hS, hT, hx, hy⟩ := op_cells ht
      rw [cells25] at hc
      have hcell := (World.cells?_some hc).2.2
      have g0 := hcell 0 (by omega)
      have g1 := hcell 1 (by omega)
      have g2 := hcell 2 (by omega)
      have g3 := hcell 3 (by omega)
      have g4 := hcell 4 (by omega)
      have g5 := hcell 5 (by omega)
      simp only [Addr.add_lit] at g0 g1 g2 g3 g4 g5
      exact ⟨b, off, kd, x, y, S, T, U, rfl, hS, hT, hx, hy, g0, g1, g2, g3, g4, g5⟩
  clear hA0 hval0
  refine (worthy_walk a0 len0 cap0 W w0 (of_laid hL)).mono fun e W' ⟨he, bel⟩ => ?_
  subst he
  exact ⟨_, rfl, _, _, _, [], _, [], hW', trodAll_mk1 (shut_bool Tryd.underlying4 _), (trodAll_cons_mk (Below.trod laidOut (by kernel_rfl) (of_decide_eq_true (by kernel_rfl)) k0 bel lt0) trodAll_mk0), rfl, bel.frame _, fun h => by cases h⟩

theorem row_holds : Rows.LevelWorthySaid :=
  OpenClaim.holds_of_wide 3 Tryd.f3 rfl rfl rfl rfl rfl rfl rfl ⟨rfl, rfl, rfl, rfl, rfl⟩ rfl rfl rfl rfl rfl (by kernel_rfl) Tryd.func3 (by kernel_rfl)
    (of_decide_eq_true (by kernel_rfl)) (by unfold Func.isWrapper; first | (rw [if_pos (by decide +kernel)]; kernel_rfl) | (rw [if_neg (by decide +kernel)]; exact ⟨rfl, rfl⟩))
    (fun os started H enc _ => lifted os started H enc)
#print axioms row_holds



theorem levelWorthy_holds : Rows.LevelWorthyCardSaid :=
  Claim7.holds_tied_plain_at .later [] [.data, .data, .data, .sentinel, .sentinel, .data, .data] true (true, "87c58219565a7cc297f11c2e6d9e634333c4d8cdf78dc008642a4f1e66fbe323") true
    row_holds (fun _ h => by cases h) (by kernel_rfl) (fun _ h => by cases h) levelWorthy_row_tie rfl ⟨rfl, rfl⟩ (by kernel_rfl) rfl
    (fun f fn hf hfn => by
      obtain rfl : f = 3 := Option.some.inj ((show Tryd.prog.funcNamed "provekernel/provekernellaw.LevelWorthy" = some 3 by kernel_rfl).symm.trans hf) |>.symm
      obtain rfl : fn = Tryd.f3 := (Option.some.inj (Tryd.func3.symm.trans hfn)).symm
      exact ⟨by kernel_rfl, fun j t ht => by
        rw [Tryd.params3] at ht
        have hm : t ∈ [22] := by simpa using Array.mem_of_getElem? ht
        have hall : ([22].all fun u => !Tryd.prog.wantsStandIn u) = true := by kernel_rfl
        exact (show Tryd.prog.wantsStandIn t = false by simpa using List.all_eq_true.1 hall t hm)⟩)
    (by kernel_rfl)
#print axioms levelWorthy_holds


end Go.Proofs.YtpdoegjddiaaoaaDoor
