/- Files holds: for every script the statement's function answers true and leaves the script as it was: of every text the program's Parse tells the declarations, or the fault with its code and place, that the document tells, and Print and PrintAll of what was read are the document's texts. The conditions: the tables that the program's text lays stand as laid when the call begins (tied to the text by the given tie). -/
import Derived.Test.YtjlibnijecdgcaaGreatDoorDLaw
import Derived.Test.YtjlibnijecdgcaaGreatDoorCards
import Derived.Test.YtjlibnijecdgcaaGreatDoorTie
import Derived.LaidHandle
import Derived.LaidSub
import Derived.ProofKit
import Derived.OpenShut
import Derived.ShutString
import Derived.ChangeOld
import Derived.Below
import Derived.Deep.Slices
import Derived.LaidMore
import Derived.Stop.Joined
import Derived.SevenTiedAt
import Derived.Laws.EntriesVeiled

namespace Go.Proofs.YtjlibnijecdgcaaGreatDoor
open Go.ChangeShapes Go.WideShapes Go.ChangeAt Go.RowKit
open Go.ChangeMaps (open_string shut_string)

theorem cells3 : Tryz.prog.cellsOf 3 = 1 := by kernel_rfl
theorem cells4 : Tryz.prog.cellsOf 4 = 1 := by kernel_rfl
theorem cellsb : Tryz.prog.cellsOf 5 = 1 := by kernel_rfl
theorem cells9 : Tryz.prog.cellsOf 9 = 1 := by kernel_rfl
theorem gShapes : Tryz.prog.globalNamed "provekernel/notation.levelShapes" = some 4 := by kernel_rfl
theorem tShapes : (Tryz.prog.globals[4]?).map (·.type) = some 157 := by kernel_rfl
theorem gSpans : Tryz.prog.globalNamed "provekernel/notation.nameSpans" = some 6 := by kernel_rfl
theorem tSpans : (Tryz.prog.globals[6]?).map (·.type) = some 174 := by kernel_rfl
theorem cells156 : Tryz.prog.cellsOf 156 = 2 := by kernel_rfl
theorem cells157 : Tryz.prog.cellsOf 157 = 10 := by kernel_rfl
theorem cells173 : Tryz.prog.cellsOf 173 = 3 := by kernel_rfl
theorem cells174 : Tryz.prog.cellsOf 174 = 18 := by kernel_rfl

set_option maxRecDepth 100000 in
/-- One row of the table, out of its reading. -/
theorem shape_cells {W : World} {n : Nat} {cs : List Value} {d : DataW Unit × List MemPlace} (ht : DataW.trod (fun _ => ()) Tryz.prog W 0 (fun _ => true) false n 156 cs = some d) :
    ∃ (s : ByteArray) (k : Int), cs = [.string s, .int .i64 k] ∧ d.1 = .agg [.lit (.string s.data.toList), .lit (.int .i64 k)] := by
  obtain ⟨xs, m, _, hd, hlen, hxs, hf⟩ := DataW.trod_struct Tryz.underlying156 ht
  rw [cells156] at hlen
  match cs, hlen with
  | [v0, v1], _ =>
    match xs, hxs with
    | [z0, z1], _ =>
      have f0 : DataW.trod (fun _ => ()) Tryz.prog W 0 (fun _ => true) false m 9 (List.take (Tryz.prog.cellsOf 9) (List.drop 0 [v0, v1])) = some z0 := hf 0 _ rfl
      rw [cells9] at f0
      have f1 : DataW.trod (fun _ => ()) Tryz.prog W 0 (fun _ => true) false m 3 (List.take (Tryz.prog.cellsOf 3) (List.drop 1 [v0, v1])) = some z1 := hf 1 _ rfl
      rw [cells3] at f1
      obtain ⟨s, h0, e0, _⟩ := DataW.trod_string Tryz.underlying9 f0
      obtain ⟨k, h1, e1, _⟩ := DataW.trod_int Tryz.underlying3 f1
      simp at h0 h1
      subst h0 h1
      exact ⟨s, k, rfl, by rw [hd, e0, e1]; rfl⟩

set_option maxRecDepth 100000 in
/-- One span, out of its reading. -/
theorem span_cells {W : World} {n : Nat} {cs : List Value} {d : DataW Unit × List MemPlace} (ht : DataW.trod (fun _ => ()) Tryz.prog W 0 (fun _ => true) false n 173 cs = some d) :
    ∃ (j k : Int) (b : Bool), cs = [.int .u8 j, .int .u8 k, .bool b] ∧ d.1 = .agg [.lit (.int .u8 j), .lit (.int .u8 k), .lit (.bool b)] := by
  obtain ⟨xs, m, _, hd, hlen, hxs, hf⟩ := DataW.trod_struct Tryz.underlying173 ht
  rw [cells173] at hlen
  match cs, hlen with
  | [v0, v1, v2], _ =>
    match xs, hxs with
    | [z0, z1, z2], _ =>
      have f0 : DataW.trod (fun _ => ()) Tryz.prog W 0 (fun _ => true) false m 5 (List.take (Tryz.prog.cellsOf 5) (List.drop 0 [v0, v1, v2])) = some z0 := hf 0 _ rfl
      rw [cellsb] at f0
      have f1 : DataW.trod (fun _ => ()) Tryz.prog W 0 (fun _ => true) false m 5 (List.take (Tryz.prog.cellsOf 5) (List.drop 1 [v0, v1, v2])) = some z1 := hf 1 _ rfl
      rw [cellsb] at f1
      have f2 : DataW.trod (fun _ => ()) Tryz.prog W 0 (fun _ => true) false m 4 (List.take (Tryz.prog.cellsOf 4) (List.drop 2 [v0, v1, v2])) = some z2 := hf 2 _ rfl
      rw [cells4] at f2
      obtain ⟨j, h0, e0, _⟩ := DataW.trod_int Tryz.underlying5 f0
      obtain ⟨k, h1, e1, _⟩ := DataW.trod_int Tryz.underlying5 f1
      obtain ⟨b, h2, e2⟩ := DataW.trod_bool Tryz.underlying4 f2
      simp at h0 h1 h2
      subst h0 h1 h2
      exact ⟨j, k, b, rfl, by rw [hd, e0, e1, e2]; rfl⟩

theorem str_of {s : ByteArray} {l : List UInt8} (h : s.data.toList = l) : s = ⟨l.toArray⟩ := by
  cases s; simp at h; subst h; simp

theorem gSyntax : Tryz.prog.globalNamed "strconv.ErrSyntax" = some 10 := by kernel_rfl
theorem tSyntax : (Tryz.prog.globals[10]?).map (·.type) = some 29 := by kernel_rfl
theorem gRange : Tryz.prog.globalNamed "strconv.ErrRange" = some 11 := by kernel_rfl
theorem tRange : (Tryz.prog.globals[11]?).map (·.type) = some 29 := by kernel_rfl
/-- What is read at an interface's type is nil, or a value with its type. -/
theorem iface_of_trod {H : Type} {enc : TypeId × Value → H} {P : Program} {t : TypeId} {ms : Array (String × TypeId)} (ht : P.underlying t = some (.interface ms)) {W : World} {base : Nat} {sp : Nat → Bool} {held : Bool} {fuel : Nat} {cs : List Value} {y : DataW H × List MemPlace} (h : DataW.trod enc P W base sp held fuel t cs = some y) :
    ∃ v, cs = [v] ∧ (v = .nilIface ∨ ∃ u x, v = .iface u x) := by
  cases fuel with
  | zero => simp [DataW.trod] at h
  | succ n =>
    match cs, h with
    | [], h => simp [DataW.trod, ht] at h
    | [v], h =>
      refine ⟨v, rfl, ?_⟩
      cases v with
      | nilIface => exact .inl rfl
      | iface u x => exact .inr ⟨u, x, rfl⟩
      | _ => simp [DataW.trod, ht] at h
    | _ :: _ :: _, h => simp [DataW.trod, ht] at h

/-- The two variables that the walk reads as errors. -/
abbrev errs : List (String × DataW Unit) := [("strconv.ErrRange", Rows.laid_strconv_ErrRange), ("strconv.ErrSyntax", Rows.laid_strconv_ErrSyntax)]
theorem errs_of : Rows.filesRow.laid.filter (fun x => x.1 == "strconv.ErrRange" || x.1 == "strconv.ErrSyntax") = errs := by
  simp [Rows.filesRow, errs]

theorem err_vars {W : World} (h : laidMetH Tryz.prog Rows.filesRow.laid W) : ErrVar W 10 ∧ ErrVar W 11 := by
  have h := h.filter (fun x => x.1 == "strconv.ErrRange" || x.1 == "strconv.ErrSyntax")
  rw [errs_of, MakeChecks.laidMetH_plain _ _ _ (by kernel_rfl)] at h
  obtain ⟨ps, ⟨g0, t0, cs0, f0, p0, q0, hg0, ht0, hv0, hd0, ⟨g1, t1, cs1, f1, p1, q1, hg1, ht1, hv1, hd1, _, _⟩, _⟩, _, _⟩ := h
  obtain rfl := Option.some.inj (gRange.symm.trans hg0)
  obtain rfl := Option.some.inj (tRange.symm.trans ht0)
  obtain rfl := Option.some.inj (gSyntax.symm.trans hg1)
  obtain rfl := Option.some.inj (tSyntax.symm.trans ht1)
  obtain ⟨v0, e0, h0⟩ := iface_of_trod Tryz.underlying29 hd0
  obtain ⟨v1, e1, h1⟩ := iface_of_trod Tryz.underlying29 hd1
  refine ⟨⟨v1, ?_, h1⟩, ⟨v0, ?_, h0⟩⟩
  · have := World.var?_cell hg1 hv1 0
    obtain ⟨l⟩ := cs1
    simp at e1
    subst e1
    simpa using this
  · have := World.var?_cell hg0 hv0 0
    obtain ⟨l⟩ := cs0
    simp at e0
    subst e0
    simpa using this

/-- The two variables that the walk reads, of those that the row lists. -/
abbrev two : List (String × DataW Unit) := [("provekernel/notation.levelShapes", Rows.laid_provekernel_notation_levelShapes), ("provekernel/notation.nameSpans", Rows.laid_provekernel_notation_nameSpans)]
theorem two_of : Rows.filesRow.laid.filter (fun x => x.1 == "provekernel/notation.levelShapes" || x.1 == "provekernel/notation.nameSpans") = two := by
  simp [Rows.filesRow, two]

set_option maxRecDepth 100000 in
/-- What the condition gives the walk: the two tables. -/
theorem of_laid0 {W : World} (h : laidMetH Tryz.prog Rows.filesRow.laid W) : Tabs W := by
  have hE := err_vars h
  have h := h.filter (fun x => x.1 == "provekernel/notation.levelShapes" || x.1 == "provekernel/notation.nameSpans")
  rw [two_of, MakeChecks.laidMetH_plain _ _ _ (by kernel_rfl)] at h
  obtain ⟨ps, ⟨g0, t0, cs0, f0, p0, q0, hg0, ht0, hv0, hd0, ⟨g1, t1, cs1, f1, p1, q1, hg1, ht1, hv1, hd1, _, _⟩, _⟩, _, _⟩ := h
  obtain rfl := Option.some.inj (gShapes.symm.trans hg0)
  obtain rfl := Option.some.inj (tShapes.symm.trans ht0)
  obtain rfl := Option.some.inj (gSpans.symm.trans hg1)
  obtain rfl := Option.some.inj (tSpans.symm.trans ht1)
  have hT : Table W ∧ Parts W := by
    obtain ⟨xs, m, _, hx, hlen, hn, hel⟩ := DataW.trod_array Tryz.underlying157 hd0
    rw [cells157] at hlen
    have hc := World.var?_cell hg0 hv0
    simp only [Prod.mk.injEq] at hx
    match xs, hn with
    | [x0, x1, x2, x3, x4], _ =>
      obtain ⟨l⟩ := cs0
      match l, hlen with
      | [v0, v1, v2, v3, v4, v5, v6, v7, v8, v9], _ =>
        have r0 := hel 0 (by decide)
        have r1 := hel 1 (by decide)
        have r2 := hel 2 (by decide)
        have r3 := hel 3 (by decide)
        have r4 := hel 4 (by decide)
        rw [cells156] at r0 r1 r2 r3 r4
        obtain ⟨s0, j0, c0, d0⟩ := shape_cells (d := x0) r0
        obtain ⟨s1, j1, c1, d1⟩ := shape_cells (d := x1) r1
        obtain ⟨s2, j2, c2, d2⟩ := shape_cells (d := x2) r2
        obtain ⟨s3, j3, c3, d3⟩ := shape_cells (d := x3) r3
        obtain ⟨s4, j4, c4, d4⟩ := shape_cells (d := x4) r4
        simp at c0 c1 c2 c3 c4
        have hx1 := hx.1
        simp only [List.map_cons, List.map_nil, d0, d1, d2, d3, d4, Rows.laid_provekernel_notation_levelShapes, DataW.agg.injEq, List.cons.injEq, DataW.lit.injEq, Lit.string.injEq, Lit.int.injEq, and_true, true_and] at hx1
        obtain ⟨⟨e0, i0⟩, ⟨e1, i1⟩, ⟨e2, i2⟩, ⟨e3, i3⟩, ⟨e4, i4⟩⟩ := hx1
        refine ⟨⟨?_, ?_, ?_, ?_, ?_⟩, ⟨?_, ?_, ?_, ?_, ?_⟩⟩
        · rw [hc]; simp [c0.1, str_of e0.symm]
        · rw [hc]; simp [c1.1, str_of e1.symm]
        · rw [hc]; simp [c2.1, str_of e2.symm]
        · rw [hc]; simp [c3.1, str_of e3.symm]
        · rw [hc]; simp [c4.1, str_of e4.symm]
        · rw [hc]; simp [c0.2, i0]
        · rw [hc]; simp [c1.2, i1]
        · rw [hc]; simp [c2.2, i2]
        · rw [hc]; simp [c3.2, i3]
        · rw [hc]; simp [c4.2, i4]
  have hS : Spans W := by
    obtain ⟨xs, m, _, hx, hlen, hn, hel⟩ := DataW.trod_array Tryz.underlying174 hd1
    rw [cells174] at hlen
    have hc := World.var?_cell hg1 hv1
    simp only [Prod.mk.injEq] at hx
    match xs, hn with
    | [x0, x1, x2, x3, x4, x5], _ =>
      obtain ⟨l⟩ := cs1
      match l, hlen with
      | [v0, v1, v2, v3, v4, v5, v6, v7, v8, v9, v10, v11, v12, v13, v14, v15, v16, v17], _ =>
        have r0 := hel 0 (by decide)
        have r1 := hel 1 (by decide)
        have r2 := hel 2 (by decide)
        have r3 := hel 3 (by decide)
        have r4 := hel 4 (by decide)
        have r5 := hel 5 (by decide)
        rw [cells173] at r0 r1 r2 r3 r4 r5
        obtain ⟨j0, k0, b0, c0, d0⟩ := span_cells (d := x0) r0
        obtain ⟨j1, k1, b1, c1, d1⟩ := span_cells (d := x1) r1
        obtain ⟨j2, k2, b2, c2, d2⟩ := span_cells (d := x2) r2
        obtain ⟨j3, k3, b3, c3, d3⟩ := span_cells (d := x3) r3
        obtain ⟨j4, k4, b4, c4, d4⟩ := span_cells (d := x4) r4
        obtain ⟨j5, k5, b5, c5, d5⟩ := span_cells (d := x5) r5
        simp at c0 c1 c2 c3 c4 c5
        have hx1 := hx.1
        simp only [List.map_cons, List.map_nil, d0, d1, d2, d3, d4, d5, Rows.laid_provekernel_notation_nameSpans, DataW.agg.injEq, List.cons.injEq, DataW.lit.injEq, Lit.bool.injEq, Lit.int.injEq, and_true, true_and] at hx1
        obtain ⟨⟨i0, n0, q0⟩, ⟨i1, n1, q1⟩, ⟨i2, n2, q2⟩, ⟨i3, n3, q3⟩, ⟨i4, n4, q4⟩, ⟨i5, n5, q5⟩⟩ := hx1
        obtain ⟨a0, a1, a2⟩ := c0
        obtain ⟨a3, a4, a5⟩ := c1
        obtain ⟨a6, a7, a8⟩ := c2
        obtain ⟨a9, a10, a11⟩ := c3
        obtain ⟨a12, a13, a14⟩ := c4
        obtain ⟨a15, a16, a17⟩ := c5
        refine ⟨?_, ?_, ?_, ?_, ?_, ?_, ?_, ?_, ?_, ?_, ?_, ?_, ?_, ?_, ?_, ?_, ?_, ?_⟩
        · rw [hc]; simp [a0, i0]
        · rw [hc]; simp [a1, n0]
        · rw [hc]; simp [a2, q0]
        · rw [hc]; simp [a3, i1]
        · rw [hc]; simp [a4, n1]
        · rw [hc]; simp [a5, q1]
        · rw [hc]; simp [a6, i2]
        · rw [hc]; simp [a7, n2]
        · rw [hc]; simp [a8, q2]
        · rw [hc]; simp [a9, i3]
        · rw [hc]; simp [a10, n3]
        · rw [hc]; simp [a11, q3]
        · rw [hc]; simp [a12, i4]
        · rw [hc]; simp [a13, n4]
        · rw [hc]; simp [a14, q4]
        · rw [hc]; simp [a15, i5]
        · rw [hc]; simp [a16, n5]
        · rw [hc]; simp [a17, q5]
  exact ⟨hT.1, hS, hT.2, hE.1, hE.2⟩

theorem gTerm : Tryz.prog.globalNamed "provekernel/notation.termShapes" = some 3 := by kernel_rfl
theorem tTerm : (Tryz.prog.globals[3]?).map (·.type) = some 125 := by kernel_rfl
theorem cells124 : Tryz.prog.cellsOf 124 = 4 := by kernel_rfl
theorem cells125 : Tryz.prog.cellsOf 125 = 28 := by kernel_rfl
theorem gWords : Tryz.prog.globalNamed "provekernel/file.words" = some 0 := by kernel_rfl
theorem tWords : (Tryz.prog.globals[0]?).map (·.type) = some 88 := by kernel_rfl

set_option maxRecDepth 100000 in
/-- One row of the terms' table, out of its reading. -/
theorem tshape_cells {W : World} {n : Nat} {cs : List Value} {d : DataW Unit × List MemPlace} (ht : DataW.trod (fun _ => ()) Tryz.prog W 0 (fun _ => true) false n 124 cs = some d) :
    ∃ (s : ByteArray) (b : Bool) (j k : Int), cs = [.string s, .bool b, .int .i64 j, .int .i64 k] ∧ d.1 = .agg [.lit (.string s.data.toList), .lit (.bool b), .lit (.int .i64 j), .lit (.int .i64 k)] := by
  obtain ⟨xs, m, _, hd, hlen, hxs, hf⟩ := DataW.trod_struct Tryz.underlying124 ht
  rw [cells124] at hlen
  match cs, hlen with
  | [v0, v1, v2, v3], _ =>
    match xs, hxs with
    | [z0, z1, z2, z3], _ =>
      have f0 : DataW.trod (fun _ => ()) Tryz.prog W 0 (fun _ => true) false m 9 (List.take (Tryz.prog.cellsOf 9) (List.drop 0 [v0, v1, v2, v3])) = some z0 := hf 0 _ rfl
      rw [cells9] at f0
      have f1 : DataW.trod (fun _ => ()) Tryz.prog W 0 (fun _ => true) false m 4 (List.take (Tryz.prog.cellsOf 4) (List.drop 1 [v0, v1, v2, v3])) = some z1 := hf 1 _ rfl
      rw [cells4] at f1
      have f2 : DataW.trod (fun _ => ()) Tryz.prog W 0 (fun _ => true) false m 3 (List.take (Tryz.prog.cellsOf 3) (List.drop 2 [v0, v1, v2, v3])) = some z2 := hf 2 _ rfl
      rw [cells3] at f2
      have f3 : DataW.trod (fun _ => ()) Tryz.prog W 0 (fun _ => true) false m 3 (List.take (Tryz.prog.cellsOf 3) (List.drop 3 [v0, v1, v2, v3])) = some z3 := hf 3 _ rfl
      rw [cells3] at f3
      obtain ⟨s, h0, e0, _⟩ := DataW.trod_string Tryz.underlying9 f0
      obtain ⟨b, h1, e1⟩ := DataW.trod_bool Tryz.underlying4 f1
      obtain ⟨j, h2, e2, _⟩ := DataW.trod_int Tryz.underlying3 f2
      obtain ⟨k, h3, e3, _⟩ := DataW.trod_int Tryz.underlying3 f3
      simp at h0 h1 h2 h3
      subst h0 h1 h2 h3
      exact ⟨s, b, j, k, rfl, by rw [hd, e0, e1, e2, e3]; rfl⟩

abbrev tsh : List (String × DataW Unit) := [("provekernel/notation.termShapes", Rows.laid_provekernel_notation_termShapes)]
theorem tsh_of : Rows.filesRow.laid.filter (fun x => x.1 == "provekernel/notation.termShapes") = tsh := by
  simp [Rows.filesRow, tsh]
abbrev wrd : List (String × DataW Unit) := [("provekernel/file.words", Rows.laid_provekernel_file_words)]
theorem wrd_of : Rows.filesRow.laid.filter (fun x => x.1 == "provekernel/file.words") = wrd := by
  simp [Rows.filesRow, wrd]

set_option maxRecDepth 100000 in
theorem of_laid1 {W : World} (h : laidMetH Tryz.prog Rows.filesRow.laid W) : TTab W := by
  have h := h.filter (fun x => x.1 == "provekernel/notation.termShapes")
  rw [tsh_of, MakeChecks.laidMetH_plain _ _ _ (by kernel_rfl)] at h
  obtain ⟨ps, ⟨g0, t0, cs0, f0, p0, q0, hg0, ht0, hv0, hd0, _, _⟩, _, _⟩ := h
  obtain rfl := Option.some.inj (gTerm.symm.trans hg0)
  obtain rfl := Option.some.inj (tTerm.symm.trans ht0)
  obtain ⟨xs, m, _, hx, hlen, hn, hel⟩ := DataW.trod_array Tryz.underlying125 hd0
  rw [cells125] at hlen
  have hc := World.var?_cell hg0 hv0
  simp only [Prod.mk.injEq] at hx
  match xs, hn with
  | [x0, x1, x2, x3, x4, x5, x6], _ =>
    obtain ⟨l⟩ := cs0
    match l, hlen with
    | [v0, v1, v2, v3, v4, v5, v6, v7, v8, v9, v10, v11, v12, v13, v14, v15, v16, v17, v18, v19, v20, v21, v22, v23, v24, v25, v26, v27], _ =>
      have r0 := hel 0 (by decide)
      have r1 := hel 1 (by decide)
      have r2 := hel 2 (by decide)
      have r3 := hel 3 (by decide)
      have r4 := hel 4 (by decide)
      have r5 := hel 5 (by decide)
      have r6 := hel 6 (by decide)
      rw [cells124] at r0 r1 r2 r3 r4 r5 r6
      obtain ⟨s0, b0, j0, k0, c0, d0⟩ := tshape_cells (d := x0) r0
      obtain ⟨s1, b1, j1, k1, c1, d1⟩ := tshape_cells (d := x1) r1
      obtain ⟨s2, b2, j2, k2, c2, d2⟩ := tshape_cells (d := x2) r2
      obtain ⟨s3, b3, j3, k3, c3, d3⟩ := tshape_cells (d := x3) r3
      obtain ⟨s4, b4, j4, k4, c4, d4⟩ := tshape_cells (d := x4) r4
      obtain ⟨s5, b5, j5, k5, c5, d5⟩ := tshape_cells (d := x5) r5
      obtain ⟨s6, b6, j6, k6, c6, d6⟩ := tshape_cells (d := x6) r6
      simp at c0 c1 c2 c3 c4 c5 c6
      have hx1 := hx.1
      simp only [List.map_cons, List.map_nil, d0, d1, d2, d3, d4, d5, d6, Rows.laid_provekernel_notation_termShapes, DataW.agg.injEq, List.cons.injEq, DataW.lit.injEq, Lit.string.injEq, Lit.bool.injEq, Lit.int.injEq, and_true, true_and] at hx1
      obtain ⟨⟨e0, i0, m0, n0⟩, ⟨e1, i1, m1, n1⟩, ⟨e2, i2, m2, n2⟩, ⟨e3, i3, m3, n3⟩, ⟨e4, i4, m4, n4⟩, ⟨e5, i5, m5, n5⟩, ⟨e6, i6, m6, n6⟩⟩ := hx1
      obtain ⟨a0, a1, a2, a3⟩ := c0
      obtain ⟨a4, a5, a6, a7⟩ := c1
      obtain ⟨a8, a9, a10, a11⟩ := c2
      obtain ⟨a12, a13, a14, a15⟩ := c3
      obtain ⟨a16, a17, a18, a19⟩ := c4
      obtain ⟨a20, a21, a22, a23⟩ := c5
      obtain ⟨a24, a25, a26, a27⟩ := c6
      have hl : [v0, v1, v2, v3, v4, v5, v6, v7, v8, v9, v10, v11, v12, v13, v14, v15, v16, v17, v18, v19, v20, v21, v22, v23, v24, v25, v26, v27] = tcs := by
        rw [a0, a1, a2, a3, a4, a5, a6, a7, a8, a9, a10, a11, a12, a13, a14, a15, a16, a17, a18, a19, a20, a21, a22, a23, a24, a25, a26, a27]
        rw [str_of e0.symm, str_of e1.symm, str_of e2.symm, str_of e3.symm, str_of e4.symm, str_of e5.symm, str_of e6.symm, ← i0, ← m0, ← n0, ← i1, ← m1, ← n1, ← i2, ← m2, ← n2, ← i3, ← m3, ← n3, ← i4, ← m4, ← n4, ← i5, ← m5, ← n5, ← i6, ← m6, ← n6]
        rfl
      intro j v hv
      rw [Nat.zero_add, hc]
      show ([v0, v1, v2, v3, v4, v5, v6, v7, v8, v9, v10, v11, v12, v13, v14, v15, v16, v17, v18, v19, v20, v21, v22, v23, v24, v25, v26, v27].toArray)[j]? = some v
      rw [hl]
      simpa using hv

theorem cells88 : Tryz.prog.cellsOf 88 = 4 := by kernel_rfl
set_option maxRecDepth 100000 in
theorem of_laid2 {W : World} (h : laidMetH Tryz.prog Rows.filesRow.laid W) : FWords W := by
  have h := h.filter (fun x => x.1 == "provekernel/file.words")
  rw [wrd_of, MakeChecks.laidMetH_plain _ _ _ (by kernel_rfl)] at h
  obtain ⟨ps, ⟨g0, t0, cs0, f0, p0, q0, hg0, ht0, hv0, hd0, _, _⟩, _, _⟩ := h
  obtain rfl := Option.some.inj (gWords.symm.trans hg0)
  obtain rfl := Option.some.inj (tWords.symm.trans ht0)
  obtain ⟨xs, m, _, hx, hlen, hn, hel⟩ := DataW.trod_array Tryz.underlying88 hd0
  rw [cells88] at hlen
  have hc := World.var?_cell hg0 hv0
  simp only [Prod.mk.injEq] at hx
  match xs, hn with
  | [x0, x1, x2, x3], _ =>
    obtain ⟨l⟩ := cs0
    match l, hlen with
    | [v0, v1, v2, v3], _ =>
      have r0 := hel 0 (by decide)
      have r1 := hel 1 (by decide)
      have r2 := hel 2 (by decide)
      have r3 := hel 3 (by decide)
      rw [cells9] at r0 r1 r2 r3
      obtain ⟨s0, c0, d0, _⟩ := DataW.trod_string Tryz.underlying9 r0
      obtain ⟨s1, c1, d1, _⟩ := DataW.trod_string Tryz.underlying9 r1
      obtain ⟨s2, c2, d2, _⟩ := DataW.trod_string Tryz.underlying9 r2
      obtain ⟨s3, c3, d3, _⟩ := DataW.trod_string Tryz.underlying9 r3
      simp at c0 c1 c2 c3
      have hx1 := hx.1
      simp only [List.map_cons, List.map_nil, d0, d1, d2, d3, Rows.laid_provekernel_file_words, DataW.agg.injEq, List.cons.injEq, DataW.lit.injEq, Lit.string.injEq, and_true] at hx1
      obtain ⟨e0, e1, e2, e3⟩ := hx1
      refine ⟨?_, ?_, ?_, ?_⟩
      · rw [hc]; simp [c0, str_of e0.symm]
      · rw [hc]; simp [c1, str_of e1.symm]
      · rw [hc]; simp [c2, str_of e2.symm]
      · rw [hc]; simp [c3, str_of e3.symm]

theorem gPow : Tryz.prog.globalNamed "internal/strconv.uint64pow10" = some 5 := by kernel_rfl
theorem tPow : (Tryz.prog.globals[5]?).map (·.type) = some 162 := by kernel_rfl
abbrev pwl : List (String × DataW Unit) := [("internal/strconv.uint64pow10", Rows.laid_internal_strconv_uint64pow10)]
theorem pwl_of : Rows.filesRow.laid.filter (fun x => x.1 == "internal/strconv.uint64pow10") = pwl := by
  simp [Rows.filesRow, pwl]
theorem of_laid3 {W : World} (h : laidMetH Tryz.prog Rows.filesRow.laid W) : Pow10 W ∧ 5 < W.heap.size := by
  have h := h.filter (fun x => x.1 == "internal/strconv.uint64pow10")
  rw [pwl_of, MakeChecks.laidMetH_plain _ _ _ (by kernel_rfl)] at h
  have hp : Pow10 W := Lib.tabIs_of_head (k := .u64) (zs := Lib.pow10Tab) (rest := []) gPow tPow Tryz.underlying162 Tryz.underlying150 (by kernel_rfl) (by kernel_rfl) h
  exact ⟨hp, World.block_lt_of_cell? _ _ (Lib.TabIs.cell hp gPow 0 (by decide))⟩

theorem gWords2 : Tryz.prog.globalNamed "provekernel/provekernelref.words" = some 1 := by kernel_rfl
theorem tWords2 : (Tryz.prog.globals[1]?).map (·.type) = some 39 := by kernel_rfl
abbrev wrd2 : List (String × DataW Unit) := [("provekernel/provekernelref.words", Rows.laid_provekernel_provekernelref_words)]
theorem wrd2_of : Rows.filesRow.laid.filter (fun x => x.1 == "provekernel/provekernelref.words") = wrd2 := by
  simp [Rows.filesRow, wrd2]
set_option maxRecDepth 100000 in
theorem of_laid4 {W : World} (h : laidMetH Tryz.prog Rows.filesRow.laid W) : ∃ wb wo wc, WordsAt W wb wo wc := by
  have h := h.filter (fun x => x.1 == "provekernel/provekernelref.words")
  rw [wrd2_of, MakeChecks.laidMetH_plain _ _ _ (by kernel_rfl)] at h
  obtain ⟨ps, ⟨g0, t0, cs0, f0, p0, q0, hg0, ht0, hv0, hd0, _, _⟩, _, _⟩ := h
  obtain rfl := Option.some.inj (gWords2.symm.trans hg0)
  obtain rfl := Option.some.inj (tWords2.symm.trans ht0)
  have hc := World.var?_cell hg0 hv0 0
  obtain ⟨l⟩ := cs0
  rcases Deep.open_slice1 Tryz.underlying39 cells9 hd0 with ⟨_, hx⟩ | ⟨a, len, cap, m, n, V, D, Pl, hcs, _, hl, hm, hmm, hx, hel⟩
  · simp [Rows.laid_provekernel_provekernelref_words] at hx
  · simp only [Prod.mk.injEq, Rows.laid_provekernel_provekernelref_words, DataW.slice.injEq] at hx
    have hlen : len = 7 := by have := congrArg List.length hx.1.1; simpa using this.symm
    subst hlen
    have hD := hx.1.1
    simp [List.range, List.range.loop] at hD
    obtain ⟨D0, D1, D2, D3, D4, D5, D6⟩ := hD
    have hmi : ∀ j, j < 7 → j < m := fun j hj => by rw [hmm]; simp; omega
    obtain ⟨b, off, spot⟩ := a
    have hspot : spot = none := by
      have := (hel 0 (hmi 0 (by omega))).1
      exact World.cell?_spot this
    subst hspot
    have hw : ∀ i, i < 7 → ∀ q : List UInt8, D i = .lit (.string q) → W.cell? ⟨b, off + i, none⟩ = some (.string ⟨q.toArray⟩) := fun i hi q hq => by
      obtain ⟨h1, h2⟩ := hel i (hmi i hi)
      obtain ⟨s, h3, h4, _⟩ := DataW.trod_string Tryz.underlying9 h2
      simp at h3
      rw [Addr.add_lit] at h1
      rw [h1, h3]
      have : D i = .lit (.string s.data.toList) := (Prod.mk.inj h4).1
      rw [hq] at this
      simp at this
      rw [str_of this.symm]
    refine ⟨b, off, cap, ?_, hw 1 (by omega) _ D1.symm, hw 2 (by omega) _ D2.symm, hw 3 (by omega) _ D3.symm, hw 4 (by omega) _ D4.symm, hw 5 (by omega) _ D5.symm, hw 6 (by omega) _ D6.symm⟩
    simp at hcs
    subst hcs
    simpa using hc

theorem gType : Tryz.prog.globalNamed "errors.errorType" = some 2 := by kernel_rfl
theorem rType : (Tryz.prog.cutTypes.find? (·.1 == "internal/reflectlite.rtype")).map (·.2) = some 136 := by kernel_rfl
theorem oneRow : ((List.range 223).filter fun t => Tryz.prog.rowNamed t [101, 114, 114, 111, 114]) = [29] := by kernel_rfl
theorem typesSize : Tryz.prog.types.size = 223 := by kernel_rfl
/-- The type's handle that errors.As asks for. -/
abbrev hand : List (String × DataW Unit) := [("errors.errorType", Rows.laid_errors_errorType)]
theorem hand_of : Rows.filesRow.laid.filter (fun x => x.1 == "errors.errorType") = hand := by
  simp [Rows.filesRow, hand]

theorem handle_laid {W : World} (h : laidMetH Tryz.prog Rows.filesRow.laid W) : W.cell? ⟨2, 0, none⟩ = some (.iface 136 (.agg #[.pointer (some ⟨12, 29, none⟩)])) := by
  have h := h.filter (fun x => x.1 == "errors.errorType")
  rw [hand_of] at h
  have h' : laidMet Tryz.prog [] W ∧ handlesMet Tryz.prog hand W := h
  obtain ⟨name, u, ty, e1, e2, e3, e4, e5⟩ := h'.2 _ (List.mem_singleton.2 rfl)
  have en : name = [101, 114, 114, 111, 114] := (Option.some.inj e1).symm
  subst en
  obtain rfl := Option.some.inj (rType.symm.trans e2)
  have hm : ty ∈ (List.range 223).filter fun t => Tryz.prog.rowNamed t [101, 114, 114, 111, 114] := List.mem_filter.2 ⟨List.mem_range.2 (by rw [← typesSize]; exact e3), e4⟩
  rw [oneRow] at hm
  obtain rfl := List.mem_singleton.1 hm
  have hh : typeHandle Tryz.prog 29 = .pointer (some ⟨12, 29, none⟩) := by kernel_rfl
  rw [hh] at e5
  simpa using World.var?_cell gType e5 0

theorem of_laid {W : World} (h : laidMetH Tryz.prog Rows.filesRow.laid W) : ∃ wb wo wc, TabsP W ∧ WordsAt W wb wo wc ∧ HdT W := by
  obtain ⟨wb, wo, wc, hw⟩ := of_laid4 h
  exact ⟨wb, wo, wc, ⟨⟨⟨of_laid0 h, of_laid1 h⟩, of_laid2 h⟩, (of_laid3 h).1⟩, hw, ⟨handle_laid h⟩⟩

theorem fits_wf {x : Int} (h : (Lit.int .i64 x).wf = true) : -9223372036854775808 ≤ x ∧ x ≤ 9223372036854775807 := by
  unfold Lit.wf at h
  simp [IntKind.min, IntKind.max, IntKind.bits, IntKind.signed] at h
  omega

/-- The heap that the door's own run leaves meets the condition. -/
theorem door_met (os : Os) (args : Array Value) : laidMetH Tryz.prog Rows.filesRow.laid ((World.doorLaid Tryz.prog 400 os).forCall (fun _ _ => 0) ⟨#[], args, []⟩).memory :=
  laidMetH_of_parts3 (fuel := 8) (laidMet_of_run' 8 (by kernel_rfl) (by kernel_rfl)) (by kernel_rfl) (by kernel_rfl)



theorem own : ownKnob Tryz.prog.godebug = none := by kernel_rfl
theorem laidOut : laidOutB Tryz.prog = true := by kernel_rfl

theorem cells25 : Tryz.prog.cellsOf 25 = 6 := by kernel_rfl
set_option maxRecDepth 100000 in
/-- A step's six cells, out of its reading. -/
theorem op_cells {H : Type} {enc : TypeId × Value → H} {W : World} {base n : Nat} {spare : Nat → Bool} {held : Bool} {cs : List Value} {d : DataW H × List MemPlace} (ht : DataW.trod enc Tryz.prog W base spare held n 25 cs = some d) :
    ∃ (kd x y : Int) (S T U : ByteArray), cs = [.int .i64 kd, .string S, .string T, .string U, .int .i64 x, .int .i64 y] ∧ S.size ≤ maxLen ∧ T.size ≤ maxLen ∧ U.size ≤ maxLen ∧ (-9223372036854775808 ≤ x ∧ x ≤ 9223372036854775807 ∧ -9223372036854775808 ≤ y ∧ y ≤ 9223372036854775807) := by
  obtain ⟨xs, m, _, _, hlen, hxs, hf⟩ := DataW.trod_struct Tryz.underlying25 ht
  rw [cells25] at hlen
  match cs, hlen with
  | [v0, v1, v2, v3, v4, v5], _ =>
    have g : ∀ i, i < 6 → ∃ z, xs[i]? = some z := fun i hi => ⟨xs[i]'(by rw [hxs]; exact hi), List.getElem?_eq_getElem _⟩
    obtain ⟨z0, e0⟩ := g 0 (by omega)
    obtain ⟨z1, e1⟩ := g 1 (by omega)
    obtain ⟨z2, e2⟩ := g 2 (by omega)
    obtain ⟨z3, e3⟩ := g 3 (by omega)
    obtain ⟨z4, e4⟩ := g 4 (by omega)
    obtain ⟨z5, e5⟩ := g 5 (by omega)
    have f0 : DataW.trod enc Tryz.prog W base spare held m 3 (List.take (Tryz.prog.cellsOf 3) (List.drop 0 [v0, v1, v2, v3, v4, v5])) = some z0 := (hf 0 _ rfl).trans e0
    rw [cells3] at f0
    have f1 : DataW.trod enc Tryz.prog W base spare held m 9 (List.take (Tryz.prog.cellsOf 9) (List.drop 1 [v0, v1, v2, v3, v4, v5])) = some z1 := (hf 1 _ rfl).trans e1
    rw [cells9] at f1
    have f2 : DataW.trod enc Tryz.prog W base spare held m 9 (List.take (Tryz.prog.cellsOf 9) (List.drop 2 [v0, v1, v2, v3, v4, v5])) = some z2 := (hf 2 _ rfl).trans e2
    rw [cells9] at f2
    have f3 : DataW.trod enc Tryz.prog W base spare held m 9 (List.take (Tryz.prog.cellsOf 9) (List.drop 3 [v0, v1, v2, v3, v4, v5])) = some z3 := (hf 3 _ rfl).trans e3
    rw [cells9] at f3
    have f4 : DataW.trod enc Tryz.prog W base spare held m 3 (List.take (Tryz.prog.cellsOf 3) (List.drop 4 [v0, v1, v2, v3, v4, v5])) = some z4 := (hf 4 _ rfl).trans e4
    rw [cells3] at f4
    have f5 : DataW.trod enc Tryz.prog W base spare held m 3 (List.take (Tryz.prog.cellsOf 3) (List.drop 5 [v0, v1, v2, v3, v4, v5])) = some z5 := (hf 5 _ rfl).trans e5
    rw [cells3] at f5
    obtain ⟨kd, h0, _⟩ := DataW.trod_int Tryz.underlying3 f0
    obtain ⟨S, h1, _, hS⟩ := DataW.trod_string Tryz.underlying9 f1
    obtain ⟨T, h2, _, hT⟩ := DataW.trod_string Tryz.underlying9 f2
    obtain ⟨U, h3, _, hU⟩ := DataW.trod_string Tryz.underlying9 f3
    obtain ⟨x, h4, _, hx⟩ := DataW.trod_int Tryz.underlying3 f4
    obtain ⟨y, h5, _, hy⟩ := DataW.trod_int Tryz.underlying3 f5
    simp at h0 h1 h2 h3 h4 h5
    subst h0 h1 h2 h3 h4 h5
    exact ⟨kd, x, y, S, T, U, rfl, hS, hT, hU, (fits_wf hx).1, (fits_wf hx).2, (fits_wf hy).1, (fits_wf hy).2⟩

set_option maxRecDepth 100000 in
theorem lifted (os : Os) (started : os.Started) (H : Type) (enc : TypeId × Value → H) :
    ReturnsInHanded {} Tryz.checked os 3 .any (fun w args => (Rows.filesSpec.pre enc Tryz.prog Tryz.f3 [] false w args ∧ laidMetH Tryz.prog Rows.filesRow.laid w) ∧ sizedMet enc Tryz.prog Tryz.f3 (OpenSpec.ofChange Rows.filesSpec) false w args)
      (Rows.filesSpec.post enc Tryz.prog Tryz.f3 false true false false) := by
  refine returnsInHanded_of_change_and (C := Tryz.checked) (X := fun w _ => laidMetH Tryz.prog Rows.filesRow.laid w) (fun _ _ _ hh h => h.of_heap hh) own started (by kernel_rfl) Tryz.func3
    (ChangeSpec.witness_shaped (enc := enc) (C := Tryz.checked) (os := os) (X := fun w _ => laidMetH Tryz.prog Rows.filesRow.laid w) false (World.doorLaid Tryz.prog 400 os) #[.slice none 0 0] 8 rfl (World.shaped_of_RefB (by kernel_rfl) (by kernel_rfl)) (by kernel_rfl) (by kernel_rfl) (by kernel_rfl) (door_met os _)) ?_
  intro W base args ds gs before hval0 hW _ _ hL _
  have hval : ∀ (j : Nat) t v, Tryz.f3.params[j]? = some t → args[j]? = some v → Value.okWide Tryz.prog W .any base t v := hval0
  have hW' := hW
  obtain ⟨p, q, hA0, hV, rfl, hfz, hnd⟩ := hW
  have hA : DataW.TrodAll enc Tryz.prog W 0 (fun _ => true) true Tryz.f3.params.toList args.toList ds p := hA0
  rw [Tryz.params3] at hA hval
  obtain ⟨v0, vs0, d0, ds0, p0, q0, hargs, rfl, rfl, h0, r0⟩ := trodAll_cons hA
  obtain ⟨rfl, rfl, rfl⟩ := trodAll_nil r0
  obtain rfl : args = #[v0] := by cases args; simp_all
  obtain ⟨rfl, rfl⟩ := trodVars_none hV
  obtain ⟨a0, len0, cap0, rfl⟩ := okWide_slice Tryz.underlying22 (hval 0 22 v0 rfl rfl)
  have k0 := h0
  have lt0 : ∀ x ∈ p0, x.block < W.heap.size := by obtain ⟨m, hm⟩ := k0; exact DataW.trod_lt m _ _ _ hm
  have w0 : IsOps W a0 len0 := by
    obtain ⟨fuel, hf⟩ := h0
    rcases Deep.open_slice Tryz.underlying22 hf with ⟨hcs, _⟩ | ⟨x, l, c, m, n, D, Pl, hcs, _, hl, hm, hmm, _, hel⟩
    · simp [Value.cells] at hcs
      obtain ⟨rfl, rfl, rfl⟩ := hcs
      exact ⟨by unfold maxLen; omega, fun i hi => absurd hi (by omega)⟩
    · simp [Value.cells] at hcs
      obtain ⟨rfl, rfl, rfl⟩ := hcs
      refine ⟨by omega, fun i hi => ?_⟩
      have hmi : ∀ j, j < len0 → j < m := fun j hj => by rw [hmm]; simp; omega
      obtain ⟨b, off, spot⟩ := x
      have hspot : spot = none := by
        obtain ⟨cs, hc, ht⟩ := hel 0 (hmi 0 (by omega))
        obtain ⟨kd, x, y, S, T, U, rfl, _⟩ := op_cells ht
        rw [cells25] at hc
        have := (World.cells?_some hc).2.2 0 (by omega)
        simpa [Addr.add] using World.cell?_spot this
      subst hspot
      obtain ⟨cs, hc, ht⟩ := hel i (hmi i hi)
      obtain ⟨kd, x, y, S, T, U, rfl, hS, _⟩ := op_cells ht
      rw [cells25] at hc
      have hcell := (World.cells?_some hc).2.2
      have g1 := hcell 1 (by omega)
      simp only [Addr.add_lit] at g1
      exact ⟨b, off, S, rfl, hS, g1⟩
  clear hA0 hval0
  obtain ⟨wb, wo, wc, hl1, hl2, hl3⟩ := of_laid hL
  refine (files_walk a0 len0 cap0 wb wo wc W w0 hl1 hl2 hl3).mono fun e W' ⟨he, bel⟩ => ?_
  subst he
  exact ⟨_, rfl, _, _, _, [], _, [], hW', trodAll_mk1 (shut_bool Tryz.underlying4 _), (trodAll_cons_mk (Below.trod laidOut (by kernel_rfl) (of_decide_eq_true (by kernel_rfl)) k0 bel lt0) trodAll_mk0), rfl, bel.frame _, fun h => by cases h⟩

theorem row_holds : Rows.FilesSaid :=
  OpenClaim.holds_of_wide 3 Tryz.f3 rfl rfl rfl rfl rfl rfl rfl ⟨rfl, rfl, rfl, rfl, rfl⟩ rfl rfl rfl rfl rfl (by kernel_rfl) Tryz.func3 (by kernel_rfl)
    (of_decide_eq_true (by kernel_rfl)) (by unfold Func.isWrapper; first | (rw [if_pos (by decide +kernel)]; kernel_rfl) | (rw [if_neg (by decide +kernel)]; exact ⟨rfl, rfl⟩))
    (fun os started H enc _ => lifted os started H enc)
#print axioms row_holds



theorem files_holds : Rows.FilesCardSaid :=
  Claim7.holds_tied_plain_at .later [] [.data, .data, .data, .handle, .data, .sentinel, .sentinel, .data, .data, .data, .data] true (true, "4bd21db97eb964c95144a01615343156c3379a64940f3289b138898e97faf2e4") true
    row_holds (fun _ h => by cases h) (by kernel_rfl) (fun _ h => by cases h) files_row_tie rfl ⟨rfl, rfl⟩ (by kernel_rfl) rfl
    (fun f fn hf hfn => by
      obtain rfl : f = 3 := Option.some.inj ((show Tryz.prog.funcNamed "provekernel/provekernellaw.Files" = some 3 by kernel_rfl).symm.trans hf) |>.symm
      obtain rfl : fn = Tryz.f3 := (Option.some.inj (Tryz.func3.symm.trans hfn)).symm
      exact ⟨by kernel_rfl, fun j t ht => by
        rw [Tryz.params3] at ht
        have hm : t ∈ [22] := by simpa using Array.mem_of_getElem? ht
        have hall : ([22].all fun u => !Tryz.prog.wantsStandIn u) = true := by kernel_rfl
        exact (show Tryz.prog.wantsStandIn t = false by simpa using List.all_eq_true.1 hall t hm)⟩)
    (by kernel_rfl)
#print axioms files_holds


end Go.Proofs.YtjlibnijecdgcaaGreatDoor
