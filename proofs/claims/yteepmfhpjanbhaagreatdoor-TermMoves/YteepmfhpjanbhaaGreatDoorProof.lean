/- TermMoves holds: for every script the statement's function answers true and leaves the script as it was: a term's print, lifting, substitution, levels, closedness, parts, spine, application and equality are the document's. The conditions: the tables that the program's text lays stand as laid. -/
import Derived.Test.YteepmfhpjanbhaaGreatDoorLaw
import Derived.Test.YteepmfhpjanbhaaGreatDoorCards
import Derived.Test.YteepmfhpjanbhaaGreatDoorTie
import Derived.Laws.EntriesVeiled
import Derived.LaidMore
import Derived.Defers
import Derived.Recover
import Derived.LaidHandle
import Derived.LaidSub
import Derived.ProofKit
import Derived.OpenShut
import Derived.ShutString
import Derived.ChangeOld
import Derived.Below
import Derived.Deep.Slices
import Derived.Stop.Joined
import Derived.SevenTiedAt

namespace Go.Proofs.YteepmfhpjanbhaaGreatDoor
open Go.ChangeShapes Go.WideShapes Go.ChangeAt Go.RowKit
open Go.ChangeMaps (open_string shut_string)

/-- A script as it came in: each step's six cells. -/
def IsOps (w : World) (a : Option Addr) (len : Nat) : Prop := len ≤ maxLen ∧ ∀ i, i < len → ∃ (b off : Nat) (kd x y : Int) (S T U : ByteArray), a = some ⟨b, off, none⟩ ∧ S.size ≤ maxLen ∧ T.size ≤ maxLen ∧ U.size ≤ maxLen ∧ (-9223372036854775808 ≤ x ∧ x ≤ 9223372036854775807 ∧ -9223372036854775808 ≤ y ∧ y ≤ 9223372036854775807) ∧
  w.cell? ⟨b, off + i * 6, none⟩ = some (.int .i64 kd) ∧ w.cell? ⟨b, off + i * 6 + 1, none⟩ = some (.string S) ∧ w.cell? ⟨b, off + i * 6 + 2, none⟩ = some (.string T) ∧ w.cell? ⟨b, off + i * 6 + 3, none⟩ = some (.string U) ∧
  w.cell? ⟨b, off + i * 6 + 4, none⟩ = some (.int .i64 x) ∧ w.cell? ⟨b, off + i * 6 + 5, none⟩ = some (.int .i64 y)

set_option maxRecDepth 100000 in
set_option maxHeartbeats 4000000 in
theorem moves_walk (a : Option Addr) (len cap wb wo wc0 : Nat) (w : World) (h : IsOps w a len) (ht : Laid wb wo wc0 w) :
    Calls Tryz.prog 3 #[.slice a len cap] w fun e w' => e = .returned (.bool true) ∧ Below w.heap.size w w' := by
  obtain ⟨hm, hc⟩ := h
  unfold maxLen at hm
  have HC := hide hc
  have HTb := hide ht
  have K0 := hide (moved_calls wb wo wc0 0 ⟨#[40, 97, 112, 112, 32, 35, 48, 32, 40, 115, 111, 114, 116, 32, 117, 41, 41]⟩ ⟨#[35, 48]⟩ ⟨#[117]⟩ 1 0 w (by decide +kernel) (by decide +kernel) (by decide +kernel) (by omega) (by omega) (by omega) (by omega) ht)
  clear hc ht
  go_enter Tryz.func3, Tryz.ntmps3
  go_wp2_with (go_at_call 4; refine K0.out.mono ?_)
  rintro e w0 ⟨rfl, hb0⟩
  have HB0 := hide hb0
  clear hb0
  go_wp2_with fail
  go_loopg [4] (len) (fun g i wr => ∃ k : Nat, k + g = len ∧ i = .int .i64 k ∧ Below w.heap.size w wr)
  case atStart => exact ⟨0, by omega, rfl, HB0.out⟩
  case round =>
    obtain ⟨k, hkg, rfl, hbel⟩ := hrel
    have HB := hide hbel
    clear hbel
    by_cases hlt : k < len
    · by_cases hmax : (k : Int) < 1152921504606846976
      · obtain ⟨b, off, kd, x, y, S, T, U, rfl, hS, hT, hU, ⟨x0, x1, y0, y1⟩, c0, c1, c2, c3, c4, c5⟩ := HC.out k hlt
        have d0 := cell_later HB.out c0
        have d1 := cell_later HB.out c1
        have d2 := cell_later HB.out c2
        have d3 := cell_later HB.out c3
        have d4 := cell_later HB.out c4
        have d5 := cell_later HB.out c5
        have K1 := hide (moved_calls wb wo wc0 kd S T U x y wr hS hT hU x0 x1 y0 y1 (HTb.out.later HB.out))
        clear c0 c1 c2 c3 c4 c5 hS hT hU x0 x1 y0 y1
        go_wp2_with (go_at_call 4; refine K1.out.mono ?_)
        rintro e w1 ⟨rfl, hb1⟩
        have HW1 := hide (HB.out.trans (hb1.mono HB.out.size))
        clear hb1 d0 d1 d2 d3 d4 d5
        go_wp2_with fail
        go_roundg (len - (k + 1))
        case measure => omega
        case rel => exact ⟨k + 1, by omega, by go_num, HW1.out⟩
      · go_wp2_with fail
        go_ret
        exact ⟨rfl, HB.out⟩
    · go_wp2_with fail
      go_ret
      exact ⟨rfl, HB.out⟩

theorem cells3 : Tryz.prog.cellsOf 3 = 1 := by kernel_rfl
theorem cells4 : Tryz.prog.cellsOf 4 = 1 := by kernel_rfl
theorem cells9 : Tryz.prog.cellsOf 9 = 1 := by kernel_rfl
theorem gShapes : Tryz.prog.globalNamed "provekernel/notation.levelShapes" = some 2 := by kernel_rfl
theorem tShapes : (Tryz.prog.globals[2]?).map (·.type) = some 122 := by kernel_rfl
theorem cells121 : Tryz.prog.cellsOf 121 = 2 := by kernel_rfl
theorem cells122 : Tryz.prog.cellsOf 122 = 10 := by kernel_rfl

set_option maxRecDepth 100000 in
/-- One row of the table, out of its reading. -/
theorem shape_cells {W : World} {n : Nat} {cs : List Value} {d : DataW Unit × List MemPlace} (ht : DataW.trod (fun _ => ()) Tryz.prog W 0 (fun _ => true) false n 121 cs = some d) :
    ∃ (s : ByteArray) (k : Int), cs = [.string s, .int .i64 k] ∧ d.1 = .agg [.lit (.string s.data.toList), .lit (.int .i64 k)] := by
  obtain ⟨xs, m, _, hd, hlen, hxs, hf⟩ := DataW.trod_struct Tryz.underlying121 ht
  rw [cells121] at hlen
  match cs, hlen with
  | [v0, v1], _ =>
    match xs, hxs with
    | [z0, z1], _ =>
      have f0 : DataW.trod (fun _ => ()) Tryz.prog W 0 (fun _ => true) false m 9 (List.take (Tryz.prog.cellsOf 9) (List.drop 0 [v0, v1])) = some z0 := hf 0 _ rfl
      rw [cells9] at f0
      have f1 : DataW.trod (fun _ => ()) Tryz.prog W 0 (fun _ => true) false m 3 (List.take (Tryz.prog.cellsOf 3) (List.drop 1 [v0, v1])) = some z1 := hf 1 _ rfl
      rw [cells3] at f1
      obtain ⟨s, h0, e0, _⟩ := DataW.trod_string Tryz.underlying9 f0
      obtain ⟨k, h1, e1, _⟩ := DataW.trod_int Tryz.underlying3 f1
      simp at h0 h1
      subst h0 h1
      exact ⟨s, k, rfl, by rw [hd, e0, e1]; rfl⟩

theorem str_of {s : ByteArray} {l : List UInt8} (h : s.data.toList = l) : s = ⟨l.toArray⟩ := by
  cases s; simp at h; subst h; simp

abbrev two : List (String × DataW Unit) := [("provekernel/notation.levelShapes", Rows.laid_provekernel_notation_levelShapes)]
theorem two_of : Rows.termMovesRow.laid.filter (fun x => x.1 == "provekernel/notation.levelShapes") = two := by
  simp [Rows.termMovesRow, two]

set_option maxRecDepth 100000 in
theorem of_laid0 {W : World} (h : laidMetH Tryz.prog Rows.termMovesRow.laid W) : Table W := by
  have h := h.filter (fun x => x.1 == "provekernel/notation.levelShapes")
  rw [two_of, MakeChecks.laidMetH_plain _ _ _ (by kernel_rfl)] at h
  obtain ⟨ps, ⟨g0, t0, cs0, f0, p0, q0, hg0, ht0, hv0, hd0, _, _⟩, _, _⟩ := h
  obtain rfl := Option.some.inj (gShapes.symm.trans hg0)
  obtain rfl := Option.some.inj (tShapes.symm.trans ht0)
  obtain ⟨xs, m, _, hx, hlen, hn, hel⟩ := DataW.trod_array Tryz.underlying122 hd0
  rw [cells122] at hlen
  have hc := World.var?_cell hg0 hv0
  simp only [Prod.mk.injEq] at hx
  match xs, hn with
  | [x0, x1, x2, x3, x4], _ =>
    obtain ⟨l⟩ := cs0
    match l, hlen with
    | [v0, v1, v2, v3, v4, v5, v6, v7, v8, v9], _ =>
      have r0 := hel 0 (by decide)
      have r1 := hel 1 (by decide)
      have r2 := hel 2 (by decide)
      have r3 := hel 3 (by decide)
      have r4 := hel 4 (by decide)
      rw [cells121] at r0 r1 r2 r3 r4
      obtain ⟨s0, j0, c0, d0⟩ := shape_cells (d := x0) r0
      obtain ⟨s1, j1, c1, d1⟩ := shape_cells (d := x1) r1
      obtain ⟨s2, j2, c2, d2⟩ := shape_cells (d := x2) r2
      obtain ⟨s3, j3, c3, d3⟩ := shape_cells (d := x3) r3
      obtain ⟨s4, j4, c4, d4⟩ := shape_cells (d := x4) r4
      simp at c0 c1 c2 c3 c4
      have hx1 := hx.1
      simp only [List.map_cons, List.map_nil, d0, d1, d2, d3, d4, Rows.laid_provekernel_notation_levelShapes, DataW.agg.injEq, List.cons.injEq, DataW.lit.injEq, Lit.string.injEq, Lit.int.injEq, and_true, true_and] at hx1
      obtain ⟨⟨e0, _⟩, ⟨e1, _⟩, ⟨e2, _⟩, ⟨e3, _⟩, ⟨e4, _⟩⟩ := hx1
      refine ⟨?_, ?_, ?_, ?_, ?_⟩
      · rw [hc]; simp [c0.1, str_of e0.symm]
      · rw [hc]; simp [c1.1, str_of e1.symm]
      · rw [hc]; simp [c2.1, str_of e2.symm]
      · rw [hc]; simp [c3.1, str_of e3.symm]
      · rw [hc]; simp [c4.1, str_of e4.symm]

theorem gTerm : Tryz.prog.globalNamed "provekernel/notation.termShapes" = some 1 := by kernel_rfl
theorem tTerm : (Tryz.prog.globals[1]?).map (·.type) = some 105 := by kernel_rfl
theorem cells104 : Tryz.prog.cellsOf 104 = 4 := by kernel_rfl
theorem cells105 : Tryz.prog.cellsOf 105 = 28 := by kernel_rfl
theorem gWords : Tryz.prog.globalNamed "provekernel/provekernelref.words" = some 0 := by kernel_rfl
theorem tWords : (Tryz.prog.globals[0]?).map (·.type) = some 41 := by kernel_rfl

set_option maxRecDepth 100000 in
/-- One row of the terms' table, out of its reading. -/
theorem tshape_cells {W : World} {n : Nat} {cs : List Value} {d : DataW Unit × List MemPlace} (ht : DataW.trod (fun _ => ()) Tryz.prog W 0 (fun _ => true) false n 104 cs = some d) :
    ∃ (s : ByteArray) (b : Bool) (j k : Int), cs = [.string s, .bool b, .int .i64 j, .int .i64 k] ∧ d.1 = .agg [.lit (.string s.data.toList), .lit (.bool b), .lit (.int .i64 j), .lit (.int .i64 k)] := by
  obtain ⟨xs, m, _, hd, hlen, hxs, hf⟩ := DataW.trod_struct Tryz.underlying104 ht
  rw [cells104] at hlen
  match cs, hlen with
  | [v0, v1, v2, v3], _ =>
    match xs, hxs with
    | [z0, z1, z2, z3], _ =>
      have f0 : DataW.trod (fun _ => ()) Tryz.prog W 0 (fun _ => true) false m 9 (List.take (Tryz.prog.cellsOf 9) (List.drop 0 [v0, v1, v2, v3])) = some z0 := hf 0 _ rfl
      rw [cells9] at f0
      have f1 : DataW.trod (fun _ => ()) Tryz.prog W 0 (fun _ => true) false m 4 (List.take (Tryz.prog.cellsOf 4) (List.drop 1 [v0, v1, v2, v3])) = some z1 := hf 1 _ rfl
      rw [cells4] at f1
      have f2 : DataW.trod (fun _ => ()) Tryz.prog W 0 (fun _ => true) false m 3 (List.take (Tryz.prog.cellsOf 3) (List.drop 2 [v0, v1, v2, v3])) = some z2 := hf 2 _ rfl
      rw [cells3] at f2
      have f3 : DataW.trod (fun _ => ()) Tryz.prog W 0 (fun _ => true) false m 3 (List.take (Tryz.prog.cellsOf 3) (List.drop 3 [v0, v1, v2, v3])) = some z3 := hf 3 _ rfl
      rw [cells3] at f3
      obtain ⟨s, h0, e0, _⟩ := DataW.trod_string Tryz.underlying9 f0
      obtain ⟨b, h1, e1⟩ := DataW.trod_bool Tryz.underlying4 f1
      obtain ⟨j, h2, e2, _⟩ := DataW.trod_int Tryz.underlying3 f2
      obtain ⟨k, h3, e3, _⟩ := DataW.trod_int Tryz.underlying3 f3
      simp at h0 h1 h2 h3
      subst h0 h1 h2 h3
      exact ⟨s, b, j, k, rfl, by rw [hd, e0, e1, e2, e3]; rfl⟩

def tcs : List Value := [.string ⟨#[]⟩, .bool false, .int .i64 0, .int .i64 0, .string ⟨#[115, 111, 114, 116]⟩, .bool false, .int .i64 1, .int .i64 0, .string ⟨#[99, 111, 110, 115, 116]⟩, .bool true, .int .i64 (-1), .int .i64 0, .string ⟨#[97, 112, 112]⟩, .bool false, .int .i64 0, .int .i64 2, .string ⟨#[108, 97, 109]⟩, .bool false, .int .i64 0, .int .i64 2, .string ⟨#[112, 105]⟩, .bool false, .int .i64 0, .int .i64 2, .string ⟨#[108, 101, 116]⟩, .bool false, .int .i64 0, .int .i64 3]

abbrev tsh : List (String × DataW Unit) := [("provekernel/notation.termShapes", Rows.laid_provekernel_notation_termShapes)]
theorem tsh_of : Rows.termMovesRow.laid.filter (fun x => x.1 == "provekernel/notation.termShapes") = tsh := by
  simp [Rows.termMovesRow, tsh]
abbrev wrd : List (String × DataW Unit) := [("provekernel/provekernelref.words", Rows.laid_provekernel_provekernelref_words)]
theorem wrd_of : Rows.termMovesRow.laid.filter (fun x => x.1 == "provekernel/provekernelref.words") = wrd := by
  simp [Rows.termMovesRow, wrd]

set_option maxRecDepth 100000 in
theorem of_laid1 {W : World} (h : laidMetH Tryz.prog Rows.termMovesRow.laid W) : TTable W := by
  have h := h.filter (fun x => x.1 == "provekernel/notation.termShapes")
  rw [tsh_of, MakeChecks.laidMetH_plain _ _ _ (by kernel_rfl)] at h
  obtain ⟨ps, ⟨g0, t0, cs0, f0, p0, q0, hg0, ht0, hv0, hd0, _, _⟩, _, _⟩ := h
  obtain rfl := Option.some.inj (gTerm.symm.trans hg0)
  obtain rfl := Option.some.inj (tTerm.symm.trans ht0)
  obtain ⟨xs, m, _, hx, hlen, hn, hel⟩ := DataW.trod_array Tryz.underlying105 hd0
  rw [cells105] at hlen
  have hc := World.var?_cell hg0 hv0
  simp only [Prod.mk.injEq] at hx
  match xs, hn with
  | [x0, x1, x2, x3, x4, x5, x6], _ =>
    obtain ⟨l⟩ := cs0
    match l, hlen with
    | [v0, v1, v2, v3, v4, v5, v6, v7, v8, v9, v10, v11, v12, v13, v14, v15, v16, v17, v18, v19, v20, v21, v22, v23, v24, v25, v26, v27], _ =>
      have r0 := hel 0 (by decide)
      have r1 := hel 1 (by decide)
      have r2 := hel 2 (by decide)
      have r3 := hel 3 (by decide)
      have r4 := hel 4 (by decide)
      have r5 := hel 5 (by decide)
      have r6 := hel 6 (by decide)
      rw [cells104] at r0 r1 r2 r3 r4 r5 r6
      obtain ⟨s0, b0, j0, k0, c0, d0⟩ := tshape_cells (d := x0) r0
      obtain ⟨s1, b1, j1, k1, c1, d1⟩ := tshape_cells (d := x1) r1
      obtain ⟨s2, b2, j2, k2, c2, d2⟩ := tshape_cells (d := x2) r2
      obtain ⟨s3, b3, j3, k3, c3, d3⟩ := tshape_cells (d := x3) r3
      obtain ⟨s4, b4, j4, k4, c4, d4⟩ := tshape_cells (d := x4) r4
      obtain ⟨s5, b5, j5, k5, c5, d5⟩ := tshape_cells (d := x5) r5
      obtain ⟨s6, b6, j6, k6, c6, d6⟩ := tshape_cells (d := x6) r6
      simp at c0 c1 c2 c3 c4 c5 c6
      have hx1 := hx.1
      simp only [List.map_cons, List.map_nil, d0, d1, d2, d3, d4, d5, d6, Rows.laid_provekernel_notation_termShapes, DataW.agg.injEq, List.cons.injEq, DataW.lit.injEq, Lit.string.injEq, Lit.bool.injEq, Lit.int.injEq, and_true, true_and] at hx1
      obtain ⟨⟨e0, i0, m0, n0⟩, ⟨e1, i1, m1, n1⟩, ⟨e2, i2, m2, n2⟩, ⟨e3, i3, m3, n3⟩, ⟨e4, i4, m4, n4⟩, ⟨e5, i5, m5, n5⟩, ⟨e6, i6, m6, n6⟩⟩ := hx1
      obtain ⟨a0, a1, a2, a3⟩ := c0
      obtain ⟨a4, a5, a6, a7⟩ := c1
      obtain ⟨a8, a9, a10, a11⟩ := c2
      obtain ⟨a12, a13, a14, a15⟩ := c3
      obtain ⟨a16, a17, a18, a19⟩ := c4
      obtain ⟨a20, a21, a22, a23⟩ := c5
      obtain ⟨a24, a25, a26, a27⟩ := c6
      have hl : [v0, v1, v2, v3, v4, v5, v6, v7, v8, v9, v10, v11, v12, v13, v14, v15, v16, v17, v18, v19, v20, v21, v22, v23, v24, v25, v26, v27] = tcs := by
        rw [a0, a1, a2, a3, a4, a5, a6, a7, a8, a9, a10, a11, a12, a13, a14, a15, a16, a17, a18, a19, a20, a21, a22, a23, a24, a25, a26, a27]
        rw [str_of e0.symm, str_of e1.symm, str_of e2.symm, str_of e3.symm, str_of e4.symm, str_of e5.symm, str_of e6.symm, ← i0, ← m0, ← n0, ← i1, ← m1, ← n1, ← i2, ← m2, ← n2, ← i3, ← m3, ← n3, ← i4, ← m4, ← n4, ← i5, ← m5, ← n5, ← i6, ← m6, ← n6]
        rfl
      have hcell : ∀ j, W.cell? ⟨1, j, none⟩ = tcs[j]? := fun j => by
        rw [hc]
        show ([v0, v1, v2, v3, v4, v5, v6, v7, v8, v9, v10, v11, v12, v13, v14, v15, v16, v17, v18, v19, v20, v21, v22, v23, v24, v25, v26, v27].toArray)[j]? = tcs[j]?
        rw [hl]
        simp
      refine ⟨fun k hk => ?_, fun k hk => ?_, fun k hk => ?_, fun k hk => ?_⟩
      all_goals
        rw [hcell]
        have : k = 0 ∨ k = 1 ∨ k = 2 ∨ k = 3 ∨ k = 4 ∨ k = 5 ∨ k = 6 := by omega
        rcases this with rfl | rfl | rfl | rfl | rfl | rfl | rfl <;> first | rfl | exact ⟨_, rfl⟩

set_option maxRecDepth 100000 in
theorem of_laid2 {W : World} (h : laidMetH Tryz.prog Rows.termMovesRow.laid W) : ∃ wb wo wc, WordsAt W wb wo wc := by
  have h := h.filter (fun x => x.1 == "provekernel/provekernelref.words")
  rw [wrd_of, MakeChecks.laidMetH_plain _ _ _ (by kernel_rfl)] at h
  obtain ⟨ps, ⟨g0, t0, cs0, f0, p0, q0, hg0, ht0, hv0, hd0, _, _⟩, _, _⟩ := h
  obtain rfl := Option.some.inj (gWords.symm.trans hg0)
  obtain rfl := Option.some.inj (tWords.symm.trans ht0)
  have hc := World.var?_cell hg0 hv0 0
  obtain ⟨l⟩ := cs0
  rcases Deep.open_slice1 Tryz.underlying41 cells9 hd0 with ⟨_, hx⟩ | ⟨a, len, cap, m, n, V, D, Pl, hcs, _, hl, hm, hmm, hx, hel⟩
  · simp [Rows.laid_provekernel_provekernelref_words] at hx
  · simp only [Prod.mk.injEq, Rows.laid_provekernel_provekernelref_words, DataW.slice.injEq] at hx
    have hlen : len = 7 := by have := congrArg List.length hx.1.1; simpa using this.symm
    subst hlen
    have hD := hx.1.1
    simp [List.range, List.range.loop] at hD
    obtain ⟨D0, D1, D2, D3, D4, D5, D6⟩ := hD
    have hmi : ∀ j, j < 7 → j < m := fun j hj => by rw [hmm]; simp; omega
    obtain ⟨b, off, spot⟩ := a
    have hspot : spot = none := by
      have := (hel 0 (hmi 0 (by omega))).1
      exact World.cell?_spot this
    subst hspot
    have hw : ∀ i, i < 7 → ∀ q : List UInt8, D i = .lit (.string q) → W.cell? ⟨b, off + i, none⟩ = some (.string ⟨q.toArray⟩) := fun i hi q hq => by
      obtain ⟨h1, h2⟩ := hel i (hmi i hi)
      obtain ⟨s, h3, h4, _⟩ := DataW.trod_string Tryz.underlying9 h2
      simp at h3
      rw [Addr.add_lit] at h1
      rw [h1, h3]
      have : D i = .lit (.string s.data.toList) := (Prod.mk.inj h4).1
      rw [hq] at this
      simp at this
      rw [str_of this.symm]
    refine ⟨b, off, cap, ?_, hw 1 (by omega) _ D1.symm, hw 2 (by omega) _ D2.symm, hw 3 (by omega) _ D3.symm, hw 4 (by omega) _ D4.symm, hw 5 (by omega) _ D5.symm, hw 6 (by omega) _ D6.symm⟩
    simp at hcs
    subst hcs
    simpa using hc

theorem gPow : Tryz.prog.globalNamed "internal/strconv.uint64pow10" = some 3 := by kernel_rfl
theorem tPow : (Tryz.prog.globals[3]?).map (·.type) = some 140 := by kernel_rfl
abbrev pwl : List (String × DataW Unit) := [("internal/strconv.uint64pow10", Rows.laid_internal_strconv_uint64pow10)]
theorem pwl_of : Rows.termMovesRow.laid.filter (fun x => x.1 == "internal/strconv.uint64pow10") = pwl := by
  simp [Rows.termMovesRow, pwl]
theorem of_laid3 {W : World} (h : laidMetH Tryz.prog Rows.termMovesRow.laid W) : Pow10 W ∧ 3 < W.heap.size := by
  have h := h.filter (fun x => x.1 == "internal/strconv.uint64pow10")
  rw [pwl_of, MakeChecks.laidMetH_plain _ _ _ (by kernel_rfl)] at h
  have hp : Pow10 W := Lib.tabIs_of_head (k := .u64) (zs := Lib.pow10Tab) (rest := []) gPow tPow Tryz.underlying140 Tryz.underlying134 (by kernel_rfl) (by kernel_rfl) h
  exact ⟨hp, World.block_lt_of_cell? _ _ (Lib.TabIs.cell hp gPow 0 (by decide))⟩

theorem of_laid {W : World} (h : laidMetH Tryz.prog Rows.termMovesRow.laid W) : ∃ wb wo wc, Laid wb wo wc W := by
  obtain ⟨wb, wo, wc, hw⟩ := of_laid2 h
  obtain ⟨hp, h3⟩ := of_laid3 h
  exact ⟨wb, wo, wc, hw, of_laid0 h, of_laid1 h, hp, h3⟩

theorem fits_wf {x : Int} (h : (Lit.int .i64 x).wf = true) : -9223372036854775808 ≤ x ∧ x ≤ 9223372036854775807 := by
  unfold Lit.wf at h
  simp [IntKind.min, IntKind.max, IntKind.bits, IntKind.signed] at h
  omega

/-- The heap that the door's own run leaves meets the condition. -/
theorem door_met (os : Os) (args : Array Value) : laidMetH Tryz.prog Rows.termMovesRow.laid ((World.doorLaid Tryz.prog 400 os).forCall (fun _ _ => 0) ⟨#[], args, []⟩).memory :=
  laidMetH_of_parts3 (fuel := 8) (laidMet_of_run' 8 (by kernel_rfl) (by kernel_rfl)) (by kernel_rfl) (by kernel_rfl)



theorem own : ownKnob Tryz.prog.godebug = none := by kernel_rfl
theorem laidOut : laidOutB Tryz.prog = true := by kernel_rfl

theorem cells25 : Tryz.prog.cellsOf 25 = 6 := by kernel_rfl
set_option maxRecDepth 100000 in
/-- A step's six cells, out of its reading. -/
theorem op_cells {H : Type} {enc : TypeId × Value → H} {W : World} {base n : Nat} {spare : Nat → Bool} {held : Bool} {cs : List Value} {d : DataW H × List MemPlace} (ht : DataW.trod enc Tryz.prog W base spare held n 25 cs = some d) :
    ∃ (kd x y : Int) (S T U : ByteArray), cs = [.int .i64 kd, .string S, .string T, .string U, .int .i64 x, .int .i64 y] ∧ S.size ≤ maxLen ∧ T.size ≤ maxLen ∧ U.size ≤ maxLen ∧ (-9223372036854775808 ≤ x ∧ x ≤ 9223372036854775807 ∧ -9223372036854775808 ≤ y ∧ y ≤ 9223372036854775807) := by
  obtain ⟨xs, m, _, _, hlen, hxs, hf⟩ := DataW.trod_struct Tryz.underlying25 ht
  rw [cells25] at hlen
  match cs, hlen with
  | [v0, v1, v2, v3, v4, v5], _ =>
    have g : ∀ i, i < 6 → ∃ z, xs[i]? = some z := fun i hi => ⟨xs[i]'(by rw [hxs]; exact hi), List.getElem?_eq_getElem _⟩
    obtain ⟨z0, e0⟩ := g 0 (by omega)
    obtain ⟨z1, e1⟩ := g 1 (by omega)
    obtain ⟨z2, e2⟩ := g 2 (by omega)
    obtain ⟨z3, e3⟩ := g 3 (by omega)
    obtain ⟨z4, e4⟩ := g 4 (by omega)
    obtain ⟨z5, e5⟩ := g 5 (by omega)
    have f0 : DataW.trod enc Tryz.prog W base spare held m 3 (List.take (Tryz.prog.cellsOf 3) (List.drop 0 [v0, v1, v2, v3, v4, v5])) = some z0 := (hf 0 _ rfl).trans e0
    rw [cells3] at f0
    have f1 : DataW.trod enc Tryz.prog W base spare held m 9 (List.take (Tryz.prog.cellsOf 9) (List.drop 1 [v0, v1, v2, v3, v4, v5])) = some z1 := (hf 1 _ rfl).trans e1
    rw [cells9] at f1
    have f2 : DataW.trod enc Tryz.prog W base spare held m 9 (List.take (Tryz.prog.cellsOf 9) (List.drop 2 [v0, v1, v2, v3, v4, v5])) = some z2 := (hf 2 _ rfl).trans e2
    rw [cells9] at f2
    have f3 : DataW.trod enc Tryz.prog W base spare held m 9 (List.take (Tryz.prog.cellsOf 9) (List.drop 3 [v0, v1, v2, v3, v4, v5])) = some z3 := (hf 3 _ rfl).trans e3
    rw [cells9] at f3
    have f4 : DataW.trod enc Tryz.prog W base spare held m 3 (List.take (Tryz.prog.cellsOf 3) (List.drop 4 [v0, v1, v2, v3, v4, v5])) = some z4 := (hf 4 _ rfl).trans e4
    rw [cells3] at f4
    have f5 : DataW.trod enc Tryz.prog W base spare held m 3 (List.take (Tryz.prog.cellsOf 3) (List.drop 5 [v0, v1, v2, v3, v4, v5])) = some z5 := (hf 5 _ rfl).trans e5
    rw [cells3] at f5
    obtain ⟨kd, h0, _⟩ := DataW.trod_int Tryz.underlying3 f0
    obtain ⟨S, h1, _, hS⟩ := DataW.trod_string Tryz.underlying9 f1
    obtain ⟨T, h2, _, hT⟩ := DataW.trod_string Tryz.underlying9 f2
    obtain ⟨U, h3, _, hU⟩ := DataW.trod_string Tryz.underlying9 f3
    obtain ⟨x, h4, _, hx⟩ := DataW.trod_int Tryz.underlying3 f4
    obtain ⟨y, h5, _, hy⟩ := DataW.trod_int Tryz.underlying3 f5
    simp at h0 h1 h2 h3 h4 h5
    subst h0 h1 h2 h3 h4 h5
    exact ⟨kd, x, y, S, T, U, rfl, hS, hT, hU, (fits_wf hx).1, (fits_wf hx).2, (fits_wf hy).1, (fits_wf hy).2⟩

set_option maxRecDepth 100000 in
theorem lifted (os : Os) (started : os.Started) (H : Type) (enc : TypeId × Value → H) :
    ReturnsInHanded {} Tryz.checked os 3 .any (fun w args => (Rows.termMovesSpec.pre enc Tryz.prog Tryz.f3 [] false w args ∧ laidMetH Tryz.prog Rows.termMovesRow.laid w) ∧ sizedMet enc Tryz.prog Tryz.f3 (OpenSpec.ofChange Rows.termMovesSpec) false w args)
      (Rows.termMovesSpec.post enc Tryz.prog Tryz.f3 false true false false) := by
  refine returnsInHanded_of_change_and (C := Tryz.checked) (X := fun w _ => laidMetH Tryz.prog Rows.termMovesRow.laid w) (fun _ _ _ hh h => h.of_heap hh) own started (by kernel_rfl) Tryz.func3
    (ChangeSpec.witness_shaped (enc := enc) (C := Tryz.checked) (os := os) (X := fun w _ => laidMetH Tryz.prog Rows.termMovesRow.laid w) false (World.doorLaid Tryz.prog 400 os) #[.slice none 0 0] 8 rfl (World.shaped_of_RefB (by kernel_rfl) (by kernel_rfl)) (by kernel_rfl) (by kernel_rfl) (by kernel_rfl) (door_met os _)) ?_
  intro W base args ds gs before hval0 hW _ _ hL _
  have hval : ∀ (j : Nat) t v, Tryz.f3.params[j]? = some t → args[j]? = some v → Value.okWide Tryz.prog W .any base t v := hval0
  have hW' := hW
  obtain ⟨p, q, hA0, hV, rfl, hfz, hnd⟩ := hW
  have hA : DataW.TrodAll enc Tryz.prog W 0 (fun _ => true) true Tryz.f3.params.toList args.toList ds p := hA0
  rw [Tryz.params3] at hA hval
  obtain ⟨v0, vs0, d0, ds0, p0, q0, hargs, rfl, rfl, h0, r0⟩ := trodAll_cons hA
  obtain ⟨rfl, rfl, rfl⟩ := trodAll_nil r0
  obtain rfl : args = #[v0] := by cases args; simp_all
  obtain ⟨rfl, rfl⟩ := trodVars_none hV
  obtain ⟨a0, len0, cap0, rfl⟩ := okWide_slice Tryz.underlying22 (hval 0 22 v0 rfl rfl)
  have k0 := h0
  have lt0 : ∀ x ∈ p0, x.block < W.heap.size := by obtain ⟨m, hm⟩ := k0; exact DataW.trod_lt m _ _ _ hm
  have w0 : IsOps W a0 len0 := by
    obtain ⟨fuel, hf⟩ := h0
    rcases Deep.open_slice Tryz.underlying22 hf with ⟨hcs, _⟩ | ⟨x, l, c, m, n, D, Pl, hcs, _, hl, hm, hmm, _, hel⟩
    · simp [Value.cells] at hcs
      obtain ⟨rfl, rfl, rfl⟩ := hcs
      exact ⟨by unfold maxLen; omega, fun i hi => absurd hi (by omega)⟩
    · simp [Value.cells] at hcs
      obtain ⟨rfl, rfl, rfl⟩ := hcs
      refine ⟨by omega, fun i hi => ?_⟩
      have hmi : ∀ j, j < len0 → j < m := fun j hj => by rw [hmm]; simp; omega
      obtain ⟨b, off, spot⟩ := x
      have hspot : spot = none := by
        obtain ⟨cs, hc, ht⟩ := hel 0 (hmi 0 (by omega))
        obtain ⟨kd, x, y, S, T, U, rfl, _⟩ := op_cells ht
        rw [cells25] at hc
        have := (World.cells?_some hc).2.2 0 (by omega)
        simpa [Addr.add] using World.cell?_spot this
      subst hspot
      obtain ⟨cs, hc, ht⟩ := hel i (hmi i hi)
      obtain ⟨kd, x, y, S, T, U, rfl, hS, hT, hU, hxy⟩ := op_cells ht
      rw [cells25] at hc
      have hcell := (World.cells?_some hc).2.2
      have g0 := hcell 0 (by omega)
      have g1 := hcell 1 (by omega)
      have g2 := hcell 2 (by omega)
      have g3 := hcell 3 (by omega)
      have g4 := hcell 4 (by omega)
      have g5 := hcell 5 (by omega)
      simp only [Addr.add_lit] at g0 g1 g2 g3 g4 g5
      exact ⟨b, off, kd, x, y, S, T, U, rfl, hS, hT, hU, hxy, g0, g1, g2, g3, g4, g5⟩
  clear hA0 hval0
  obtain ⟨wb, wo, wc0, hAll⟩ := of_laid hL
  refine (moves_walk a0 len0 cap0 wb wo wc0 W w0 hAll).mono fun e W' ⟨he, bel⟩ => ?_
  subst he
  exact ⟨_, rfl, _, _, _, [], _, [], hW', trodAll_mk1 (shut_bool Tryz.underlying4 _), (trodAll_cons_mk (Below.trod laidOut (by kernel_rfl) (of_decide_eq_true (by kernel_rfl)) k0 bel lt0) trodAll_mk0), rfl, bel.frame _, fun h => by cases h⟩

theorem row_holds : Rows.TermMovesSaid :=
  OpenClaim.holds_of_wide 3 Tryz.f3 rfl rfl rfl rfl rfl rfl rfl ⟨rfl, rfl, rfl, rfl, rfl⟩ rfl rfl rfl rfl rfl (by kernel_rfl) Tryz.func3 (by kernel_rfl)
    (of_decide_eq_true (by kernel_rfl)) (by unfold Func.isWrapper; first | (rw [if_pos (by decide +kernel)]; kernel_rfl) | (rw [if_neg (by decide +kernel)]; exact ⟨rfl, rfl⟩))
    (fun os started H enc _ => lifted os started H enc)
#print axioms row_holds



theorem termMoves_holds : Rows.TermMovesCardSaid :=
  Claim7.holds_tied_plain_at .later [] [.data, .data, .data, .data, .data, .data] true (true, "fe189604bda37fa5bcef99934c46a5e6cf7996ce562deb06b65b294ec3aa5188") false
    row_holds (fun _ h => by cases h) (by kernel_rfl) (fun _ h => by cases h) termMoves_row_tie rfl ⟨rfl, rfl⟩ (by kernel_rfl) rfl
    (fun f fn hf hfn => by
      obtain rfl : f = 3 := Option.some.inj ((show Tryz.prog.funcNamed "provekernel/provekernellaw.TermMoves" = some 3 by kernel_rfl).symm.trans hf) |>.symm
      obtain rfl : fn = Tryz.f3 := (Option.some.inj (Tryz.func3.symm.trans hfn)).symm
      exact ⟨by kernel_rfl, fun j t ht => by
        rw [Tryz.params3] at ht
        have hm : t ∈ [22] := by simpa using Array.mem_of_getElem? ht
        have hall : ([22].all fun u => !Tryz.prog.wantsStandIn u) = true := by kernel_rfl
        exact (show Tryz.prog.wantsStandIn t = false by simpa using List.all_eq_true.1 hall t hm)⟩)
    (by kernel_rfl)
#print axioms termMoves_holds


end Go.Proofs.YteepmfhpjanbhaaGreatDoor
