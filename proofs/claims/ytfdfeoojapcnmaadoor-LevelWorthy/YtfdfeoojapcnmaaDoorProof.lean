/- The row of LevelWorthy: for every script, what package level says of the order of two levels holds of their worths, and what it prints reads back; where the listed tables read as the program's text lays them. -/
import Derived.Test.YtfdfeoojapcnmaaDoorWalk
import Derived.Test.YtfdfeoojapcnmaaDoorLaid
namespace Go.Proofs.YtfdfeoojapcnmaaDoor
open Go.ChangeShapes Go.WideShapes Go.ChangeAt Go.RowKit
open Go.ChangeMaps (open_string shut_string)

theorem own : ownKnob Tryd.prog.godebug = none := by kernel_rfl
theorem laidOut : laidOutB Tryd.prog = true := by kernel_rfl

theorem fits_wf {x : Int} (h : (Lit.int .i64 x).wf = true) : Fits x := by
  unfold Lit.wf at h
  rw [Bool.and_eq_true, decide_eq_true_eq, decide_eq_true_eq] at h
  have e1 : IntKind.i64.min = -9223372036854775808 := by decide
  have e2 : IntKind.i64.max = 9223372036854775807 := by decide
  rw [e1, e2] at h
  exact h

theorem cells25 : Tryd.prog.cellsOf 25 = 6 := by kernel_rfl
set_option maxRecDepth 100000 in
/-- A step's six cells, out of its reading. -/
theorem op_cells {H : Type} {enc : TypeId × Value → H} {W : World} {base n : Nat} {spare : Nat → Bool} {held : Bool} {cs : List Value} {d : DataW H × List MemPlace} (ht : DataW.trod enc Tryd.prog W base spare held n 25 cs = some d) :
    ∃ (kd x y : Int) (S T U : ByteArray), cs = [.int .i64 kd, .string S, .string T, .string U, .int .i64 x, .int .i64 y] ∧ S.size ≤ maxLen ∧ T.size ≤ maxLen ∧ Fits x ∧ Fits y := by
  obtain ⟨xs, m, _, _, hlen, hxs, hf⟩ := DataW.trod_struct Tryd.underlying25 ht
  rw [cells25] at hlen
  match cs, hlen with
  | [v0, v1, v2, v3, v4, v5], _ =>
    have g : ∀ i, i < 6 → ∃ z, xs[i]? = some z := fun i hi => ⟨xs[i]'(by rw [hxs]; exact hi), List.getElem?_eq_getElem _⟩
    obtain ⟨z0, e0⟩ := g 0 (by omega)
    obtain ⟨z1, e1⟩ := g 1 (by omega)
    obtain ⟨z2, e2⟩ := g 2 (by omega)
    obtain ⟨z3, e3⟩ := g 3 (by omega)
    obtain ⟨z4, e4⟩ := g 4 (by omega)
    obtain ⟨z5, e5⟩ := g 5 (by omega)
    have f0 : DataW.trod enc Tryd.prog W base spare held m 3 (List.take (Tryd.prog.cellsOf 3) (List.drop 0 [v0, v1, v2, v3, v4, v5])) = some z0 := (hf 0 _ rfl).trans e0
    rw [cells3] at f0
    have f1 : DataW.trod enc Tryd.prog W base spare held m 9 (List.take (Tryd.prog.cellsOf 9) (List.drop 1 [v0, v1, v2, v3, v4, v5])) = some z1 := (hf 1 _ rfl).trans e1
    rw [cells9] at f1
    have f2 : DataW.trod enc Tryd.prog W base spare held m 9 (List.take (Tryd.prog.cellsOf 9) (List.drop 2 [v0, v1, v2, v3, v4, v5])) = some z2 := (hf 2 _ rfl).trans e2
    rw [cells9] at f2
    have f3 : DataW.trod enc Tryd.prog W base spare held m 9 (List.take (Tryd.prog.cellsOf 9) (List.drop 3 [v0, v1, v2, v3, v4, v5])) = some z3 := (hf 3 _ rfl).trans e3
    rw [cells9] at f3
    have f4 : DataW.trod enc Tryd.prog W base spare held m 3 (List.take (Tryd.prog.cellsOf 3) (List.drop 4 [v0, v1, v2, v3, v4, v5])) = some z4 := (hf 4 _ rfl).trans e4
    rw [cells3] at f4
    have f5 : DataW.trod enc Tryd.prog W base spare held m 3 (List.take (Tryd.prog.cellsOf 3) (List.drop 5 [v0, v1, v2, v3, v4, v5])) = some z5 := (hf 5 _ rfl).trans e5
    rw [cells3] at f5
    obtain ⟨kd, h0, _⟩ := DataW.trod_int Tryd.underlying3 f0
    obtain ⟨S, h1, _, hS⟩ := DataW.trod_string Tryd.underlying9 f1
    obtain ⟨T, h2, _, hT⟩ := DataW.trod_string Tryd.underlying9 f2
    obtain ⟨U, h3, _, _⟩ := DataW.trod_string Tryd.underlying9 f3
    obtain ⟨x, h4, _, hx⟩ := DataW.trod_int Tryd.underlying3 f4
    obtain ⟨y, h5, _, hy⟩ := DataW.trod_int Tryd.underlying3 f5
    simp at h0 h1 h2 h3 h4 h5
    subst h0 h1 h2 h3 h4 h5
    exact ⟨kd, x, y, S, T, U, rfl, hS, hT, fits_wf hx, fits_wf hy⟩

set_option maxRecDepth 100000 in
theorem lifted (os : Os) (started : os.Started) (H : Type) (enc : TypeId × Value → H) :
    ReturnsInHanded {} Tryd.checked os 3 .any (fun w args => (Rows.levelWorthySpec.pre enc Tryd.prog Tryd.f3 [] false w args ∧ laidMetH Tryd.prog Rows.levelWorthyRow.laid w) ∧ sizedMet enc Tryd.prog Tryd.f3 (OpenSpec.ofChange Rows.levelWorthySpec) false w args)
      (Rows.levelWorthySpec.post enc Tryd.prog Tryd.f3 false true false false) := by
  refine returnsInHanded_of_change_and (C := Tryd.checked) (X := fun w _ => laidMetH Tryd.prog Rows.levelWorthyRow.laid w) (fun _ _ _ hh h => h.of_heap hh) own started (by kernel_rfl) Tryd.func3
    (ChangeSpec.witness_shaped (enc := enc) (C := Tryd.checked) (os := os) (X := fun w _ => laidMetH Tryd.prog Rows.levelWorthyRow.laid w) false (World.doorLaid Tryd.prog 400 os) #[.slice none 0 0] 8 rfl (World.shaped_of_RefB (by kernel_rfl) (by kernel_rfl)) (by kernel_rfl) (by kernel_rfl) (by kernel_rfl) (door_met os _)) ?_
  intro W base args ds gs before hval0 hW _ _ hL _
  have hval : ∀ (j : Nat) t v, Tryd.f3.params[j]? = some t → args[j]? = some v → Value.okWide Tryd.prog W .any base t v := hval0
  have hW' := hW
  obtain ⟨p, q, hA0, hV, rfl, hfz, hnd⟩ := hW
  have hA : DataW.TrodAll enc Tryd.prog W 0 (fun _ => true) true Tryd.f3.params.toList args.toList ds p := hA0
  rw [Tryd.params3] at hA hval
  obtain ⟨v0, vs0, d0, ds0, p0, q0, hargs, rfl, rfl, h0, r0⟩ := trodAll_cons hA
  obtain ⟨rfl, rfl, rfl⟩ := trodAll_nil r0
  obtain rfl : args = #[v0] := by cases args; simp_all
  obtain ⟨rfl, rfl⟩ := trodVars_none hV
  obtain ⟨a0, len0, cap0, rfl⟩ := okWide_slice Tryd.underlying22 (hval 0 22 v0 rfl rfl)
  have k0 := h0
  have lt0 : ∀ x ∈ p0, x.block < W.heap.size := by obtain ⟨m, hm⟩ := k0; exact DataW.trod_lt m _ _ _ hm
  have w0 : IsOps W a0 len0 := by
    obtain ⟨fuel, hf⟩ := h0
    rcases Deep.open_slice Tryd.underlying22 hf with ⟨hcs, _⟩ | ⟨x, l, c, m, n, D, Pl, hcs, _, hl, hm, hmm, _, hel⟩
    · simp [Value.cells] at hcs
      obtain ⟨rfl, rfl, rfl⟩ := hcs
      exact ⟨by unfold maxLen; omega, fun i hi => absurd hi (by omega)⟩
    · simp [Value.cells] at hcs
      obtain ⟨rfl, rfl, rfl⟩ := hcs
      refine ⟨by omega, fun i hi => ?_⟩
      have hmi : ∀ j, j < len0 → j < m := fun j hj => by rw [hmm]; simp; omega
      obtain ⟨b, off, spot⟩ := x
      have hspot : spot = none := by
        obtain ⟨cs, hc, ht⟩ := hel 0 (hmi 0 (by omega))
        obtain ⟨kd, x, y, S, T, U, rfl, _⟩ := op_cells ht
        rw [cells25] at hc
        have := (World.cells?_some hc).2.2 0 (by omega)
        simpa [Addr.add] using World.cell?_spot this
      subst hspot
      obtain ⟨cs, hc, ht⟩ := hel i (hmi i hi)
      obtain ⟨kd, x, y, S, T, U, rfl, hS, hT, hx, hy⟩ := op_cells ht
      rw [cells25] at hc
      have hcell := (World.cells?_some hc).2.2
      have g0 := hcell 0 (by omega)
      have g1 := hcell 1 (by omega)
      have g2 := hcell 2 (by omega)
      have g3 := hcell 3 (by omega)
      have g4 := hcell 4 (by omega)
      have g5 := hcell 5 (by omega)
      simp only [Addr.add_lit] at g0 g1 g2 g3 g4 g5
      exact ⟨b, off, kd, x, y, S, T, U, rfl, hS, hT, hx, hy, g0, g1, g2, g3, g4, g5⟩
  clear hA0 hval0
  refine (worthy_walk a0 len0 cap0 W w0 (of_laid hL)).mono fun e W' ⟨he, bel⟩ => ?_
  subst he
  exact ⟨_, rfl, _, _, _, [], _, [], hW', trodAll_mk1 (shut_bool Tryd.underlying4 _), (trodAll_cons_mk (Below.trod laidOut (by kernel_rfl) (of_decide_eq_true (by kernel_rfl)) k0 bel lt0) trodAll_mk0), rfl, bel.frame _, fun h => by cases h⟩

theorem row_holds : Rows.LevelWorthySaid :=
  OpenClaim.holds_of_wide 3 Tryd.f3 rfl rfl rfl rfl rfl rfl rfl ⟨rfl, rfl, rfl, rfl, rfl⟩ rfl rfl rfl rfl rfl (by kernel_rfl) Tryd.func3 (by kernel_rfl)
    (of_decide_eq_true (by kernel_rfl)) (by unfold Func.isWrapper; first | (rw [if_pos (by decide +kernel)]; kernel_rfl) | (rw [if_neg (by decide +kernel)]; exact ⟨rfl, rfl⟩))
    (fun os started H enc _ => lifted os started H enc)
#print axioms row_holds

end Go.Proofs.YtfdfeoojapcnmaaDoor
