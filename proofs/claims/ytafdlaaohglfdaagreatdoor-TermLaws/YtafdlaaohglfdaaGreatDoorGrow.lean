/- The contracts of slices.Grow of levels and of terms: a row that is owned, with no part in it. -/
import Derived.Test.YtafdlaaohglfdaaGreatDoorKin
import Derived.Test.YtafdlaaohglfdaaGreatDoorInP
import Derived.Shelf.Spec.SlicesGrow

namespace Go.Proofs.YtafdlaaohglfdaaGreatDoor
open Go.RowKit Go.Shelf

def growL_ren : Go.Shelf.Ren := ⟨fun | 4 => 47 | n => n, fun | 22 => 26 | 25 => 79 | n => n, fun | n => n⟩
theorem growL : Lays8.n4 Tryz.prog growL_ren := {
  mixed := by kernel_rfl
  f4 := ⟨Tryz.f47.name, by kernel_rfl, Tryz.func47.trans (congrArg some (by kernel_rfl))⟩
  t0 := Tryz.underlying0
  a0 := Tryz.isAgg0
  z0 := Tryz.sizeOf0
  v0 := Tryz.zeroValue0
  t3 := Tryz.underlying3
  a3 := Tryz.isAgg3
  z3 := Tryz.sizeOf3
  v3 := Tryz.zeroValue3
  t4 := Tryz.underlying4
  a4 := Tryz.isAgg4
  z4 := Tryz.sizeOf4
  v4 := Tryz.zeroValue4
  t9 := Tryz.underlying9
  a9 := Tryz.isAgg9
  z9 := Tryz.sizeOf9
  v9 := Tryz.zeroValue9
  t20 := Tryz.underlying20
  a20 := Tryz.isAgg20
  z20 := Tryz.sizeOf20
  v20 := Tryz.zeroValue20
  t22 := Tryz.underlying26
  a22 := Tryz.isAgg26
  z22 := Tryz.sizeOf26
  v22 := Tryz.zeroValue26 }

def growT_ren : Go.Shelf.Ren := ⟨fun | 4 => 48 | n => n, fun | 22 => 27 | 25 => 29 | n => n, fun | n => n⟩
theorem growT : Lays8.n4 Tryz.prog growT_ren := {
  mixed := by kernel_rfl
  f4 := ⟨Tryz.f48.name, by kernel_rfl, Tryz.func48.trans (congrArg some (by kernel_rfl))⟩
  t0 := Tryz.underlying0
  a0 := Tryz.isAgg0
  z0 := Tryz.sizeOf0
  v0 := Tryz.zeroValue0
  t3 := Tryz.underlying3
  a3 := Tryz.isAgg3
  z3 := Tryz.sizeOf3
  v3 := Tryz.zeroValue3
  t4 := Tryz.underlying4
  a4 := Tryz.isAgg4
  z4 := Tryz.sizeOf4
  v4 := Tryz.zeroValue4
  t9 := Tryz.underlying9
  a9 := Tryz.isAgg9
  z9 := Tryz.sizeOf9
  v9 := Tryz.zeroValue9
  t20 := Tryz.underlying20
  a20 := Tryz.isAgg20
  z20 := Tryz.sizeOf20
  v20 := Tryz.zeroValue20
  t22 := Tryz.underlying27
  a22 := Tryz.isAgg27
  z22 := Tryz.sizeOf27
  v22 := Tryz.zeroValue27 }

theorem lgrow_calls (n : Nat) (w : World) (hn : n ≤ 20000) : Calls Tryz.prog 47 #[.slice none 0 0, .int .i64 (n : Nat)] w fun e w' => ∃ A c, e = .returned (.slice A 0 c) ∧ w'.ownsRow w.heap.size 79 3 (.slice A 0 c) 0 [] ∧ Below w.heap.size w w' := by
  by_cases h0 : n = 0
  · subst h0
    exact (Any8.slices_Grow_room growL none 0 0 0 w (by omega) (by omega) (by omega) (by omega)).mono fun _ _ ⟨he, hw⟩ => ⟨none, 0, he, by rw [hw]; exact World.ownsRow_nil _ _ _ _, by rw [hw]; exact Below.refl _ _⟩
  · obtain ⟨i0, hi, hz0, hz1, hz2⟩ := info_parts Tryz.info79
    refine (Any8.slices_Grow_grow growL i0 _ hi hz0 (by rw [hz1]; decide) none 0 0 n [] w (by omega) (by omega) (by rw [hz2]; omega) (by omega) (by simp) (fun _ => rfl) (fun a e => by cases e)).mono ?_
    rintro e w' ⟨rfl, rfl⟩
    have hG := grownCap_ge w (0 + n) 0 (growL_ren.t 25)
    have hM := grownCap_le_maxLen w (0 + n) 0 (growL_ren.t 25) (by unfold maxLen; omega)
    refine ⟨_, _, rfl, World.ownsRow_made (base := w.heap.size) (e := 79) (size := 3) w.drew _ _ (Nat.le_refl _) hM ?_, ((Below.refl _ _).drew).alloc (Nat.le_refl _) _⟩
    generalize grownCap w (0 + n) 0 (growL_ren.t 25) = G at *
    simp only [Array.size_append, size_zeroCells, Value.cells, List.size_toArray, List.length_nil, List.length_cons]
    omega

theorem tgrow_calls (n : Nat) (w : World) (hn : n ≤ 20000) : Calls Tryz.prog 48 #[.slice none 0 0, .int .i64 (n : Nat)] w fun e w' => ∃ A c, e = .returned (.slice A 0 c) ∧ w'.ownsRow w.heap.size 29 5 (.slice A 0 c) 0 [] ∧ Below w.heap.size w w' := by
  by_cases h0 : n = 0
  · subst h0
    exact (Any8.slices_Grow_room growT none 0 0 0 w (by omega) (by omega) (by omega) (by omega)).mono fun _ _ ⟨he, hw⟩ => ⟨none, 0, he, by rw [hw]; exact World.ownsRow_nil _ _ _ _, by rw [hw]; exact Below.refl _ _⟩
  · obtain ⟨i0, hi, hz0, hz1, hz2⟩ := info_parts Tryz.info29
    refine (Any8.slices_Grow_grow growT i0 _ hi hz0 (by rw [hz1]; decide) none 0 0 n [] w (by omega) (by omega) (by rw [hz2]; omega) (by omega) (by simp) (fun _ => rfl) (fun a e => by cases e)).mono ?_
    rintro e w' ⟨rfl, rfl⟩
    have hG := grownCap_ge w (0 + n) 0 (growT_ren.t 25)
    have hM := grownCap_le_maxLen w (0 + n) 0 (growT_ren.t 25) (by unfold maxLen; omega)
    refine ⟨_, _, rfl, World.ownsRow_made (base := w.heap.size) (e := 29) (size := 5) w.drew _ _ (Nat.le_refl _) hM ?_, ((Below.refl _ _).drew).alloc (Nat.le_refl _) _⟩
    generalize grownCap w (0 + n) 0 (growT_ren.t 25) = G at *
    simp only [Array.size_append, size_zeroCells, Value.cells, List.size_toArray, List.length_nil, List.length_cons]
    omega

end Go.Proofs.YtafdlaaohglfdaaGreatDoor
