/- The contracts of the scanner's tests of a byte: isBlank, isDigit, beginsName, continuesName. -/
import Derived.Test.YtpdoegjddiaaoaaDoorTok
import Derived.Test.YtpdoegjddiaaoaaDoorGates
import Derived.Shelf.Slices.Turned
namespace Go.Proofs.YtpdoegjddiaaoaaDoor
open Go.RowKit

/-- The table of bytes that may stand in a name, as it is laid. -/
structure Spans (w : World) : Prop where
  c0 : w.cell? ⟨1, 0, none⟩ = some (.int .u8 97)
  c1 : w.cell? ⟨1, 1, none⟩ = some (.int .u8 122)
  c2 : w.cell? ⟨1, 2, none⟩ = some (.bool true)
  c3 : w.cell? ⟨1, 3, none⟩ = some (.int .u8 65)
  c4 : w.cell? ⟨1, 4, none⟩ = some (.int .u8 90)
  c5 : w.cell? ⟨1, 5, none⟩ = some (.bool true)
  c6 : w.cell? ⟨1, 6, none⟩ = some (.int .u8 95)
  c7 : w.cell? ⟨1, 7, none⟩ = some (.int .u8 95)
  c8 : w.cell? ⟨1, 8, none⟩ = some (.bool true)
  c9 : w.cell? ⟨1, 9, none⟩ = some (.int .u8 48)
  c10 : w.cell? ⟨1, 10, none⟩ = some (.int .u8 57)
  c11 : w.cell? ⟨1, 11, none⟩ = some (.bool false)
  c12 : w.cell? ⟨1, 12, none⟩ = some (.int .u8 46)
  c13 : w.cell? ⟨1, 13, none⟩ = some (.int .u8 46)
  c14 : w.cell? ⟨1, 14, none⟩ = some (.bool false)
  c15 : w.cell? ⟨1, 15, none⟩ = some (.int .u8 39)
  c16 : w.cell? ⟨1, 16, none⟩ = some (.int .u8 39)
  c17 : w.cell? ⟨1, 17, none⟩ = some (.bool false)

theorem Spans.of_block {w w' : World} (h : Spans w) (hb : w'.heap[1]? = w.heap[1]?) : Spans w' := by
  have e : ∀ i, w'.cell? ⟨1, i, none⟩ = w.cell? ⟨1, i, none⟩ := fun i => World.cell?_of_block hb
  constructor <;> (rw [e]; first | exact h.c0 | exact h.c1 | exact h.c2 | exact h.c3 | exact h.c4 | exact h.c5 | exact h.c6 | exact h.c7 | exact h.c8 | exact h.c9 | exact h.c10 | exact h.c11 | exact h.c12 | exact h.c13 | exact h.c14 | exact h.c15 | exact h.c16 | exact h.c17)

set_option maxHeartbeats 400000 in
theorem isDigit_calls (c : Nat) (w : World) (hc : c < 256) : Calls Tryd.prog 64 #[.int .u8 c] w fun e w' => e = .returned (.bool (digitB c)) ∧ Below w.heap.size w w' := by
  go_enter Tryd.func64, Tryd.ntmps64
  go_wp2
  all_goals
    go_ret
    refine ⟨ret_bool ?_, Below.refl _ _⟩
    rw [Bool.eq_iff_iff]
    simp [digitB]
    omega

/-- The table as one value, and its rows. -/
abbrev spansV : Value := .agg #[.int .u8 97, .int .u8 122, .bool true, .int .u8 65, .int .u8 90, .bool true, .int .u8 95, .int .u8 95, .bool true, .int .u8 48, .int .u8 57, .bool false, .int .u8 46, .int .u8 46, .bool false, .int .u8 39, .int .u8 39, .bool false]
theorem ix0 (w : World) : (Instr.index 112 spansV (.int .i64 0)).run Tryd.prog w = .ok (.agg #[.int .u8 97, .int .u8 122, .bool true]) w := by kernel_rfl
theorem ix1 (w : World) : (Instr.index 112 spansV (.int .i64 1)).run Tryd.prog w = .ok (.agg #[.int .u8 65, .int .u8 90, .bool true]) w := by kernel_rfl
theorem ix2 (w : World) : (Instr.index 112 spansV (.int .i64 2)).run Tryd.prog w = .ok (.agg #[.int .u8 95, .int .u8 95, .bool true]) w := by kernel_rfl
theorem ix3 (w : World) : (Instr.index 112 spansV (.int .i64 3)).run Tryd.prog w = .ok (.agg #[.int .u8 48, .int .u8 57, .bool false]) w := by kernel_rfl
theorem ix4 (w : World) : (Instr.index 112 spansV (.int .i64 4)).run Tryd.prog w = .ok (.agg #[.int .u8 46, .int .u8 46, .bool false]) w := by kernel_rfl
theorem ix5 (w : World) : (Instr.index 112 spansV (.int .i64 5)).run Tryd.prog w = .ok (.agg #[.int .u8 39, .int .u8 39, .bool false]) w := by kernel_rfl

/-- The byte lies in none of the table's first rows. -/
def Out (c k : Nat) : Prop := (0 < k → c < 97 ∨ 122 < c) ∧ (1 < k → c < 65 ∨ 90 < c) ∧ (2 < k → c < 95 ∨ 95 < c) ∧ (3 < k → c < 48 ∨ 57 < c) ∧ (4 < k → c < 46 ∨ 46 < c) ∧ (5 < k → c < 39 ∨ 39 < c)

set_option maxHeartbeats 4000000 in
theorem beginsName_calls (c : Nat) (w : World) (hc : c < 256) (hs : Spans w) : Calls Tryd.prog 66 #[.int .u8 c] w fun e w' => e = .returned (.bool (nameB c true)) ∧ Below w.heap.size w w' := by
  obtain ⟨a0, a1, a2, a3, a4, a5, a6, a7, a8, a9, a10, a11, a12, a13, a14, a15, a16, a17⟩ := hs
  go_enter Tryd.func66, Tryd.ntmps66
  go_wp2_with fail
  clear a0 a1 a2 a3 a4 a5 a6 a7 a8 a9 a10 a11 a12 a13 a14 a15 a16 a17
  go_loopg [6] 6 (fun g i wr => ∃ k : Nat, k + g = 6 ∧ i = .int .i64 k ∧ Hid (Out c k) ∧ Below w.heap.size w wr)
  case atStart => exact ⟨0, by omega, rfl, by unfold Hid Out; omega, Below.refl _ _⟩
  case round =>
    obtain ⟨k, hkg, rfl, HO, hbel⟩ := hrel
    have HB := hide hbel
    have HA : Hid (∀ o, Below w.heap.size w (wr.alloc o)) := fun o => hbel.alloc hbel.size _
    clear hbel
    by_cases hk0 : k = 0
    · subst hk0
      have hix := ix0
      by_cases h1 : 97 ≤ c
      · have e1 : decide ((97 : Int) ≤ (c : Int)) = true := by simp; omega
        by_cases h2 : c ≤ 122
        · have e2 : decide ((c : Int) ≤ (122 : Int)) = true := by simp; omega
          have HR : Hid (nameB c true = true) := by
            have ho := HO.out
            unfold Out at ho
            unfold Hid
            rw [Bool.eq_iff_iff]
            simp [nameB, letterB]
            omega
          clear h1 h2
          go_wp2_with fail
          go_ret
          rw [HR.out]
          exact ⟨rfl, HA.out _⟩
        · have e2 : decide ((c : Int) ≤ (122 : Int)) = false := by simp; omega
          have HO2 : Hid (Out c 1) := by have ho := HO.out; unfold Hid Out at *; omega
          clear h1 h2
          go_wp2_with fail
          go_roundg 5
          case measure => omega
          case rel => exact ⟨1, by omega, by go_num, HO2, HA.out _⟩
      · have e1 : decide ((97 : Int) ≤ (c : Int)) = false := by simp; omega
        have HO2 : Hid (Out c 1) := by have ho := HO.out; unfold Hid Out at *; omega
        clear h1
        go_wp2_with fail
        go_roundg 5
        case measure => omega
        case rel => exact ⟨1, by omega, by go_num, HO2, HA.out _⟩
    by_cases hk1 : k = 1
    · subst hk1
      have hix := ix1
      by_cases h1 : 65 ≤ c
      · have e1 : decide ((65 : Int) ≤ (c : Int)) = true := by simp; omega
        by_cases h2 : c ≤ 90
        · have e2 : decide ((c : Int) ≤ (90 : Int)) = true := by simp; omega
          have HR : Hid (nameB c true = true) := by
            have ho := HO.out
            unfold Out at ho
            unfold Hid
            rw [Bool.eq_iff_iff]
            simp [nameB, letterB]
            omega
          clear h1 h2
          go_wp2_with fail
          go_ret
          rw [HR.out]
          exact ⟨rfl, HA.out _⟩
        · have e2 : decide ((c : Int) ≤ (90 : Int)) = false := by simp; omega
          have HO2 : Hid (Out c 2) := by have ho := HO.out; unfold Hid Out at *; omega
          clear h1 h2
          go_wp2_with fail
          go_roundg 4
          case measure => omega
          case rel => exact ⟨2, by omega, by go_num, HO2, HA.out _⟩
      · have e1 : decide ((65 : Int) ≤ (c : Int)) = false := by simp; omega
        have HO2 : Hid (Out c 2) := by have ho := HO.out; unfold Hid Out at *; omega
        clear h1
        go_wp2_with fail
        go_roundg 4
        case measure => omega
        case rel => exact ⟨2, by omega, by go_num, HO2, HA.out _⟩
    by_cases hk2 : k = 2
    · subst hk2
      have hix := ix2
      by_cases h1 : 95 ≤ c
      · have e1 : decide ((95 : Int) ≤ (c : Int)) = true := by simp; omega
        by_cases h2 : c ≤ 95
        · have e2 : decide ((c : Int) ≤ (95 : Int)) = true := by simp; omega
          have HR : Hid (nameB c true = true) := by
            have ho := HO.out
            unfold Out at ho
            unfold Hid
            rw [Bool.eq_iff_iff]
            simp [nameB, letterB]
            omega
          clear h1 h2
          go_wp2_with fail
          go_ret
          rw [HR.out]
          exact ⟨rfl, HA.out _⟩
        · have e2 : decide ((c : Int) ≤ (95 : Int)) = false := by simp; omega
          have HO2 : Hid (Out c 3) := by have ho := HO.out; unfold Hid Out at *; omega
          clear h1 h2
          go_wp2_with fail
          go_roundg 3
          case measure => omega
          case rel => exact ⟨3, by omega, by go_num, HO2, HA.out _⟩
      · have e1 : decide ((95 : Int) ≤ (c : Int)) = false := by simp; omega
        have HO2 : Hid (Out c 3) := by have ho := HO.out; unfold Hid Out at *; omega
        clear h1
        go_wp2_with fail
        go_roundg 3
        case measure => omega
        case rel => exact ⟨3, by omega, by go_num, HO2, HA.out _⟩
    by_cases hk3 : k = 3
    · subst hk3
      have hix := ix3
      by_cases h1 : 48 ≤ c
      · have e1 : decide ((48 : Int) ≤ (c : Int)) = true := by simp; omega
        by_cases h2 : c ≤ 57
        · have e2 : decide ((c : Int) ≤ (57 : Int)) = true := by simp; omega
          have HR : Hid (nameB c true = false) := by
            have ho := HO.out
            unfold Out at ho
            unfold Hid
            rw [Bool.eq_iff_iff]
            simp [nameB, letterB]
            omega
          clear h1 h2
          go_wp2_with fail
          go_ret
          rw [HR.out]
          exact ⟨rfl, HA.out _⟩
        · have e2 : decide ((c : Int) ≤ (57 : Int)) = false := by simp; omega
          have HO2 : Hid (Out c 4) := by have ho := HO.out; unfold Hid Out at *; omega
          clear h1 h2
          go_wp2_with fail
          go_roundg 2
          case measure => omega
          case rel => exact ⟨4, by omega, by go_num, HO2, HA.out _⟩
      · have e1 : decide ((48 : Int) ≤ (c : Int)) = false := by simp; omega
        have HO2 : Hid (Out c 4) := by have ho := HO.out; unfold Hid Out at *; omega
        clear h1
        go_wp2_with fail
        go_roundg 2
        case measure => omega
        case rel => exact ⟨4, by omega, by go_num, HO2, HA.out _⟩
    by_cases hk4 : k = 4
    · subst hk4
      have hix := ix4
      by_cases h1 : 46 ≤ c
      · have e1 : decide ((46 : Int) ≤ (c : Int)) = true := by simp; omega
        by_cases h2 : c ≤ 46
        · have e2 : decide ((c : Int) ≤ (46 : Int)) = true := by simp; omega
          have HR : Hid (nameB c true = false) := by
            have ho := HO.out
            unfold Out at ho
            unfold Hid
            rw [Bool.eq_iff_iff]
            simp [nameB, letterB]
            omega
          clear h1 h2
          go_wp2_with fail
          go_ret
          rw [HR.out]
          exact ⟨rfl, HA.out _⟩
        · have e2 : decide ((c : Int) ≤ (46 : Int)) = false := by simp; omega
          have HO2 : Hid (Out c 5) := by have ho := HO.out; unfold Hid Out at *; omega
          clear h1 h2
          go_wp2_with fail
          go_roundg 1
          case measure => omega
          case rel => exact ⟨5, by omega, by go_num, HO2, HA.out _⟩
      · have e1 : decide ((46 : Int) ≤ (c : Int)) = false := by simp; omega
        have HO2 : Hid (Out c 5) := by have ho := HO.out; unfold Hid Out at *; omega
        clear h1
        go_wp2_with fail
        go_roundg 1
        case measure => omega
        case rel => exact ⟨5, by omega, by go_num, HO2, HA.out _⟩
    by_cases hk5 : k = 5
    · subst hk5
      have hix := ix5
      by_cases h1 : 39 ≤ c
      · have e1 : decide ((39 : Int) ≤ (c : Int)) = true := by simp; omega
        by_cases h2 : c ≤ 39
        · have e2 : decide ((c : Int) ≤ (39 : Int)) = true := by simp; omega
          have HR : Hid (nameB c true = false) := by
            have ho := HO.out
            unfold Out at ho
            unfold Hid
            rw [Bool.eq_iff_iff]
            simp [nameB, letterB]
            omega
          clear h1 h2
          go_wp2_with fail
          go_ret
          rw [HR.out]
          exact ⟨rfl, HA.out _⟩
        · have e2 : decide ((c : Int) ≤ (39 : Int)) = false := by simp; omega
          have HO2 : Hid (Out c 6) := by have ho := HO.out; unfold Hid Out at *; omega
          clear h1 h2
          go_wp2_with fail
          go_roundg 0
          case measure => omega
          case rel => exact ⟨6, by omega, by go_num, HO2, HA.out _⟩
      · have e1 : decide ((39 : Int) ≤ (c : Int)) = false := by simp; omega
        have HO2 : Hid (Out c 6) := by have ho := HO.out; unfold Hid Out at *; omega
        clear h1
        go_wp2_with fail
        go_roundg 0
        case measure => omega
        case rel => exact ⟨6, by omega, by go_num, HO2, HA.out _⟩
    have hk : k = 6 := by omega
    subst hk
    have HR : Hid (nameB c true = false) := by
      have ho := HO.out
      unfold Out at ho
      unfold Hid
      rw [Bool.eq_iff_iff]
      simp [nameB, letterB]
      omega
    go_wp2_with fail
    go_ret
    rw [HR.out]
    exact ⟨rfl, HB.out⟩

set_option maxHeartbeats 4000000 in
theorem continuesName_calls (c : Nat) (w : World) (hc : c < 256) (hs : Spans w) : Calls Tryd.prog 67 #[.int .u8 c] w fun e w' => e = .returned (.bool (nameB c false)) ∧ Below w.heap.size w w' := by
  obtain ⟨a0, a1, a2, a3, a4, a5, a6, a7, a8, a9, a10, a11, a12, a13, a14, a15, a16, a17⟩ := hs
  go_enter Tryd.func67, Tryd.ntmps67
  go_wp2_with fail
  clear a0 a1 a2 a3 a4 a5 a6 a7 a8 a9 a10 a11 a12 a13 a14 a15 a16 a17
  go_loopg [6] 6 (fun g i wr => ∃ k : Nat, k + g = 6 ∧ i = .int .i64 k ∧ Hid (Out c k) ∧ Below w.heap.size w wr)
  case atStart => exact ⟨0, by omega, rfl, by unfold Hid Out; omega, Below.refl _ _⟩
  case round =>
    obtain ⟨k, hkg, rfl, HO, hbel⟩ := hrel
    have HB := hide hbel
    have HA : Hid (∀ o, Below w.heap.size w (wr.alloc o)) := fun o => hbel.alloc hbel.size _
    clear hbel
    by_cases hk0 : k = 0
    · subst hk0
      have hix := ix0
      by_cases h1 : 97 ≤ c
      · have e1 : decide ((97 : Int) ≤ (c : Int)) = true := by simp; omega
        by_cases h2 : c ≤ 122
        · have e2 : decide ((c : Int) ≤ (122 : Int)) = true := by simp; omega
          have HR : Hid (nameB c false = true) := by
            have ho := HO.out
            unfold Out at ho
            unfold Hid
            rw [Bool.eq_iff_iff]
            simp [nameB, letterB]
            omega
          clear h1 h2
          go_wp2_with fail
          go_ret
          rw [HR.out]
          exact ⟨rfl, HA.out _⟩
        · have e2 : decide ((c : Int) ≤ (122 : Int)) = false := by simp; omega
          have HO2 : Hid (Out c 1) := by have ho := HO.out; unfold Hid Out at *; omega
          clear h1 h2
          go_wp2_with fail
          go_roundg 5
          case measure => omega
          case rel => exact ⟨1, by omega, by go_num, HO2, HA.out _⟩
      · have e1 : decide ((97 : Int) ≤ (c : Int)) = false := by simp; omega
        have HO2 : Hid (Out c 1) := by have ho := HO.out; unfold Hid Out at *; omega
        clear h1
        go_wp2_with fail
        go_roundg 5
        case measure => omega
        case rel => exact ⟨1, by omega, by go_num, HO2, HA.out _⟩
    by_cases hk1 : k = 1
    · subst hk1
      have hix := ix1
      by_cases h1 : 65 ≤ c
      · have e1 : decide ((65 : Int) ≤ (c : Int)) = true := by simp; omega
        by_cases h2 : c ≤ 90
        · have e2 : decide ((c : Int) ≤ (90 : Int)) = true := by simp; omega
          have HR : Hid (nameB c false = true) := by
            have ho := HO.out
            unfold Out at ho
            unfold Hid
            rw [Bool.eq_iff_iff]
            simp [nameB, letterB]
            omega
          clear h1 h2
          go_wp2_with fail
          go_ret
          rw [HR.out]
          exact ⟨rfl, HA.out _⟩
        · have e2 : decide ((c : Int) ≤ (90 : Int)) = false := by simp; omega
          have HO2 : Hid (Out c 2) := by have ho := HO.out; unfold Hid Out at *; omega
          clear h1 h2
          go_wp2_with fail
          go_roundg 4
          case measure => omega
          case rel => exact ⟨2, by omega, by go_num, HO2, HA.out _⟩
      · have e1 : decide ((65 : Int) ≤ (c : Int)) = false := by simp; omega
        have HO2 : Hid (Out c 2) := by have ho := HO.out; unfold Hid Out at *; omega
        clear h1
        go_wp2_with fail
        go_roundg 4
        case measure => omega
        case rel => exact ⟨2, by omega, by go_num, HO2, HA.out _⟩
    by_cases hk2 : k = 2
    · subst hk2
      have hix := ix2
      by_cases h1 : 95 ≤ c
      · have e1 : decide ((95 : Int) ≤ (c : Int)) = true := by simp; omega
        by_cases h2 : c ≤ 95
        · have e2 : decide ((c : Int) ≤ (95 : Int)) = true := by simp; omega
          have HR : Hid (nameB c false = true) := by
            have ho := HO.out
            unfold Out at ho
            unfold Hid
            rw [Bool.eq_iff_iff]
            simp [nameB, letterB]
            omega
          clear h1 h2
          go_wp2_with fail
          go_ret
          rw [HR.out]
          exact ⟨rfl, HA.out _⟩
        · have e2 : decide ((c : Int) ≤ (95 : Int)) = false := by simp; omega
          have HO2 : Hid (Out c 3) := by have ho := HO.out; unfold Hid Out at *; omega
          clear h1 h2
          go_wp2_with fail
          go_roundg 3
          case measure => omega
          case rel => exact ⟨3, by omega, by go_num, HO2, HA.out _⟩
      · have e1 : decide ((95 : Int) ≤ (c : Int)) = false := by simp; omega
        have HO2 : Hid (Out c 3) := by have ho := HO.out; unfold Hid Out at *; omega
        clear h1
        go_wp2_with fail
        go_roundg 3
        case measure => omega
        case rel => exact ⟨3, by omega, by go_num, HO2, HA.out _⟩
    by_cases hk3 : k = 3
    · subst hk3
      have hix := ix3
      by_cases h1 : 48 ≤ c
      · have e1 : decide ((48 : Int) ≤ (c : Int)) = true := by simp; omega
        by_cases h2 : c ≤ 57
        · have e2 : decide ((c : Int) ≤ (57 : Int)) = true := by simp; omega
          have HR : Hid (nameB c false = true) := by
            have ho := HO.out
            unfold Out at ho
            unfold Hid
            rw [Bool.eq_iff_iff]
            simp [nameB, letterB]
            omega
          clear h1 h2
          go_wp2_with fail
          go_ret
          rw [HR.out]
          exact ⟨rfl, HA.out _⟩
        · have e2 : decide ((c : Int) ≤ (57 : Int)) = false := by simp; omega
          have HO2 : Hid (Out c 4) := by have ho := HO.out; unfold Hid Out at *; omega
          clear h1 h2
          go_wp2_with fail
          go_roundg 2
          case measure => omega
          case rel => exact ⟨4, by omega, by go_num, HO2, HA.out _⟩
      · have e1 : decide ((48 : Int) ≤ (c : Int)) = false := by simp; omega
        have HO2 : Hid (Out c 4) := by have ho := HO.out; unfold Hid Out at *; omega
        clear h1
        go_wp2_with fail
        go_roundg 2
        case measure => omega
        case rel => exact ⟨4, by omega, by go_num, HO2, HA.out _⟩
    by_cases hk4 : k = 4
    · subst hk4
      have hix := ix4
      by_cases h1 : 46 ≤ c
      · have e1 : decide ((46 : Int) ≤ (c : Int)) = true := by simp; omega
        by_cases h2 : c ≤ 46
        · have e2 : decide ((c : Int) ≤ (46 : Int)) = true := by simp; omega
          have HR : Hid (nameB c false = true) := by
            have ho := HO.out
            unfold Out at ho
            unfold Hid
            rw [Bool.eq_iff_iff]
            simp [nameB, letterB]
            omega
          clear h1 h2
          go_wp2_with fail
          go_ret
          rw [HR.out]
          exact ⟨rfl, HA.out _⟩
        · have e2 : decide ((c : Int) ≤ (46 : Int)) = false := by simp; omega
          have HO2 : Hid (Out c 5) := by have ho := HO.out; unfold Hid Out at *; omega
          clear h1 h2
          go_wp2_with fail
          go_roundg 1
          case measure => omega
          case rel => exact ⟨5, by omega, by go_num, HO2, HA.out _⟩
      · have e1 : decide ((46 : Int) ≤ (c : Int)) = false := by simp; omega
        have HO2 : Hid (Out c 5) := by have ho := HO.out; unfold Hid Out at *; omega
        clear h1
        go_wp2_with fail
        go_roundg 1
        case measure => omega
        case rel => exact ⟨5, by omega, by go_num, HO2, HA.out _⟩
    by_cases hk5 : k = 5
    · subst hk5
      have hix := ix5
      by_cases h1 : 39 ≤ c
      · have e1 : decide ((39 : Int) ≤ (c : Int)) = true := by simp; omega
        by_cases h2 : c ≤ 39
        · have e2 : decide ((c : Int) ≤ (39 : Int)) = true := by simp; omega
          have HR : Hid (nameB c false = true) := by
            have ho := HO.out
            unfold Out at ho
            unfold Hid
            rw [Bool.eq_iff_iff]
            simp [nameB, letterB]
            omega
          clear h1 h2
          go_wp2_with fail
          go_ret
          rw [HR.out]
          exact ⟨rfl, HA.out _⟩
        · have e2 : decide ((c : Int) ≤ (39 : Int)) = false := by simp; omega
          have HO2 : Hid (Out c 6) := by have ho := HO.out; unfold Hid Out at *; omega
          clear h1 h2
          go_wp2_with fail
          go_roundg 0
          case measure => omega
          case rel => exact ⟨6, by omega, by go_num, HO2, HA.out _⟩
      · have e1 : decide ((39 : Int) ≤ (c : Int)) = false := by simp; omega
        have HO2 : Hid (Out c 6) := by have ho := HO.out; unfold Hid Out at *; omega
        clear h1
        go_wp2_with fail
        go_roundg 0
        case measure => omega
        case rel => exact ⟨6, by omega, by go_num, HO2, HA.out _⟩
    have hk : k = 6 := by omega
    subst hk
    have HR : Hid (nameB c false = false) := by
      have ho := HO.out
      unfold Out at ho
      unfold Hid
      rw [Bool.eq_iff_iff]
      simp [nameB, letterB]
      omega
    go_wp2_with fail
    go_ret
    rw [HR.out]
    exact ⟨rfl, HB.out⟩

end Go.Proofs.YtpdoegjddiaaoaaDoor
