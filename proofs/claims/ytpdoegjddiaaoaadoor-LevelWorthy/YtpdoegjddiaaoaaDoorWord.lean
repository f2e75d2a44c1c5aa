/- The contracts of the scanner's levelKind and Word, at the words of levels. -/
import Derived.Test.YtpdoegjddiaaoaaDoorNext
namespace Go.Proofs.YtpdoegjddiaaoaaDoor
open Go.RowKit

/-- The table of shapes as one value, and its rows. -/
abbrev shapesV : Value := .agg #[.string ⟨#[]⟩, .int .i64 0, .string ⟨#[115]⟩, .int .i64 1, .string ⟨#[109, 97, 120]⟩, .int .i64 2, .string ⟨#[105, 109, 97, 120]⟩, .int .i64 2, .string ⟨#[]⟩, .int .i64 0]
theorem sx0 (w : World) : (Instr.index 78 shapesV (.int .i64 0)).run Tryd.prog w = .ok (.agg #[.string ⟨#[]⟩, .int .i64 0]) w := by kernel_rfl
theorem sx1 (w : World) : (Instr.index 78 shapesV (.int .i64 1)).run Tryd.prog w = .ok (.agg #[.string ⟨#[115]⟩, .int .i64 1]) w := by kernel_rfl
theorem sx2 (w : World) : (Instr.index 78 shapesV (.int .i64 2)).run Tryd.prog w = .ok (.agg #[.string ⟨#[109, 97, 120]⟩, .int .i64 2]) w := by kernel_rfl
theorem sx3 (w : World) : (Instr.index 78 shapesV (.int .i64 3)).run Tryd.prog w = .ok (.agg #[.string ⟨#[105, 109, 97, 120]⟩, .int .i64 2]) w := by kernel_rfl

/-- A word of levels, and its kind. -/
def KindOf (q : ByteArray) (kd : Nat) : Prop := (q = ⟨#[115]⟩ ∧ kd = 1) ∨ (q = ⟨#[109, 97, 120]⟩ ∧ kd = 2) ∨ (q = ⟨#[105, 109, 97, 120]⟩ ∧ kd = 3)

set_option maxRecDepth 100000 in
set_option maxHeartbeats 4000000 in
theorem levelKind_calls (q : ByteArray) (kd : Nat) (w : World) (hk : KindOf q kd) (ht : Tabs w) : Calls Tryd.prog 57 #[.string q] w fun e w' => e = .returned (.int .i64 (kd : Nat)) ∧ Below w.heap.size w w' := by
  obtain ⟨⟨t0, t1, t2, t3, t4⟩, -, ⟨n0, n1, n2, n3, n4⟩⟩ := ht
  rcases hk with ⟨rfl, rfl⟩ | ⟨rfl, rfl⟩ | ⟨rfl, rfl⟩
  · go_enter Tryd.func57, Tryd.ntmps57
    go_wp2_with fail
    clear t0 t1 t2 t3 t4 n0 n1 n2 n3 n4
    go_loopg [6] 5 (fun g i wr => ∃ k : Nat, k + g = 5 ∧ i = .int .i64 k ∧ k ≤ 1 ∧ Below w.heap.size w wr)
    case atStart => exact ⟨0, by omega, rfl, by omega, Below.refl _ _⟩
    case round =>
      obtain ⟨k, hkg, rfl, hkd, hbel⟩ := hrel
      have HA : Hid (∀ o, Below w.heap.size w (wr.alloc o)) := fun o => hbel.alloc hbel.size _
      clear hbel
      by_cases hk0 : k = 0
      · subst hk0
        have hix := sx0
        go_wp2_with fail
        go_roundg 4
        case measure => omega
        case rel => exact ⟨1, by omega, by go_num, by omega, HA.out _⟩
      have hk : k = 1 := by omega
      subst hk
      have hix := sx1
      clear hk0
      go_wp2_with fail
      go_ret
      exact ⟨rfl, HA.out _⟩
  · go_enter Tryd.func57, Tryd.ntmps57
    go_wp2_with fail
    clear t0 t1 t2 t3 t4 n0 n1 n2 n3 n4
    go_loopg [6] 5 (fun g i wr => ∃ k : Nat, k + g = 5 ∧ i = .int .i64 k ∧ k ≤ 2 ∧ Below w.heap.size w wr)
    case atStart => exact ⟨0, by omega, rfl, by omega, Below.refl _ _⟩
    case round =>
      obtain ⟨k, hkg, rfl, hkd, hbel⟩ := hrel
      have HA : Hid (∀ o, Below w.heap.size w (wr.alloc o)) := fun o => hbel.alloc hbel.size _
      clear hbel
      by_cases hk0 : k = 0
      · subst hk0
        have hix := sx0
        go_wp2_with fail
        go_roundg 4
        case measure => omega
        case rel => exact ⟨1, by omega, by go_num, by omega, HA.out _⟩
      by_cases hk1 : k = 1
      · subst hk1
        have hix := sx1
        go_wp2_with fail
        go_roundg 3
        case measure => omega
        case rel => exact ⟨2, by omega, by go_num, by omega, HA.out _⟩
      have hk : k = 2 := by omega
      subst hk
      have hix := sx2
      clear hk0 hk1
      go_wp2_with fail
      go_ret
      exact ⟨rfl, HA.out _⟩
  · go_enter Tryd.func57, Tryd.ntmps57
    go_wp2_with fail
    clear t0 t1 t2 t3 t4 n0 n1 n2 n3 n4
    go_loopg [6] 5 (fun g i wr => ∃ k : Nat, k + g = 5 ∧ i = .int .i64 k ∧ k ≤ 3 ∧ Below w.heap.size w wr)
    case atStart => exact ⟨0, by omega, rfl, by omega, Below.refl _ _⟩
    case round =>
      obtain ⟨k, hkg, rfl, hkd, hbel⟩ := hrel
      have HA : Hid (∀ o, Below w.heap.size w (wr.alloc o)) := fun o => hbel.alloc hbel.size _
      clear hbel
      by_cases hk0 : k = 0
      · subst hk0
        have hix := sx0
        go_wp2_with fail
        go_roundg 4
        case measure => omega
        case rel => exact ⟨1, by omega, by go_num, by omega, HA.out _⟩
      by_cases hk1 : k = 1
      · subst hk1
        have hix := sx1
        go_wp2_with fail
        go_roundg 3
        case measure => omega
        case rel => exact ⟨2, by omega, by go_num, by omega, HA.out _⟩
      by_cases hk2 : k = 2
      · subst hk2
        have hix := sx2
        go_wp2_with fail
        go_roundg 2
        case measure => omega
        case rel => exact ⟨3, by omega, by go_num, by omega, HA.out _⟩
      have hk : k = 3 := by omega
      subst hk
      have hix := sx3
      clear hk0 hk1 hk2
      go_wp2_with fail
      go_ret
      exact ⟨rfl, HA.out _⟩

set_option maxRecDepth 100000 in
set_option maxHeartbeats 4000000 in
theorem word_calls (sc : Nat) (s : ByteArray) (p k p' kd : Nat) (q : ByteArray) (w : World) (hn : Nexts s p 3 k p' q) (h : ScAt w sc s p) (ht : Tabs w) (hsc : 1 < sc) (hk : KindOf q kd) :
    Calls Tryd.prog 56 #[.pointer (some ⟨sc, 0, none⟩), .func (.func 57) #[] #[]] w fun e w' => e = .returned (.int .i64 (kd : Nat)) ∧ ScAt w' sc s p' ∧ Touched w sc w' := by
  have hlt := h.lt
  have hpos : ((kd : Int) == 0) = false := by rcases hk with ⟨_, rfl⟩ | ⟨_, rfl⟩ | ⟨_, rfl⟩ <;> rfl
  have hT0 := ht.below ((Below.refl _ _).alloc (Nat.le_refl _) (.cells #[.int .i64 3] 86)) ht.lt
  have K1 := hide (expect_calls sc s p 3 k p' q [3] (.slice (some ⟨w.heap.size, 0, none⟩) 1 1) _ hn (h.alloc (.cells #[.int .i64 3] 86)) hT0 hsc ⟨by simp, w.heap.size, 1, rfl, fun i hi => by match i, hi with | 0, _ => simp⟩ (fun b n cap e => by injection e with e; injection e with e; injection e with e; omega) (by simp))
  have K2 : Hid (∀ W, Tabs W → Calls Tryd.prog 57 #[.string q] W fun e w' => e = .returned (.int .i64 (kd : Nat)) ∧ Below W.heap.size W w') := fun W hW => levelKind_calls q kd W hk hW
  have HT := hide hT0
  clear h ht hn hT0 hk
  go_enter Tryd.func56, Tryd.ntmps56
  go_wp2_with (go_at_call 43; refine K1.out.mono ?_)
  rintro e w1 ⟨rfl, hS1, hT1⟩
  have hS2 := hS1.alloc (.cells #[.int .i64 (3 : Nat), .int .i64 (k : Nat), .string q] 88)
  have hT2 := hT1.trans (Touched.alloc w1 sc (.cells #[.int .i64 (3 : Nat), .int .i64 (k : Nat), .string q] 88))
  have K3 := hide (K2.out _ (HT.out.touched hT2 hsc))
  have HS2 := hide hS2
  have HT2 := hide hT2
  clear hS1 hT1 hS2 hT2
  go_wp2_with (go_at_call 57; refine K3.out.mono ?_)
  rintro e w2 ⟨rfl, hb⟩
  have HS3 := hide (HS2.out.below hb)
  have HT3 := hide (((Touched.alloc w sc _).trans HT2.out).later hb)
  clear hb
  go_wp2_with fail
  go_ret
  exact ⟨rfl, HS3.out, HT3.out⟩

end Go.Proofs.YtpdoegjddiaaoaaDoor
