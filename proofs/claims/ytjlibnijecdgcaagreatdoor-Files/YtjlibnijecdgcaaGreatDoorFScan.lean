/- Scanner.Word at the words of declarations and of constructors, Scanner.Number, Scanner.Before at a text's end. -/
import Derived.Test.YtjlibnijecdgcaaGreatDoorDTake
import Derived.Test.YtjlibnijecdgcaaGreatDoorLevBad

namespace Go.Proofs.YtjlibnijecdgcaaGreatDoor
open Go.RowKit

/-- The words of declarations, as they are laid. -/
structure FWords (w : World) : Prop where
  c0 : w.cell? ⟨0, 0, none⟩ = some (.string ⟨#[]⟩)
  c1 : w.cell? ⟨0, 1, none⟩ = some (.string ⟨#[97, 120, 105, 111, 109]⟩)
  c2 : w.cell? ⟨0, 2, none⟩ = some (.string ⟨#[100, 101, 102]⟩)
  c3 : w.cell? ⟨0, 3, none⟩ = some (.string ⟨#[105, 110, 100, 117, 99, 116, 105, 118, 101]⟩)
theorem FWords.of_block {w w' : World} (h : FWords w) (hb : w'.heap[0]? = w.heap[0]?) : FWords w' := ⟨(World.cell?_of_block hb).trans h.c0, (World.cell?_of_block hb).trans h.c1, (World.cell?_of_block hb).trans h.c2, (World.cell?_of_block hb).trans h.c3⟩
/-- All tables that the readers read. -/
structure Tabs3 (w : World) : Prop where
  b : Tabs2 w
  f : FWords w
theorem Tabs3.lt {w : World} (h : Tabs3 w) : 11 < w.heap.size := h.b.lt
theorem Tabs3.touched {w w' : World} {sc : Nat} (h : Tabs3 w) (ht : Touched w sc w') (hs : 11 < sc) : Tabs3 w' := ⟨h.b.touched ht hs, h.f.of_block (ht.block 0 (by have := h.lt; omega) (by simp; omega))⟩
theorem Tabs3.below {w w' : World} {B : Nat} (h : Tabs3 w) (hb : Below B w w') (hB : 11 < B) : Tabs3 w' := ⟨h.b.below hb hB, h.f.of_block (hb.block 0 (by omega))⟩
theorem Tabs3.later {w w' : World} (h : Tabs3 w) (hb : Below w.heap.size w w') : Tabs3 w' := h.below hb h.lt
theorem Tabs3.alloc {w : World} (h : Tabs3 w) (o : Obj) : Tabs3 (w.alloc o) := h.later ((Below.refl _ _).alloc (Nat.le_refl _) _)

/-- The fault of a text was thrown, with that place. -/
abbrev Thrown (w : World) (sc a : Nat) (e : Ending) (w' : World) : Prop := Threw w sc 1 a e w'

theorem fx0 (w : World) : (Instr.index 88 (.agg #[.string ⟨#[]⟩, .string ⟨#[97, 120, 105, 111, 109]⟩, .string ⟨#[100, 101, 102]⟩, .string ⟨#[105, 110, 100, 117, 99, 116, 105, 118, 101]⟩]) (.int .i64 0)).run Tryz.prog w = .ok (.string ⟨#[]⟩) w := by kernel_rfl
theorem fx1 (w : World) : (Instr.index 88 (.agg #[.string ⟨#[]⟩, .string ⟨#[97, 120, 105, 111, 109]⟩, .string ⟨#[100, 101, 102]⟩, .string ⟨#[105, 110, 100, 117, 99, 116, 105, 118, 101]⟩]) (.int .i64 1)).run Tryz.prog w = .ok (.string ⟨#[97, 120, 105, 111, 109]⟩) w := by kernel_rfl
theorem fx2 (w : World) : (Instr.index 88 (.agg #[.string ⟨#[]⟩, .string ⟨#[97, 120, 105, 111, 109]⟩, .string ⟨#[100, 101, 102]⟩, .string ⟨#[105, 110, 100, 117, 99, 116, 105, 118, 101]⟩]) (.int .i64 2)).run Tryz.prog w = .ok (.string ⟨#[100, 101, 102]⟩) w := by kernel_rfl
theorem fx3 (w : World) : (Instr.index 88 (.agg #[.string ⟨#[]⟩, .string ⟨#[97, 120, 105, 111, 109]⟩, .string ⟨#[100, 101, 102]⟩, .string ⟨#[105, 110, 100, 117, 99, 116, 105, 118, 101]⟩]) (.int .i64 3)).run Tryz.prog w = .ok (.string ⟨#[105, 110, 100, 117, 99, 116, 105, 118, 101]⟩) w := by kernel_rfl

set_option maxRecDepth 100000 in
set_option maxHeartbeats 4000000 in
theorem declKind_1 (w : World) (ht : FWords w) : Calls Tryz.prog 48 #[.string ⟨#[97, 120, 105, 111, 109]⟩] w fun e w' => e = .returned (.int .i64 (1 : Nat)) ∧ Below w.heap.size w w' := by
  obtain ⟨t0, t1, t2, t3⟩ := ht
  go_enter Tryz.func48, Tryz.ntmps48
  go_wp2_with fail
  clear t0 t1 t2 t3
  go_loopg [6] 4 (fun g i wr => ∃ k : Nat, k + g = 4 ∧ i = .int .i64 k ∧ k ≤ 1 ∧ Below w.heap.size w wr)
  case atStart => exact ⟨0, by omega, rfl, by omega, Below.refl _ _⟩
  case round =>
    obtain ⟨k, hkg, rfl, hkd, hbel⟩ := hrel
    have HA := hide hbel
    clear hbel
    by_cases hk0 : k = 0
    · subst hk0
      have hix := fx0
      go_wp2_with fail
      go_roundg 3
      case measure => omega
      case rel => exact ⟨1, by omega, by go_num, by omega, HA.out⟩
    have hk : k = 1 := by omega
    subst hk
    have hix := fx1
    clear hk0
    go_wp2_with fail
    go_ret
    exact ⟨rfl, HA.out⟩

set_option maxRecDepth 100000 in
set_option maxHeartbeats 4000000 in
theorem declKind_2 (w : World) (ht : FWords w) : Calls Tryz.prog 48 #[.string ⟨#[100, 101, 102]⟩] w fun e w' => e = .returned (.int .i64 (2 : Nat)) ∧ Below w.heap.size w w' := by
  obtain ⟨t0, t1, t2, t3⟩ := ht
  go_enter Tryz.func48, Tryz.ntmps48
  go_wp2_with fail
  clear t0 t1 t2 t3
  go_loopg [6] 4 (fun g i wr => ∃ k : Nat, k + g = 4 ∧ i = .int .i64 k ∧ k ≤ 2 ∧ Below w.heap.size w wr)
  case atStart => exact ⟨0, by omega, rfl, by omega, Below.refl _ _⟩
  case round =>
    obtain ⟨k, hkg, rfl, hkd, hbel⟩ := hrel
    have HA := hide hbel
    clear hbel
    by_cases hk0 : k = 0
    · subst hk0
      have hix := fx0
      go_wp2_with fail
      go_roundg 3
      case measure => omega
      case rel => exact ⟨1, by omega, by go_num, by omega, HA.out⟩
    by_cases hk1 : k = 1
    · subst hk1
      have hix := fx1
      go_wp2_with fail
      go_roundg 2
      case measure => omega
      case rel => exact ⟨2, by omega, by go_num, by omega, HA.out⟩
    have hk : k = 2 := by omega
    subst hk
    have hix := fx2
    clear hk0 hk1
    go_wp2_with fail
    go_ret
    exact ⟨rfl, HA.out⟩

set_option maxRecDepth 100000 in
set_option maxHeartbeats 4000000 in
theorem declKind_3 (w : World) (ht : FWords w) : Calls Tryz.prog 48 #[.string ⟨#[105, 110, 100, 117, 99, 116, 105, 118, 101]⟩] w fun e w' => e = .returned (.int .i64 (3 : Nat)) ∧ Below w.heap.size w w' := by
  obtain ⟨t0, t1, t2, t3⟩ := ht
  go_enter Tryz.func48, Tryz.ntmps48
  go_wp2_with fail
  clear t0 t1 t2 t3
  go_loopg [6] 4 (fun g i wr => ∃ k : Nat, k + g = 4 ∧ i = .int .i64 k ∧ k ≤ 3 ∧ Below w.heap.size w wr)
  case atStart => exact ⟨0, by omega, rfl, by omega, Below.refl _ _⟩
  case round =>
    obtain ⟨k, hkg, rfl, hkd, hbel⟩ := hrel
    have HA := hide hbel
    clear hbel
    by_cases hk0 : k = 0
    · subst hk0
      have hix := fx0
      go_wp2_with fail
      go_roundg 3
      case measure => omega
      case rel => exact ⟨1, by omega, by go_num, by omega, HA.out⟩
    by_cases hk1 : k = 1
    · subst hk1
      have hix := fx1
      go_wp2_with fail
      go_roundg 2
      case measure => omega
      case rel => exact ⟨2, by omega, by go_num, by omega, HA.out⟩
    by_cases hk2 : k = 2
    · subst hk2
      have hix := fx2
      go_wp2_with fail
      go_roundg 1
      case measure => omega
      case rel => exact ⟨3, by omega, by go_num, by omega, HA.out⟩
    have hk : k = 3 := by omega
    subst hk
    have hix := fx3
    clear hk0 hk1 hk2
    go_wp2_with fail
    go_ret
    exact ⟨rfl, HA.out⟩

theorem declKind_calls (q : ByteArray) (kd : Nat) (w : World) (h1 : 1 ≤ kd) (h3 : kd ≤ 3) (hq : q = dword kd) (ht : FWords w) : Calls Tryz.prog 48 #[.string q] w fun e w' => e = .returned (.int .i64 (kd : Nat)) ∧ Below w.heap.size w w' := by
  have : kd = 1 ∨ kd = 2 ∨ kd = 3 := by omega
  subst hq
  rcases this with rfl | rfl | rfl
  · exact declKind_1 w ht
  · exact declKind_2 w ht
  · exact declKind_3 w ht

set_option maxRecDepth 100000 in
set_option maxHeartbeats 4000000 in
theorem declKind_none (q : ByteArray) (w : World) (h0 : q ≠ ⟨#[]⟩) (h1 : q ≠ ⟨#[97, 120, 105, 111, 109]⟩) (h2 : q ≠ ⟨#[100, 101, 102]⟩) (h3 : q ≠ ⟨#[105, 110, 100, 117, 99, 116, 105, 118, 101]⟩) (ht : FWords w) : Calls Tryz.prog 48 #[.string q] w fun e w' => e = .returned (.int .i64 0) ∧ Below w.heap.size w w' := by
  obtain ⟨t0, t1, t2, t3⟩ := ht
  have y0 := litSame_neg (l := []) h0
  have y1 := litSame_neg (l := [97, 120, 105, 111, 109]) h1
  have y2 := litSame_neg (l := [100, 101, 102]) h2
  have y3 := litSame_neg (l := [105, 110, 100, 117, 99, 116, 105, 118, 101]) h3
  clear h0 h1 h2 h3
  go_enter Tryz.func48, Tryz.ntmps48
  go_wp2_with fail
  clear t0 t1 t2 t3
  go_loopg [6] 4 (fun g i wr => ∃ k : Nat, k + g = 4 ∧ i = .int .i64 k ∧ Below w.heap.size w wr)
  case atStart => exact ⟨0, by omega, rfl, Below.refl _ _⟩
  case round =>
    obtain ⟨k, hkg, rfl, hbel⟩ := hrel
    have HA := hide hbel
    clear hbel
    by_cases hk0 : k = 0
    · subst hk0
      have hix := fx0
      go_wp2_with fail
      go_roundg 3
      case measure => omega
      case rel => exact ⟨1, by omega, by go_num, HA.out⟩
    by_cases hk1 : k = 1
    · subst hk1
      have hix := fx1
      go_wp2_with fail
      go_roundg 2
      case measure => omega
      case rel => exact ⟨2, by omega, by go_num, HA.out⟩
    by_cases hk2 : k = 2
    · subst hk2
      have hix := fx2
      go_wp2_with fail
      go_roundg 1
      case measure => omega
      case rel => exact ⟨3, by omega, by go_num, HA.out⟩
    by_cases hk3 : k = 3
    · subst hk3
      have hix := fx3
      go_wp2_with fail
      go_roundg 0
      case measure => omega
      case rel => exact ⟨4, by omega, by go_num, HA.out⟩
    have hk : k = 4 := by omega
    subst hk
    clear hk0 hk1 hk2 hk3
    go_wp2_with fail
    go_ret
    exact ⟨rfl, HA.out⟩

set_option maxHeartbeats 1000000 in
theorem ctorKind_calls (w : World) : Calls Tryz.prog 78 #[.string cword] w fun e w' => e = .returned (.int .i64 (1 : Nat)) ∧ Below w.heap.size w w' := by
  unfold cword
  go_enter Tryz.func78, Tryz.ntmps78
  go_wp2_with fail
  go_ret
  exact ⟨rfl, Below.refl _ _⟩
set_option maxHeartbeats 1000000 in
theorem ctorKind_none (q : ByteArray) (w : World) (h : q ≠ cword) : Calls Tryz.prog 78 #[.string q] w fun e w' => e = .returned (.int .i64 0) ∧ Below w.heap.size w w' := by
  have y := sameLit_neg (l := [99, 116, 111, 114]) h
  clear h
  go_enter Tryz.func78, Tryz.ntmps78
  go_wp2_with fail
  go_ret
  exact ⟨rfl, Below.refl _ _⟩

set_option maxRecDepth 100000 in
set_option maxHeartbeats 4000000 in
theorem dword_calls (sc : Nat) (s : ByteArray) (p k p' kd : Nat) (q : ByteArray) (w : World) (hn : Nexts s p 3 k p' q) (h : ScAt w sc s p) (ht : Tabs3 w) (hsc : 11 < sc) (g1 : 1 ≤ kd) (g3 : kd ≤ 3) (hq : q = dword kd) :
    Calls Tryz.prog 47 #[.pointer (some ⟨sc, 0, none⟩), .func (.func 48) #[] #[]] w fun e w' => e = .returned (.int .i64 (kd : Nat)) ∧ ScAt w' sc s p' ∧ Touched w sc w' := by
  have hlt := h.lt
  have hpos : ((kd : Int) == 0) = false := by simp; omega
  have hT0 := ht.alloc (.cells #[.int .i64 3] 71)
  have K1 := hide (expect_calls sc s p 3 k p' q [3] (.slice (some ⟨w.heap.size, 0, none⟩) 1 1) _ hn (h.alloc (.cells #[.int .i64 3] 71)) hT0.b.a hsc (kinds1 3) (fun b n cap e => by injection e with e; injection e with e; injection e with e; omega) (by simp))
  have K2 : Hid (∀ W, Tabs3 W → Calls Tryz.prog 48 #[.string q] W fun e w' => e = .returned (.int .i64 (kd : Nat)) ∧ Below W.heap.size W w') := fun W hW => declKind_calls q kd W g1 g3 hq hW.f
  have HT := hide hT0
  clear h ht hn hT0 g1 g3 hq
  go_enter Tryz.func47, Tryz.ntmps47
  go_wp2_with (go_at_call 30; refine K1.out.mono ?_)
  rintro e w1 ⟨rfl, hS1, hT1⟩
  have hS2 := hS1.alloc (.cells #[.int .i64 (3 : Nat), .int .i64 (k : Nat), .string q] 73)
  have hT2 := hT1.trans (Touched.alloc w1 sc (.cells #[.int .i64 (3 : Nat), .int .i64 (k : Nat), .string q] 73))
  have K3 := hide (K2.out _ (HT.out.touched hT2 hsc))
  have HS2 := hide hS2
  have HT2 := hide hT2
  clear hS1 hT1 hS2 hT2
  go_wp2_with (go_at_call 48; refine K3.out.mono ?_)
  rintro e w2 ⟨rfl, hb⟩
  have HS3 := hide (HS2.out.below hb)
  have HT3 := hide (((Touched.alloc w sc _).trans HT2.out).later hb)
  clear hb
  go_wp2_with fail
  go_ret
  exact ⟨rfl, HS3.out, HT3.out⟩

set_option maxRecDepth 100000 in
set_option maxHeartbeats 4000000 in
theorem dword_none (sc : Nat) (s : ByteArray) (p : Nat) (w : World) (hs : s.size ≤ 200000) (hp : p ≤ s.size) (hq : isNameB (tok s p).t = false) (h : ScAt w sc s p) (ht : Tabs3 w) (hsc : 11 < sc) :
    Calls Tryz.prog 47 #[.pointer (some ⟨sc, 0, none⟩), .func (.func 48) #[] #[]] w fun e w' => Thrown w sc (runTo blankB s p) e w' := by
  have hlt := h.lt
  have hT0 := ht.alloc (.cells #[.int .i64 3] 71)
  have K1 := hide (expect_bad sc s p _ _ _ _ [3] (.slice (some ⟨w.heap.size, 0, none⟩) 1 1) _ (next_all hs hp) (h.alloc (.cells #[.int .i64 3] 71)) hT0.b.a hsc (kinds1 3) (fun b n cap e => by injection e with e; injection e with e; injection e with e; omega) (by simp) (by simpa using noname_kind hp hq))
  clear h ht hT0 hq
  go_enter Tryz.func47, Tryz.ntmps47
  go_wp2_with (go_at_call 30; refine K1.out.mono ?_)
  intro e w1 h1
  have H1 := hide (h1.from (Touched.alloc w sc _))
  obtain ⟨fb, rfl, -⟩ := h1
  go_wp2_with fail
  exact ⟨rfl, H1.out⟩

set_option maxRecDepth 100000 in
set_option maxHeartbeats 4000000 in
theorem dword_other (sc : Nat) (s : ByteArray) (p k p' : Nat) (q : ByteArray) (w : World) (hn : Nexts s p 3 k p' q) (h : ScAt w sc s p) (ht : Tabs3 w) (hsc : 11 < sc) (g0 : q ≠ ⟨#[]⟩) (g1 : q ≠ ⟨#[97, 120, 105, 111, 109]⟩) (g2 : q ≠ ⟨#[100, 101, 102]⟩) (g3 : q ≠ ⟨#[105, 110, 100, 117, 99, 116, 105, 118, 101]⟩) :
    Calls Tryz.prog 47 #[.pointer (some ⟨sc, 0, none⟩), .func (.func 48) #[] #[]] w fun e w' => Thrown w sc k e w' := by
  have hlt := h.lt
  have hT0 := ht.alloc (.cells #[.int .i64 3] 71)
  have K1 := hide (expect_calls sc s p 3 k p' q [3] (.slice (some ⟨w.heap.size, 0, none⟩) 1 1) _ hn (h.alloc (.cells #[.int .i64 3] 71)) hT0.b.a hsc (kinds1 3) (fun b n cap e => by injection e with e; injection e with e; injection e with e; omega) (by simp))
  have K2 : Hid (∀ W, Tabs3 W → Calls Tryz.prog 48 #[.string q] W fun e w' => e = .returned (.int .i64 0) ∧ Below W.heap.size W w') := fun W hW => declKind_none q W g0 g1 g2 g3 hW.f
  have HT := hide hT0
  clear h ht hn hT0 g0 g1 g2 g3
  go_enter Tryz.func47, Tryz.ntmps47
  go_wp2_with (go_at_call 30; refine K1.out.mono ?_)
  rintro e w1 ⟨rfl, hS1, hT1⟩
  have hT2 := hT1.trans (Touched.alloc w1 sc (.cells #[.int .i64 (3 : Nat), .int .i64 (k : Nat), .string q] 73))
  have K3 := hide (K2.out _ (HT.out.touched hT2 hsc))
  have hz1 := hT1.size
  have HT2 := hide ((Touched.alloc w sc (.cells #[.int .i64 3] 71)).trans hT2)
  clear hS1 hT1 hT2
  go_wp2_with (go_at_call 48; refine K3.out.mono ?_)
  rintro e w2 ⟨rfl, hb⟩
  have d0 : w2.cell? ⟨w1.heap.size, 0, none⟩ = some (.int .i64 3) := by rw [hb.cell (by simp)]; simp
  have d1 : w2.cell? ⟨w1.heap.size, 1, none⟩ = some (.int .i64 (k : Nat)) := by rw [hb.cell (by simp)]; simp
  have d2 : w2.cell? ⟨w1.heap.size, 2, none⟩ = some (.string q) := by rw [hb.cell (by simp)]; simp
  have HT3 := hide (HT2.out.later hb)
  have K4 := hide (misplaced_calls 3 k q sc w2)
  clear hb
  go_wp2_with (go_at_call 46; refine K4.out.mono ?_)
  intro e w3 h3
  have H3 := hide (h3.from HT3.out)
  obtain ⟨fb, rfl, -⟩ := h3
  go_wp2_with fail
  exact ⟨rfl, H3.out⟩

set_option maxRecDepth 100000 in
set_option maxHeartbeats 4000000 in
theorem cword_calls (sc : Nat) (s : ByteArray) (p k p' kd : Nat) (q : ByteArray) (w : World) (hn : Nexts s p 3 k p' q) (h : ScAt w sc s p) (ht : Tabs3 w) (hsc : 11 < sc) (hkd : kd = 1) (hq : q = cword) :
    Calls Tryz.prog 47 #[.pointer (some ⟨sc, 0, none⟩), .func (.func 78) #[] #[]] w fun e w' => e = .returned (.int .i64 (kd : Nat)) ∧ ScAt w' sc s p' ∧ Touched w sc w' := by
  have hlt := h.lt
  have hpos : ((kd : Int) == 0) = false := by simp; omega
  have hT0 := ht.alloc (.cells #[.int .i64 3] 71)
  have K1 := hide (expect_calls sc s p 3 k p' q [3] (.slice (some ⟨w.heap.size, 0, none⟩) 1 1) _ hn (h.alloc (.cells #[.int .i64 3] 71)) hT0.b.a hsc (kinds1 3) (fun b n cap e => by injection e with e; injection e with e; injection e with e; omega) (by simp))
  have K2 : Hid (∀ W, Tabs3 W → Calls Tryz.prog 78 #[.string q] W fun e w' => e = .returned (.int .i64 (kd : Nat)) ∧ Below W.heap.size W w') := fun W hW => by rw [hq, hkd]; exact ctorKind_calls W
  have HT := hide hT0
  clear h ht hn hT0 hkd hq
  go_enter Tryz.func47, Tryz.ntmps47
  go_wp2_with (go_at_call 30; refine K1.out.mono ?_)
  rintro e w1 ⟨rfl, hS1, hT1⟩
  have hS2 := hS1.alloc (.cells #[.int .i64 (3 : Nat), .int .i64 (k : Nat), .string q] 73)
  have hT2 := hT1.trans (Touched.alloc w1 sc (.cells #[.int .i64 (3 : Nat), .int .i64 (k : Nat), .string q] 73))
  have K3 := hide (K2.out _ (HT.out.touched hT2 hsc))
  have HS2 := hide hS2
  have HT2 := hide hT2
  clear hS1 hT1 hS2 hT2
  go_wp2_with (go_at_call 78; refine K3.out.mono ?_)
  rintro e w2 ⟨rfl, hb⟩
  have HS3 := hide (HS2.out.below hb)
  have HT3 := hide (((Touched.alloc w sc _).trans HT2.out).later hb)
  clear hb
  go_wp2_with fail
  go_ret
  exact ⟨rfl, HS3.out, HT3.out⟩

set_option maxRecDepth 100000 in
set_option maxHeartbeats 4000000 in
theorem cword_none (sc : Nat) (s : ByteArray) (p : Nat) (w : World) (hs : s.size ≤ 200000) (hp : p ≤ s.size) (hq : isNameB (tok s p).t = false) (h : ScAt w sc s p) (ht : Tabs3 w) (hsc : 11 < sc) :
    Calls Tryz.prog 47 #[.pointer (some ⟨sc, 0, none⟩), .func (.func 78) #[] #[]] w fun e w' => Thrown w sc (runTo blankB s p) e w' := by
  have hlt := h.lt
  have hT0 := ht.alloc (.cells #[.int .i64 3] 71)
  have K1 := hide (expect_bad sc s p _ _ _ _ [3] (.slice (some ⟨w.heap.size, 0, none⟩) 1 1) _ (next_all hs hp) (h.alloc (.cells #[.int .i64 3] 71)) hT0.b.a hsc (kinds1 3) (fun b n cap e => by injection e with e; injection e with e; injection e with e; omega) (by simp) (by simpa using noname_kind hp hq))
  clear h ht hT0 hq
  go_enter Tryz.func47, Tryz.ntmps47
  go_wp2_with (go_at_call 30; refine K1.out.mono ?_)
  intro e w1 h1
  have H1 := hide (h1.from (Touched.alloc w sc _))
  obtain ⟨fb, rfl, -⟩ := h1
  go_wp2_with fail
  exact ⟨rfl, H1.out⟩

set_option maxRecDepth 100000 in
set_option maxHeartbeats 4000000 in
theorem cword_other (sc : Nat) (s : ByteArray) (p k p' : Nat) (q : ByteArray) (w : World) (hn : Nexts s p 3 k p' q) (h : ScAt w sc s p) (ht : Tabs3 w) (hsc : 11 < sc) (g0 : q ≠ cword) :
    Calls Tryz.prog 47 #[.pointer (some ⟨sc, 0, none⟩), .func (.func 78) #[] #[]] w fun e w' => Thrown w sc k e w' := by
  have hlt := h.lt
  have hT0 := ht.alloc (.cells #[.int .i64 3] 71)
  have K1 := hide (expect_calls sc s p 3 k p' q [3] (.slice (some ⟨w.heap.size, 0, none⟩) 1 1) _ hn (h.alloc (.cells #[.int .i64 3] 71)) hT0.b.a hsc (kinds1 3) (fun b n cap e => by injection e with e; injection e with e; injection e with e; omega) (by simp))
  have K2 : Hid (∀ W, Tabs3 W → Calls Tryz.prog 78 #[.string q] W fun e w' => e = .returned (.int .i64 0) ∧ Below W.heap.size W w') := fun W hW => ctorKind_none q W g0
  have HT := hide hT0
  clear h ht hn hT0 g0
  go_enter Tryz.func47, Tryz.ntmps47
  go_wp2_with (go_at_call 30; refine K1.out.mono ?_)
  rintro e w1 ⟨rfl, hS1, hT1⟩
  have hT2 := hT1.trans (Touched.alloc w1 sc (.cells #[.int .i64 (3 : Nat), .int .i64 (k : Nat), .string q] 73))
  have K3 := hide (K2.out _ (HT.out.touched hT2 hsc))
  have hz1 := hT1.size
  have HT2 := hide ((Touched.alloc w sc (.cells #[.int .i64 3] 71)).trans hT2)
  clear hS1 hT1 hT2
  go_wp2_with (go_at_call 78; refine K3.out.mono ?_)
  rintro e w2 ⟨rfl, hb⟩
  have d0 : w2.cell? ⟨w1.heap.size, 0, none⟩ = some (.int .i64 3) := by rw [hb.cell (by simp)]; simp
  have d1 : w2.cell? ⟨w1.heap.size, 1, none⟩ = some (.int .i64 (k : Nat)) := by rw [hb.cell (by simp)]; simp
  have d2 : w2.cell? ⟨w1.heap.size, 2, none⟩ = some (.string q) := by rw [hb.cell (by simp)]; simp
  have HT3 := hide (HT2.out.later hb)
  have K4 := hide (misplaced_calls 3 k q sc w2)
  clear hb
  go_wp2_with (go_at_call 46; refine K4.out.mono ?_)
  intro e w3 h3
  have H3 := hide (h3.from HT3.out)
  obtain ⟨fb, rfl, -⟩ := h3
  go_wp2_with fail
  exact ⟨rfl, H3.out⟩

set_option maxRecDepth 100000 in
set_option maxHeartbeats 4000000 in
/-- Before a text's end. -/
theorem before_end (sc : Nat) (s : ByteArray) (p : Nat) (w : World) (hs : s.size ≤ 200000) (hp : p ≤ s.size) (h : ScAt w sc s p) (ht : Tabs w) :
    Calls Tryz.prog 31 #[.pointer (some ⟨sc, 0, none⟩), .int .i64 0] w fun e w' => e = .returned (.bool (decide (runTo blankB s p = s.size))) ∧ Below w.heap.size w w' := by
  have hlt := h.lt
  have c0 := h.c0
  have c1 := h.c1
  have he : (((ntok s p).1 : Int) == 0) = decide (runTo blankB s p = s.size) := by
    by_cases he : runTo blankB s p = s.size
    · rw [ntok_end he]; simp [he]
    · rw [ntok_in he]
      have h1 := (scanAt_end (good := good) (s := s) (k := runTo blankB s p) (by have := runTo_le blankB s hp; omega)).2.2.2
      have h2 : (((scanAt good s (runTo blankB s p)).1 : Int) == 0) = false := by rw [beq_eq_false_iff_ne]; omega
      simp [he, h2]
  have hn := next_all hs hp
  generalize (ntok s p).1 = kd at *
  generalize (ntok s p).2.2 = p' at *
  generalize ntext s p = t at *
  have h6 := ht.lt
  have hS : ScAt (w.alloc (.cells #[.string s, .int .i64 (p : Nat)] 70)) w.heap.size s p := heap_alloc_new w _
  have hB : Below w.heap.size w (w.alloc (.cells #[.string s, .int .i64 (p : Nat)] 70)) := (Below.refl _ _).alloc (Nat.le_refl _) _
  have K1 := hide (hn w.heap.size _ hS (ht.below hB h6) h6)
  have HB := hide hB
  clear h ht hn hS hB
  go_enter Tryz.func31, Tryz.ntmps31
  go_wp2_with (go_at_call 44; refine K1.out.mono ?_)
  rintro e w1 ⟨rfl, hS1, hT1⟩
  have HT := hide (HB.out.trans (hT1.below (B := w.heap.size) (by simp) (Nat.le_refl _)))
  clear hS1 hT1
  have hfx := tfield0
  go_wp2_with fail
  go_ret
  exact ⟨by rw [← he]; rfl, HT.out⟩

end Go.Proofs.YtjlibnijecdgcaaGreatDoor
