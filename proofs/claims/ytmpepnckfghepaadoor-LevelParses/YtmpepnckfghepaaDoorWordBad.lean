/- The contracts of the scanner's levelKind and Word, where no word of levels stands. -/
import Derived.Test.YtmpepnckfghepaaDoorNextAll
import Derived.Test.YtmpepnckfghepaaDoorWord
namespace Go.Proofs.YtmpepnckfghepaaDoor
open Go.RowKit

theorem sx4 (w : World) : (Instr.index 74 shapesV (.int .i64 4)).run Tryd.prog w = .ok (.agg #[.string ⟨#[]⟩, .int .i64 0]) w := by kernel_rfl

theorem litSame (l : List UInt8) (t : ByteArray) : (l == t.toList) = decide (t = ⟨l.toArray⟩) := by rw [BEq.comm]; exact sameLit t l
theorem litSame_neg {l : List UInt8} {t : ByteArray} (h : t ≠ ⟨l.toArray⟩) : (l == t.toList) = false := by rw [litSame]; simp [h]

set_option maxRecDepth 100000 in
set_option maxHeartbeats 4000000 in
theorem levelKind_none (q : ByteArray) (w : World) (h0 : q ≠ ⟨#[]⟩) (h1 : q ≠ ⟨#[115]⟩) (h2 : q ≠ ⟨#[109, 97, 120]⟩) (h3 : q ≠ ⟨#[105, 109, 97, 120]⟩) (ht : Tabs w) : Calls Tryd.prog 31 #[.string q] w fun e w' => e = .returned (.int .i64 0) ∧ Below w.heap.size w w' := by
  obtain ⟨⟨t0, t1, t2, t3, t4⟩, -, ⟨n0, n1, n2, n3, n4⟩, -, -, -⟩ := ht
  have y0 := litSame_neg (l := []) h0
  have y1 := litSame_neg (l := [115]) h1
  have y2 := litSame_neg (l := [109, 97, 120]) h2
  have y3 := litSame_neg (l := [105, 109, 97, 120]) h3
  clear h0 h1 h2 h3
  go_enter Tryd.func31, Tryd.ntmps31
  go_wp2_with fail
  clear t0 t1 t2 t3 t4 n0 n1 n2 n3 n4
  go_loopg [6] 5 (fun g i wr => ∃ k : Nat, k + g = 5 ∧ i = .int .i64 k ∧ Below w.heap.size w wr)
  case atStart => exact ⟨0, by omega, rfl, Below.refl _ _⟩
  case round =>
    obtain ⟨k, hkg, rfl, hbel⟩ := hrel
    have HA : Hid (∀ o, Below w.heap.size w (wr.alloc o)) := fun o => hbel.alloc hbel.size _
    have HB := hide hbel
    clear hbel
    by_cases hk0 : k = 0
    · subst hk0
      have hix := sx0
      go_wp2_with fail
      go_roundg 4
      case measure => omega
      case rel => exact ⟨1, by omega, by go_num, HA.out _⟩
    by_cases hk1 : k = 1
    · subst hk1
      have hix := sx1
      go_wp2_with fail
      go_roundg 3
      case measure => omega
      case rel => exact ⟨2, by omega, by go_num, HA.out _⟩
    by_cases hk2 : k = 2
    · subst hk2
      have hix := sx2
      go_wp2_with fail
      go_roundg 2
      case measure => omega
      case rel => exact ⟨3, by omega, by go_num, HA.out _⟩
    by_cases hk3 : k = 3
    · subst hk3
      have hix := sx3
      go_wp2_with fail
      go_roundg 1
      case measure => omega
      case rel => exact ⟨4, by omega, by go_num, HA.out _⟩
    by_cases hk4 : k = 4
    · subst hk4
      have hix := sx4
      go_wp2_with fail
      go_roundg 0
      case measure => omega
      case rel => exact ⟨5, by omega, by go_num, HA.out _⟩
    have hk : k = 5 := by omega
    subst hk
    clear hk0 hk1 hk2 hk3 hk4
    go_wp2_with fail
    go_ret
    exact ⟨rfl, HB.out⟩

theorem kinds1 {w : World} (c : Nat) : InKinds (w.alloc (.cells #[.int .i64 (c : Nat)] 54)) (.slice (some ⟨w.heap.size, 0, none⟩) 1 1) [c] := ⟨by simp, w.heap.size, 1, rfl, fun i hi => by match i, hi with | 0, _ => simp⟩

set_option maxRecDepth 100000 in
set_option maxHeartbeats 4000000 in
/-- Word, where no name stands. -/
theorem word_none (sc : Nat) (s : ByteArray) (p k p' kd : Nat) (q : ByteArray) (w : World) (hn : Nexts s p kd k p' q) (h : ScAt w sc s p) (ht : Tabs w) (hsc : 5 < sc) (hk : kd ≠ 3) :
    Calls Tryd.prog 30 #[.pointer (some ⟨sc, 0, none⟩), .func (.func 31) #[] #[]] w fun e w' => Threw w sc 1 k e w' := by
  have hlt := h.lt
  have hT0 := ht.below ((Below.refl _ _).alloc (Nat.le_refl _) (.cells #[.int .i64 3] 54)) ht.lt
  have K1 := hide (expect_bad sc s p kd k p' q [3] (.slice (some ⟨w.heap.size, 0, none⟩) 1 1) _ hn (h.alloc (.cells #[.int .i64 3] 54)) hT0 hsc (kinds1 3) (fun b n cap e => by injection e with e; injection e with e; injection e with e; omega) (by simp) (by simpa using hk))
  clear h ht hn hT0 hk
  go_enter Tryd.func30, Tryd.ntmps30
  go_wp2_with (go_at_call 17; refine K1.out.mono ?_)
  intro e w1 h1
  have H1 := hide (h1.from (Touched.alloc w sc _))
  obtain ⟨fb, rfl, -⟩ := h1
  go_wp2_with fail
  exact ⟨rfl, H1.out⟩

set_option maxRecDepth 100000 in
set_option maxHeartbeats 4000000 in
/-- Word, where another name stands. -/
theorem word_other (sc : Nat) (s : ByteArray) (p k p' : Nat) (q : ByteArray) (w : World) (hn : Nexts s p 3 k p' q) (h : ScAt w sc s p) (ht : Tabs w) (hsc : 5 < sc) (h0 : q ≠ ⟨#[]⟩) (h1 : q ≠ ⟨#[115]⟩) (h2 : q ≠ ⟨#[109, 97, 120]⟩) (h3 : q ≠ ⟨#[105, 109, 97, 120]⟩) :
    Calls Tryd.prog 30 #[.pointer (some ⟨sc, 0, none⟩), .func (.func 31) #[] #[]] w fun e w' => Threw w sc 1 k e w' := by
  have hlt := h.lt
  have hT0 := ht.below ((Below.refl _ _).alloc (Nat.le_refl _) (.cells #[.int .i64 3] 54)) ht.lt
  have K1 := hide (expect_calls sc s p 3 k p' q [3] (.slice (some ⟨w.heap.size, 0, none⟩) 1 1) _ hn (h.alloc (.cells #[.int .i64 3] 54)) hT0 hsc ⟨by simp, w.heap.size, 1, rfl, fun i hi => by match i, hi with | 0, _ => simp⟩ (fun b n cap e => by injection e with e; injection e with e; injection e with e; omega) (by simp))
  have K2 : Hid (∀ W, Tabs W → Calls Tryd.prog 31 #[.string q] W fun e w' => e = .returned (.int .i64 0) ∧ Below W.heap.size W w') := fun W hW => levelKind_none q W h0 h1 h2 h3 hW
  have HT := hide hT0
  clear h ht hn hT0 h0 h1 h2 h3
  go_enter Tryd.func30, Tryd.ntmps30
  go_wp2_with (go_at_call 17; refine K1.out.mono ?_)
  rintro e w1 ⟨rfl, hS1, hT1⟩
  have hT2 := hT1.trans (Touched.alloc w1 sc (.cells #[.int .i64 (3 : Nat), .int .i64 (k : Nat), .string q] 56))
  have K3 := hide (K2.out _ (HT.out.touched hT2 hsc))
  have hz1 := hT1.size
  have HT2 := hide ((Touched.alloc w sc (.cells #[.int .i64 3] 54)).trans hT2)
  clear hS1 hT1 hT2
  go_wp2_with (go_at_call 31; refine K3.out.mono ?_)
  rintro e w2 ⟨rfl, hb⟩
  have d0 : w2.cell? ⟨w1.heap.size, 0, none⟩ = some (.int .i64 3) := by rw [hb.cell (by simp)]; simp
  have d1 : w2.cell? ⟨w1.heap.size, 1, none⟩ = some (.int .i64 (k : Nat)) := by rw [hb.cell (by simp)]; simp
  have d2 : w2.cell? ⟨w1.heap.size, 2, none⟩ = some (.string q) := by rw [hb.cell (by simp)]; simp
  have HT3 := hide (HT2.out.later hb)
  have K4 := hide (misplaced_calls 3 k q sc w2)
  clear hb
  go_wp2_with (go_at_call 19; refine K4.out.mono ?_)
  intro e w3 h3
  have H3 := hide (h3.from HT3.out)
  obtain ⟨fb, rfl, -⟩ := h3
  go_wp2_with fail
  exact ⟨rfl, H3.out⟩

end Go.Proofs.YtmpepnckfghepaaDoor
