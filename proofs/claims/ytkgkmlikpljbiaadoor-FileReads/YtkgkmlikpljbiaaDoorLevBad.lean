/- The contracts of the scanner's levelKind and Word, where no word of levels stands. -/
import Derived.Test.YtkgkmlikpljbiaaDoorNextAll
import Derived.Test.YtkgkmlikpljbiaaDoorLev

namespace Go.Proofs.YtkgkmlikpljbiaaDoor
open Go.RowKit

theorem sx4 (w : World) : (Instr.index 111 shapesV (.int .i64 4)).run Tryd.prog w = .ok (.agg #[.string ⟨#[]⟩, .int .i64 0]) w := by kernel_rfl

theorem litSame (l : List UInt8) (t : ByteArray) : (l == t.toList) = decide (t = ⟨l.toArray⟩) := by rw [BEq.comm]; exact sameLit t l
theorem litSame_neg {l : List UInt8} {t : ByteArray} (h : t ≠ ⟨l.toArray⟩) : (l == t.toList) = false := by rw [litSame]; simp [h]

set_option maxRecDepth 100000 in
set_option maxHeartbeats 4000000 in
theorem levelKind_none (q : ByteArray) (w : World) (h0 : q ≠ ⟨#[]⟩) (h1 : q ≠ ⟨#[115]⟩) (h2 : q ≠ ⟨#[109, 97, 120]⟩) (h3 : q ≠ ⟨#[105, 109, 97, 120]⟩) (ht : Tabs w) : Calls Tryd.prog 83 #[.string q] w fun e w' => e = .returned (.int .i64 0) ∧ Below w.heap.size w w' := by
  obtain ⟨⟨t0, t1, t2, t3, t4⟩, -, ⟨n0, n1, n2, n3, n4⟩, -, -, -⟩ := ht
  have y0 := litSame_neg (l := []) h0
  have y1 := litSame_neg (l := [115]) h1
  have y2 := litSame_neg (l := [109, 97, 120]) h2
  have y3 := litSame_neg (l := [105, 109, 97, 120]) h3
  clear h0 h1 h2 h3
  go_enter Tryd.func83, Tryd.ntmps83
  go_wp2_with fail
  clear t0 t1 t2 t3 t4 n0 n1 n2 n3 n4
  go_loopg [6] 5 (fun g i wr => ∃ k : Nat, k + g = 5 ∧ i = .int .i64 k ∧ Below w.heap.size w wr)
  case atStart => exact ⟨0, by omega, rfl, Below.refl _ _⟩
  case round =>
    obtain ⟨k, hkg, rfl, hbel⟩ := hrel
    have HA : Hid (∀ o, Below w.heap.size w (wr.alloc o)) := fun o => hbel.alloc hbel.size _
    have HB := hide hbel
    clear hbel
    by_cases hk0 : k = 0
    · subst hk0
      have hix := sx0
      go_wp2_with fail
      go_roundg 4
      case measure => omega
      case rel => exact ⟨1, by omega, by go_num, HA.out _⟩
    by_cases hk1 : k = 1
    · subst hk1
      have hix := sx1
      go_wp2_with fail
      go_roundg 3
      case measure => omega
      case rel => exact ⟨2, by omega, by go_num, HA.out _⟩
    by_cases hk2 : k = 2
    · subst hk2
      have hix := sx2
      go_wp2_with fail
      go_roundg 2
      case measure => omega
      case rel => exact ⟨3, by omega, by go_num, HA.out _⟩
    by_cases hk3 : k = 3
    · subst hk3
      have hix := sx3
      go_wp2_with fail
      go_roundg 1
      case measure => omega
      case rel => exact ⟨4, by omega, by go_num, HA.out _⟩
    by_cases hk4 : k = 4
    · subst hk4
      have hix := sx4
      go_wp2_with fail
      go_roundg 0
      case measure => omega
      case rel => exact ⟨5, by omega, by go_num, HA.out _⟩
    have hk : k = 5 := by omega
    subst hk
    clear hk0 hk1 hk2 hk3 hk4
    go_wp2_with fail
    go_ret
    exact ⟨rfl, HB.out⟩

theorem kinds1 {w : World} (c : Nat) : InKinds (w.alloc (.cells #[.int .i64 (c : Nat)] 56)) (.slice (some ⟨w.heap.size, 0, none⟩) 1 1) [c] := ⟨by simp, w.heap.size, 1, rfl, fun i hi => by match i, hi with | 0, _ => simp⟩

set_option maxRecDepth 100000 in
set_option maxHeartbeats 4000000 in
/-- Word, where no name stands. -/
theorem word_none (sc : Nat) (s : ByteArray) (p k p' kd : Nat) (q : ByteArray) (w : World) (hn : Nexts s p kd k p' q) (h : ScAt w sc s p) (ht : Tabs w) (hsc : 7 < sc) (hk : kd ≠ 3) :
    Calls Tryd.prog 28 #[.pointer (some ⟨sc, 0, none⟩), .func (.func 83) #[] #[]] w fun e w' => Threw w sc 1 k e w' := by
  have hlt := h.lt
  have hT0 := ht.below ((Below.refl _ _).alloc (Nat.le_refl _) (.cells #[.int .i64 3] 56)) ht.lt
  have K1 := hide (expect_bad sc s p kd k p' q [3] (.slice (some ⟨w.heap.size, 0, none⟩) 1 1) _ hn (h.alloc (.cells #[.int .i64 3] 56)) hT0 hsc (kinds1 3) (fun b n cap e => by injection e with e; injection e with e; injection e with e; omega) (by simp) (by simpa using hk))
  clear h ht hn hT0 hk
  go_enter Tryd.func28, Tryd.ntmps28
  go_wp2_with (go_at_call 15; refine K1.out.mono ?_)
  intro e w1 h1
  have H1 := hide (h1.from (Touched.alloc w sc _))
  obtain ⟨fb, rfl, -⟩ := h1
  go_wp2_with fail
  exact ⟨rfl, H1.out⟩

set_option maxRecDepth 100000 in
set_option maxHeartbeats 4000000 in
/-- Word, where another name stands. -/
theorem word_other (sc : Nat) (s : ByteArray) (p k p' : Nat) (q : ByteArray) (w : World) (hn : Nexts s p 3 k p' q) (h : ScAt w sc s p) (ht : Tabs w) (hsc : 7 < sc) (h0 : q ≠ ⟨#[]⟩) (h1 : q ≠ ⟨#[115]⟩) (h2 : q ≠ ⟨#[109, 97, 120]⟩) (h3 : q ≠ ⟨#[105, 109, 97, 120]⟩) :
    Calls Tryd.prog 28 #[.pointer (some ⟨sc, 0, none⟩), .func (.func 83) #[] #[]] w fun e w' => Threw w sc 1 k e w' := by
  have hlt := h.lt
  have hT0 := ht.below ((Below.refl _ _).alloc (Nat.le_refl _) (.cells #[.int .i64 3] 56)) ht.lt
  have K1 := hide (expect_calls sc s p 3 k p' q [3] (.slice (some ⟨w.heap.size, 0, none⟩) 1 1) _ hn (h.alloc (.cells #[.int .i64 3] 56)) hT0 hsc ⟨by simp, w.heap.size, 1, rfl, fun i hi => by match i, hi with | 0, _ => simp⟩ (fun b n cap e => by injection e with e; injection e with e; injection e with e; omega) (by simp))
  have K2 : Hid (∀ W, Tabs W → Calls Tryd.prog 83 #[.string q] W fun e w' => e = .returned (.int .i64 0) ∧ Below W.heap.size W w') := fun W hW => levelKind_none q W h0 h1 h2 h3 hW
  have HT := hide hT0
  clear h ht hn hT0 h0 h1 h2 h3
  go_enter Tryd.func28, Tryd.ntmps28
  go_wp2_with (go_at_call 15; refine K1.out.mono ?_)
  rintro e w1 ⟨rfl, hS1, hT1⟩
  have hT2 := hT1.trans (Touched.alloc w1 sc (.cells #[.int .i64 (3 : Nat), .int .i64 (k : Nat), .string q] 58))
  have K3 := hide (K2.out _ (HT.out.touched hT2 hsc))
  have hz1 := hT1.size
  have HT2 := hide ((Touched.alloc w sc (.cells #[.int .i64 3] 56)).trans hT2)
  clear hS1 hT1 hT2
  go_wp2_with (go_at_call 83; refine K3.out.mono ?_)
  rintro e w2 ⟨rfl, hb⟩
  have d0 : w2.cell? ⟨w1.heap.size, 0, none⟩ = some (.int .i64 3) := by rw [hb.cell (by simp)]; simp
  have d1 : w2.cell? ⟨w1.heap.size, 1, none⟩ = some (.int .i64 (k : Nat)) := by rw [hb.cell (by simp)]; simp
  have d2 : w2.cell? ⟨w1.heap.size, 2, none⟩ = some (.string q) := by rw [hb.cell (by simp)]; simp
  have HT3 := hide (HT2.out.later hb)
  have K4 := hide (misplaced_calls 3 k q sc w2)
  clear hb
  go_wp2_with (go_at_call 27; refine K4.out.mono ?_)
  intro e w3 h3
  have H3 := hide (h3.from HT3.out)
  obtain ⟨fb, rfl, -⟩ := h3
  go_wp2_with fail
  exact ⟨rfl, H3.out⟩

end Go.Proofs.YtkgkmlikpljbiaaDoor

/- The contract of the scanner's Level where no level begins, and where what follows its bracket throws. -/
namespace Go.Proofs.YtkgkmlikpljbiaaDoor
open Go.RowKit

theorem kinds3_in (w : World) : InKinds ((w.alloc zlev).alloc kinds3) (.slice (some ⟨w.heap.size + 1, 0, none⟩) 3 3) [1, 3, 4] := by
  refine ⟨by simp, w.heap.size + 1, 3, rfl, fun i hi => ?_⟩
  match i, hi with
  | 0, _ => simp [World.cell?_alloc_at]
  | 1, _ => simp [World.cell?_alloc_at]
  | 2, _ => simp [World.cell?_alloc_at]

set_option maxRecDepth 100000 in
set_option maxHeartbeats 4000000 in
theorem lev_other (sc : Nat) (s : ByteArray) (p kd k p' : Nat) (t : ByteArray) (w : World) (hn : Nexts s p kd k p' t) (h : ScAt w sc s p) (ht : Tabs w) (hsc : 7 < sc) (h1 : kd ≠ 1) (h3 : kd ≠ 3) (h4 : kd ≠ 4) :
    Calls Tryd.prog 64 #[.pointer (some ⟨sc, 0, none⟩)] w fun e w' => Threw w sc 1 k e w' := by
  have hlt := h.lt
  have hb : Below w.heap.size w ((w.alloc zlev).alloc kinds3) := ((Below.refl _ _).alloc (Nat.le_refl _) _).alloc (by simp) _
  have K1 := hide (expect_bad sc s p kd k p' t [1, 3, 4] _ _ hn ((h.alloc _).alloc _) (ht.below hb ht.lt) hsc (kinds3_in w) (fun b n cap e => by injection e with e; injection e with e; injection e with e; omega) (by simp) (by simp; omega))
  clear h ht hn hb h1 h3 h4
  go_enter Tryd.func64, Tryd.ntmps64
  go_wp2_with (go_at_call 15; refine K1.out.mono ?_)
  intro e w1 h1
  have H1 := hide (h1.from ((Touched.alloc w sc zlev).trans (Touched.alloc _ sc kinds3)))
  obtain ⟨fb, rfl, -⟩ := h1
  go_wp2_with fail
  exact ⟨rfl, H1.out⟩

set_option maxRecDepth 100000 in
set_option maxHeartbeats 4000000 in
theorem lev_digits (sc : Nat) (s : ByteArray) (p k p' : Nat) (t : ByteArray) (w : World) (hn : Nexts s p 4 k p' t) (h : ScAt w sc s p) (ht : Tabs w) (hsc : 7 < sc) (h0 : t ≠ ⟨#[48]⟩) :
    Calls Tryd.prog 64 #[.pointer (some ⟨sc, 0, none⟩)] w fun e w' => Threw w sc 1 k e w' := by
  have hlt := h.lt
  have K1 := hide (lev_expect sc s p 4 k p' t w hn h ht hsc (.inr (.inr rfl)))
  have y1 := sameLit_neg (l := [48]) h0
  clear h ht hn h0
  go_enter Tryd.func64, Tryd.ntmps64
  go_wp2_with (go_at_call 15; refine K1.out.mono ?_)
  rintro e w1 ⟨rfl, hS1, hT1⟩
  have K2 := hide (fun W => misplaced_calls 4 k t sc W)
  have HT := hide (((Touched.alloc w sc zlev).trans hT1).trans (Touched.alloc w1 sc (.cells #[.int .i64 (4 : Nat), .int .i64 (k : Nat), .string t] 58)))
  clear hS1 hT1
  go_wp2_with (go_at_call 27; refine (K2.out _).mono ?_)
  intro e w3 h3
  have H3 := hide (h3.from HT.out)
  obtain ⟨fb, rfl, -⟩ := h3
  go_wp2_with fail
  exact ⟨rfl, H3.out⟩

/-- Level, where none begins. -/
theorem lev_none (sc : Nat) (s : ByteArray) (p : Nat) (w : World) (hs : s.size ≤ 200000) (hp : p ≤ s.size) (h : ScAt w sc s p) (ht : Tabs w) (hsc : 7 < sc) (h0 : (tok s p).t ≠ ⟨#[48]⟩) (hn : isNameB (tok s p).t = false) (ho : (tok s p).t ≠ ⟨#[40]⟩) :
    Calls Tryd.prog 64 #[.pointer (some ⟨sc, 0, none⟩)] w fun e w' => Threw w sc 1 (runTo blankB s p) e w' := by
  have hx := next_all (s := s) (p := p) hs hp
  by_cases he : runTo blankB s p = s.size
  · rw [ntok_end he] at hx
    exact lev_other sc s p _ _ _ _ w hx h ht hsc (by simp) (by simp) (by simp)
  · have hk : runTo blankB s p < s.size := by have := runTo_le blankB s hp; omega
    obtain ⟨x1, x3, x4⟩ := scan_none (good := good) hk h0 hn ho
    have ht4 : ntext s p = s.extract (runTo blankB s p) (scanAt good s (runTo blankB s p)).2 := by unfold ntext; rw [if_neg he, ntok_in he]
    rw [ht4, ntok_in he] at hx
    by_cases h4 : (scanAt good s (runTo blankB s p)).1 = 4
    · have := x4 h4
      simp only [h4] at hx
      exact lev_digits sc s p _ _ _ w hx h ht hsc this
    · exact lev_other sc s p _ _ _ _ w hx h ht hsc x1 x3 h4

set_option maxRecDepth 100000 in
set_option maxHeartbeats 4000000 in
theorem lev_open_bad (sc : Nat) (s : ByteArray) (p p1 a : Nat) (w : World) (hs : s.size ≤ 200000) (hp : p ≤ s.size) (hr : SignAt s 40 p p1) (h : ScAt w sc s p) (ht : Tabs w) (hsc : 7 < sc)
    (hin : ∀ W, ScAt W sc s p1 → Tabs W → Calls Tryd.prog 77 #[.pointer (some ⟨sc, 0, none⟩)] W fun e w' => Threw W sc 1 a e w') :
    Calls Tryd.prog 64 #[.pointer (some ⟨sc, 0, none⟩)] w fun e w' => Threw w sc 1 a e w' := by
  have hlt := h.lt
  have K1 := hide (lev_expect sc s p 1 _ p1 _ w (hr.nexts hs hp 1 (.inl ⟨rfl, rfl⟩)) h ht hsc (.inl rfl))
  have K2 := hide hin
  have HTb := hide ht
  clear h ht hr hin
  generalize s.extract (runTo blankB s p) p1 = t at *
  generalize runTo blankB s p = k at *
  go_enter Tryd.func64, Tryd.ntmps64
  go_wp2_with (go_at_call 15; refine K1.out.mono ?_)
  rintro e w1 ⟨rfl, hS1, hT1⟩
  have hT2 := ((Touched.alloc w sc zlev).trans hT1).trans (Touched.alloc _ sc (.cells #[.int .i64 (1 : Nat), .int .i64 (k : Nat), .string t] 58))
  have K3 := hide (K2.out _ (hS1.alloc (.cells #[.int .i64 (1 : Nat), .int .i64 (k : Nat), .string t] 58)) (HTb.out.touched hT2 hsc))
  have HT2 := hide hT2
  clear hS1 hT1 hT2
  go_wp2_with (go_at_call 77; refine K3.out.mono ?_)
  intro e w3 h3
  have H3 := hide (h3.from HT2.out)
  obtain ⟨fb, rfl, -⟩ := h3
  go_wp2_with fail
  exact ⟨rfl, H3.out⟩

end Go.Proofs.YtkgkmlikpljbiaaDoor
