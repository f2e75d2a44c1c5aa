/- The contract of the scanner's Level where no level begins, and where what follows its bracket throws. -/
import Derived.Test.YtmpepnckfghepaaDoorWordBad
import Derived.Test.YtmpepnckfghepaaDoorLev
namespace Go.Proofs.YtmpepnckfghepaaDoor
open Go.RowKit

theorem kinds3_in (w : World) : InKinds ((w.alloc zlev).alloc kinds3) (.slice (some ⟨w.heap.size + 1, 0, none⟩) 3 3) [1, 3, 4] := by
  refine ⟨by simp, w.heap.size + 1, 3, rfl, fun i hi => ?_⟩
  match i, hi with
  | 0, _ => simp [World.cell?_alloc_at]
  | 1, _ => simp [World.cell?_alloc_at]
  | 2, _ => simp [World.cell?_alloc_at]

set_option maxRecDepth 100000 in
set_option maxHeartbeats 4000000 in
theorem lev_other (sc : Nat) (s : ByteArray) (p kd k p' : Nat) (t : ByteArray) (w : World) (hn : Nexts s p kd k p' t) (h : ScAt w sc s p) (ht : Tabs w) (hsc : 5 < sc) (h1 : kd ≠ 1) (h3 : kd ≠ 3) (h4 : kd ≠ 4) :
    Calls Tryd.prog 10 #[.pointer (some ⟨sc, 0, none⟩)] w fun e w' => Threw w sc 1 k e w' := by
  have hlt := h.lt
  have hb : Below w.heap.size w ((w.alloc zlev).alloc kinds3) := ((Below.refl _ _).alloc (Nat.le_refl _) _).alloc (by simp) _
  have K1 := hide (expect_bad sc s p kd k p' t [1, 3, 4] _ _ hn ((h.alloc _).alloc _) (ht.below hb ht.lt) hsc (kinds3_in w) (fun b n cap e => by injection e with e; injection e with e; injection e with e; omega) (by simp) (by simp; omega))
  clear h ht hn hb h1 h3 h4
  go_enter Tryd.func10, Tryd.ntmps10
  go_wp2_with (go_at_call 17; refine K1.out.mono ?_)
  intro e w1 h1
  have H1 := hide (h1.from ((Touched.alloc w sc zlev).trans (Touched.alloc _ sc kinds3)))
  obtain ⟨fb, rfl, -⟩ := h1
  go_wp2_with fail
  exact ⟨rfl, H1.out⟩

set_option maxRecDepth 100000 in
set_option maxHeartbeats 4000000 in
theorem lev_digits (sc : Nat) (s : ByteArray) (p k p' : Nat) (t : ByteArray) (w : World) (hn : Nexts s p 4 k p' t) (h : ScAt w sc s p) (ht : Tabs w) (hsc : 5 < sc) (h0 : t ≠ ⟨#[48]⟩) :
    Calls Tryd.prog 10 #[.pointer (some ⟨sc, 0, none⟩)] w fun e w' => Threw w sc 1 k e w' := by
  have hlt := h.lt
  have K1 := hide (lev_expect sc s p 4 k p' t w hn h ht hsc (.inr (.inr rfl)))
  have y1 := sameLit_neg (l := [48]) h0
  clear h ht hn h0
  go_enter Tryd.func10, Tryd.ntmps10
  go_wp2_with (go_at_call 17; refine K1.out.mono ?_)
  rintro e w1 ⟨rfl, hS1, hT1⟩
  have K2 := hide (fun W => misplaced_calls 4 k t sc W)
  have HT := hide (((Touched.alloc w sc zlev).trans hT1).trans (Touched.alloc w1 sc (.cells #[.int .i64 (4 : Nat), .int .i64 (k : Nat), .string t] 56)))
  clear hS1 hT1
  go_wp2_with (go_at_call 19; refine (K2.out _).mono ?_)
  intro e w3 h3
  have H3 := hide (h3.from HT.out)
  obtain ⟨fb, rfl, -⟩ := h3
  go_wp2_with fail
  exact ⟨rfl, H3.out⟩

/-- Level, where none begins. -/
theorem lev_none (sc : Nat) (s : ByteArray) (p : Nat) (w : World) (hs : s.size ≤ 20000) (hp : p ≤ s.size) (h : ScAt w sc s p) (ht : Tabs w) (hsc : 5 < sc) (h0 : (tok s p).t ≠ ⟨#[48]⟩) (hn : isNameB (tok s p).t = false) (ho : (tok s p).t ≠ ⟨#[40]⟩) :
    Calls Tryd.prog 10 #[.pointer (some ⟨sc, 0, none⟩)] w fun e w' => Threw w sc 1 (runTo blankB s p) e w' := by
  have hx := next_all (s := s) (p := p) hs hp
  by_cases he : runTo blankB s p = s.size
  · rw [ntok_end he] at hx
    exact lev_other sc s p _ _ _ _ w hx h ht hsc (by simp) (by simp) (by simp)
  · have hk : runTo blankB s p < s.size := by have := runTo_le blankB s hp; omega
    obtain ⟨x1, x3, x4⟩ := scan_none (good := good) hk h0 hn ho
    have ht4 : ntext s p = s.extract (runTo blankB s p) (scanAt good s (runTo blankB s p)).2 := by unfold ntext; rw [if_neg he, ntok_in he]
    rw [ht4, ntok_in he] at hx
    by_cases h4 : (scanAt good s (runTo blankB s p)).1 = 4
    · have := x4 h4
      simp only [h4] at hx
      exact lev_digits sc s p _ _ _ w hx h ht hsc this
    · exact lev_other sc s p _ _ _ _ w hx h ht hsc x1 x3 h4

set_option maxRecDepth 100000 in
set_option maxHeartbeats 4000000 in
theorem lev_open_bad (sc : Nat) (s : ByteArray) (p p1 a : Nat) (w : World) (hs : s.size ≤ 20000) (hp : p ≤ s.size) (hr : SignAt s 40 p p1) (h : ScAt w sc s p) (ht : Tabs w) (hsc : 5 < sc)
    (hin : ∀ W, ScAt W sc s p1 → Tabs W → Calls Tryd.prog 18 #[.pointer (some ⟨sc, 0, none⟩)] W fun e w' => Threw W sc 1 a e w') :
    Calls Tryd.prog 10 #[.pointer (some ⟨sc, 0, none⟩)] w fun e w' => Threw w sc 1 a e w' := by
  have hlt := h.lt
  have K1 := hide (lev_expect sc s p 1 _ p1 _ w (hr.nexts hs hp 1 (.inl ⟨rfl, rfl⟩)) h ht hsc (.inl rfl))
  have K2 := hide hin
  have HTb := hide ht
  clear h ht hr hin
  generalize s.extract (runTo blankB s p) p1 = t at *
  generalize runTo blankB s p = k at *
  go_enter Tryd.func10, Tryd.ntmps10
  go_wp2_with (go_at_call 17; refine K1.out.mono ?_)
  rintro e w1 ⟨rfl, hS1, hT1⟩
  have hT2 := ((Touched.alloc w sc zlev).trans hT1).trans (Touched.alloc _ sc (.cells #[.int .i64 (1 : Nat), .int .i64 (k : Nat), .string t] 56))
  have K3 := hide (K2.out _ (hS1.alloc (.cells #[.int .i64 (1 : Nat), .int .i64 (k : Nat), .string t] 56)) (HTb.out.touched hT2 hsc))
  have HT2 := hide hT2
  clear hS1 hT1 hT2
  go_wp2_with (go_at_call 18; refine K3.out.mono ?_)
  intro e w3 h3
  have H3 := hide (h3.from HT2.out)
  obtain ⟨fb, rfl, -⟩ := h3
  go_wp2_with fail
  exact ⟨rfl, H3.out⟩

end Go.Proofs.YtmpepnckfghepaaDoor
